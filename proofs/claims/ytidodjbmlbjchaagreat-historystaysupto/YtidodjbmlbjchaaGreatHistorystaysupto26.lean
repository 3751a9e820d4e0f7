/- parts.CloneTypes. -/
import Derived.Test.YtidodjbmlbjchaaGreatHistorystaysupto25
namespace Go.Proofs.YtidodjbmlbjchaaGreat
open Go.RowKit

def fdCells (l : List FieldT) : List Value := l.flatMap fun f => [.string ⟨f.name.toArray⟩, .int .i64 f.kind, .string ⟨f.of.toArray⟩]
theorem fdCells_len (l : List FieldT) : (fdCells l).length = l.length * 3 := by
  induction l with
  | nil => rfl
  | cons p r ih => simp only [fdCells, List.flatMap_cons, List.length_append, List.length_cons, List.length_nil] at ih ⊢; omega
theorem fdCells_one (l : List FieldT) : ∀ u ∈ fdCells l, u.oneCell' = true := by
  intro u hu
  simp only [fdCells, List.mem_flatMap] at hu
  obtain ⟨s, _, hs⟩ := hu
  simp at hs
  rcases hs with rfl | rfl | rfl <;> rfl
theorem fdCells_get {l : List FieldT} : ∀ {i : Nat} {p : FieldT}, l[i]? = some p → (fdCells l)[i * 3]? = some (.string ⟨p.name.toArray⟩) ∧ (fdCells l)[i * 3 + 1]? = some (.int .i64 p.kind) ∧ (fdCells l)[i * 3 + 2]? = some (.string ⟨p.of.toArray⟩) := by
  induction l with
  | nil => intro i p h; simp at h
  | cons x r ih =>
    intro i p h
    simp only [fdCells, List.flatMap_cons]
    cases i with
    | zero => simp at h; subst h; exact ⟨rfl, rfl, rfl⟩
    | succ i =>
      have := ih (i := i) (p := p) (by simpa using h)
      unfold fdCells at this
      rw [show (i + 1) * 3 = i * 3 + 1 + 1 + 1 by omega]
      exact ⟨this.1, this.2.1, this.2.2⟩
theorem FldSl.news {P : Nat → Prop} {w : World} {ao : Option Addr} {n cap : Nat} {l : List FieldT} (h : FldSl P w (.slice ao n cap) l) : (ao = none → l.length = 0) ∧ ∀ ad, ao = some ad → ∀ j u, (fdCells l)[j]? = some u → w.cell? (ad.add j) = some u := by
  obtain ⟨ao', cap', hv, hl, h3⟩ := h
  cases hv
  constructor
  · intro e
    cases l with
    | nil => rfl
    | cons x t => obtain ⟨b, off, ha, _⟩ := h3 0 x rfl; rw [e] at ha; cases ha
  · intro ad had j u hu
    have hj : j < l.length * 3 := by have := (List.getElem?_eq_some_iff.1 hu).1; rwa [fdCells_len] at this
    have hi : j / 3 < l.length := by omega
    obtain ⟨b, off, ha, _, h0, h1, h2⟩ := h3 (j / 3) l[j / 3] (List.getElem?_eq_getElem hi)
    rw [had] at ha
    cases ha
    obtain ⟨g0, g1, g2⟩ := fdCells_get (List.getElem?_eq_getElem hi)
    rw [addr_add]
    have h3 : j % 3 = 0 ∨ j % 3 = 1 ∨ j % 3 = 2 := by omega
    rcases h3 with e | e | e
    · rw [show j / 3 * 3 = j by omega] at g0 h0
      rw [hu] at g0; cases g0
      exact h0
    · rw [show j / 3 * 3 + 1 = j by omega] at g1
      rw [hu] at g1; cases g1
      rw [show off + j / 3 * 3 + 1 = off + j by omega] at h1
      exact h1
    · rw [show j / 3 * 3 + 2 = j by omega] at g2
      rw [hu] at g2; cases g2
      rw [show off + j / 3 * 3 + 2 = off + j by omega] at h2
      exact h2

/-- fields in a row of the call's own -/
def FdO (lo hi : Nat) (w : World) (v : Value) (l : List FieldT) : Prop := w.ownsRow lo 58 3 v l.length (fdCells l) ∧ ∀ k, Row v k → k < hi
theorem FdO.keep {lo hi : Nat} {X : Nat → Prop} {w w' : World} {v : Value} {l : List FieldT} (h : FdO lo hi w v l) (hk : Kept X w w') (hx : ∀ k, Row v k → ¬ X k) : FdO lo hi w' v l := ⟨own_kept2 h.1 hk hx, h.2⟩
theorem FdO.apart {lo hi b n sz : Nat} {e : TypeId} {w : World} {v v' : Value} {l : List FieldT} {xs : List Value} (h : FdO lo hi w v l) (h' : w.ownsRow b e sz v' n xs) (hne : 58 ≠ e) (k : Nat) (hr : Row v k) : ¬ Row v' k := rows_apart h.1 h' hne k hr
theorem FdO.weak {lo hi lo' hi' : Nat} {w : World} {v : Value} {l : List FieldT} (h : FdO lo hi w v l) (h1 : lo' ≤ lo) (h2 : hi ≤ hi') : FdO lo' hi' w v l := ⟨own_low' h.1 h1, fun k hr => by have := h.2 k hr; omega⟩
theorem FdO.same {lo hi : Nat} {w w' : World} {v : Value} {l : List FieldT} (h : FdO lo hi w v l) (hk : Same w w') : FdO lo hi w' v l := h.keep hk (fun _ _ f => f)
theorem FdO.sl {lo hi : Nat} {w : World} {v : Value} {l : List FieldT} (h : FdO lo hi w v l) (hl : l.length ≤ maxLen) : FldSl (fun k => lo ≤ k ∧ k < hi) w v l := by
  rcases h.1.2 with ⟨rfl, h0⟩ | ⟨g, cap, cur, rfl, hg, hb, hc1, hc2, hc3, htk⟩
  · obtain rfl : l = [] := List.length_eq_zero_iff.1 h0
    exact ⟨none, 0, rfl, ⟨Nat.zero_le _, Nat.le_refl _⟩, fun i t h => by simp at h⟩
  · have hown : w.ownsRow lo 58 3 (.slice (some ⟨g, 0, none⟩) l.length cap) l.length (fdCells l) := h.1
    refine ⟨some ⟨g, 0, none⟩, cap, rfl, ⟨hl, by omega⟩, fun i e he => ?_⟩
    have hi : i < l.length := (List.getElem?_eq_some_iff.1 he).1
    obtain ⟨g0, g1, g2⟩ := fdCells_get he
    have c0 := World.ownsRow.cellAt hown (i * 3) (by omega)
    have c1 := World.ownsRow.cellAt hown (i * 3 + 1) (by omega)
    have c2 := World.ownsRow.cellAt hown (i * 3 + 2) (by omega)
    rw [g0] at c0
    rw [g1] at c1
    rw [g2] at c2
    exact ⟨g, 0, rfl, ⟨hg, h.2 g rfl⟩, by rw [Nat.zero_add]; exact c0, by rw [Nat.zero_add]; exact c1, by rw [Nat.zero_add]; exact c2⟩

theorem info_fd : (Tryz.prog.info? 58).map (fun i => (i.zero, i.size, i.bytes)) = some (some (.agg #[.string ⟨#[]⟩, .int .i64 0, .string ⟨#[]⟩]), 3, 40) := by kernel_rfl
theorem info_ty : (Tryz.prog.info? 61).map (fun i => (i.zero, i.size, i.bytes)) = some (some (.agg #[.string ⟨#[]⟩, .slice none 0 0]), 2, 40) := by kernel_rfl

theorem cloneF_any (P : Nat → Prop) (w : World) (v : Value) (l : List FieldT) (h : FldSl P w v l) (hl8 : l.length ≤ 1000) :
    Calls Tryz.prog 77 #[v] w fun r w' => ∃ a c, r = .returned (.slice a l.length c) ∧ FdO w.heap.size w'.heap.size w' (.slice a l.length c) l ∧ Same w w' := by
  obtain ⟨i0, hi, hz0, hz1, hz2⟩ := info_parts info_fd
  obtain ⟨ao, cap, rfl, ⟨hl63, hcap⟩, _⟩ := id h
  have HN := hide h.news
  have hl : l.length ≤ 9223372036854775807 := hl63
  clear h hl63
  go_enter Tryz.func77, Tryz.ntmps77
  go_wp2_with (at_builtin; refine wpl_append_any _ rfl _ _ 59 rfl w.heap.size 58 i0 _ 3 40 Tryz.underlying59 hi hz0 hz1 hz2 rfl (by decide) _ _ _ rfl (World.ownsRow_nil _ _ _ _) ao l.length cap (fdCells l) rfl HN.out.1 (fdCells_len l) HN.out.2 (fdCells_one l) ?y1 ?y2 (Nat.le_refl _) ?_)
  case y1 => unfold maxLen; omega
  case y2 => omega
  intro v5 w5 hown5 hgr5 _
  have hS5 : Same w w5 := (Kept.refl _ w).grown hgr5 (fun k hk hlt => by cases hk)
  obtain ⟨a5, c5, e5⟩ := own_slice hown5
  subst e5
  have HO := hide hown5
  clear hown5 hgr5
  go_wp2_with fail
  go_ret
  exact ⟨a5, c5, rfl, ⟨HO.out, fun k hk => (own_up HO.out k hk).2⟩, hS5⟩

theorem blk2' {w : World} {g : Nat} {x y : Value} {t : TypeId} (h : w.heap[g]? = some (.cells #[x, y] t (0, 0))) : w.cell? ⟨g, 0, none⟩ = some x ∧ w.cell? ⟨g, 1, none⟩ = some y := by
  simp [World.cell?, h]
theorem set2b' {w : World} {g : Nat} {x y : Value} {t : TypeId} (h : w.heap[g]? = some (.cells #[x, y] t (0, 0))) (a b : Value) : ((w.setCell ⟨g, 0, none⟩ a).setCell ⟨g, 1, none⟩ b).heap[g]? = some (.cells #[a, b] t (0, 0)) := by
  simp [World.setCell, Array.getElem?_modify, h]
theorem fro2' {w : World} {g : Nat} {x y : Value} {t : TypeId} (h : w.heap[g]? = some (.cells #[x, y] t (0, 0))) (o : Nat) : w.frozen? ⟨g, o, none⟩ = false := by
  simp [World.frozen?, h]
theorem new_two' {w : World} {b : Nat} {x y : Value} {t : TypeId} (h : w.heap[b]? = some (.cells #[x, y] t (0, 0))) : ∀ j u, [x, y][j]? = some u → w.cell? ((⟨b, 0, none⟩ : Addr).add j) = some u := by
  intro j u hj
  rw [addr_add, Nat.zero_add]
  unfold World.cell?
  rw [h]
  simpa using hj

abbrev tyV (t : TypeT) (v : Value) : Value := .agg #[.string ⟨t.name.toArray⟩, v]

set_option maxRecDepth 20000 in
set_option maxHeartbeats 1600000 in
theorem cloneY1_any (P : Nat → Prop) (w : World) (c : TypeT) (v : Value) (h : FldSl P w v c.fields) (hl8 : c.fields.length ≤ 1000) :
    Calls Tryz.prog 76 #[tyV c v] w fun r w' => ∃ a cc, r = .returned (tyV c (.slice a c.fields.length cc)) ∧ FdO w.heap.size w'.heap.size w' (.slice a c.fields.length cc) c.fields ∧ Same w w' := by
  obtain ⟨ao, cap, rfl, _, _⟩ := id h
  obtain ⟨tx, ids⟩ := c
  simp only at h hl8 ⊢
  obtain ⟨W, hW⟩ : ∃ W, W = (w.alloc (.cells #[.string ⟨tx.toArray⟩, .slice ao ids.length cap] 61)).alloc (.cells #[.string ⟨#[]⟩, .slice none 0 0] 61) := ⟨_, rfl⟩
  obtain ⟨g, hg⟩ : ∃ g, g = w.heap.size := ⟨_, rfl⟩
  obtain ⟨g1, hg1⟩ : ∃ g, g = w.heap.size + 1 := ⟨_, rfl⟩
  have HKW := hide (show Same w W by rw [hW]; exact ((Kept.refl _ w).alloc _).alloc _)
  have HG := hide (show W.heap[g]? = some (.cells #[.string ⟨tx.toArray⟩, .slice ao ids.length cap] 61 (0, 0)) by rw [hW, hg]; exact al_o _ _ _)
  have HR := hide (show W.heap[g1]? = some (.cells #[.string ⟨#[]⟩, .slice none 0 0] 61 (0, 0)) by rw [hW, hg1]; exact al_n _ _ _)
  have HCL := hide (fun wy (hy : Same W wy) => cloneF_any P wy _ ids (h.same (tra HKW.out hy)) hl8)
  have hWs : g < g1 ∧ g1 < W.heap.size ∧ w.heap.size ≤ g := by rw [hW, hg, hg1]; simp
  obtain ⟨hs1, hs2, hs3⟩ := hWs
  obtain ⟨c0, c1⟩ := blk2' HG.out
  have HALL := hide (fun wy (hy : Same W wy) => (⟨hy.cell c0 (fun f => f), hy.cell c1 (fun f => f)⟩ : wy.cell? ⟨g, 0, none⟩ = _ ∧ wy.cell? ⟨g, 1, none⟩ = _))
  have hKc : Same W W := Kept.refl _ _
  have hne : g1 ≠ g := by omega
  have hne' : g ≠ g1 := by omega
  obtain ⟨p0, p1⟩ := blk2' HR.out
  have p2 := fro2' HR.out
  clear h
  go_enter Tryz.func76, Tryz.ntmps76
  go_wp2_with fail
  rw [← hW, ← hg1, ← hg]
  clear hW hg hg1
  go_region_held3 (fun w' => w'.cell? ⟨g, 0, none⟩ = some (.string ⟨tx.toArray⟩) ∧ w'.cell? ⟨g, 1, none⟩ = some (.slice ao ids.length cap)) (go_keep)
    ((go_at_call 77; refine (HCL.out _ (by first | exact hKc.drewN _ | exact hKc.drew | exact hKc)).mono ?_; rintro e wq ⟨a, cc, rfl, hid, hKq⟩; have hKc := tra (by first | exact hKc.drewN _ | exact hKc.drew | exact hKc) hKq; obtain ⟨c0, c1⟩ := HALL.out _ hKc; obtain ⟨p0, p1⟩ := blk2' (blk_kept HR.out hKc (fun f => f)); have p2 := fro2' (blk_kept HR.out hKc (fun f => f))))
  have hKW := HKW.out
  have hR1 := blk_kept HR.out hKc (fun f => f)
  obtain ⟨q0, q1⟩ := blk2' (set2b' hR1 (.string ⟨tx.toArray⟩) (.slice a ids.length cc))
  have hK3 : Kept (· = g1) wq ((wq.setCell ⟨g1, 0, none⟩ (.string ⟨tx.toArray⟩)).setCell ⟨g1, 1, none⟩ (.slice a ids.length cc)) := ((Kept.refl _ wq).setB 0 _).setB 1 _
  have hlt : ∀ k, Row (.slice a ids.length cc) k → W.heap.size ≤ k := fun k hr => by have := (own_up hid.1 k hr).1; simpa using this
  have HI := hide (show FdO w.heap.size ((wq.setCell ⟨g1, 0, none⟩ (.string ⟨tx.toArray⟩)).setCell ⟨g1, 1, none⟩ (.slice a ids.length cc)).heap.size ((wq.setCell ⟨g1, 0, none⟩ (.string ⟨tx.toArray⟩)).setCell ⟨g1, 1, none⟩ (.slice a ids.length cc)) (.slice a ids.length cc) ids from by
    have h3 := hid.keep hK3 (fun k hr e => by have := hlt k hr; omega)
    exact h3.weak (by have := hKW.size; simp; omega) hK3.size)
  have HS := hide (show Same w ((wq.setCell ⟨g1, 0, none⟩ (.string ⟨tx.toArray⟩)).setCell ⟨g1, 1, none⟩ (.slice a ids.length cc)) from (tra hKW hKc).trans hK3 (fun i hi e => by omega))
  clear hid hKq hK3 hR1
  go_wp2_with fail
  exact bodyPost_ret (v := tyV ⟨tx, ids⟩ (.slice a ids.length cc)) (by simp [results, Tryz.results76, go_sem, q0, q1]) rfl ⟨a, cc, rfl, HI.out, HS.out⟩

/-- types with the values of their fields -/
def tyCells (tp : List (TypeT × Value)) : List Value := tp.flatMap fun p => [.string ⟨p.1.name.toArray⟩, p.2]
theorem tyCells_app (a b : List (TypeT × Value)) : tyCells (a ++ b) = tyCells a ++ tyCells b := by simp [tyCells]
theorem tyCells_get {l : List (TypeT × Value)} : ∀ {i : Nat} {p : TypeT × Value}, l[i]? = some p → (tyCells l)[i * 2]? = some (.string ⟨p.1.name.toArray⟩) ∧ (tyCells l)[i * 2 + 1]? = some p.2 := by
  induction l with
  | nil => intro i p h; simp at h
  | cons x r ih =>
    intro i p h
    simp only [tyCells, List.flatMap_cons]
    cases i with
    | zero => simp at h; subst h; exact ⟨rfl, rfl⟩
    | succ i =>
      have := ih (i := i) (p := p) (by simpa using h)
      unfold tyCells at this
      rw [show (i + 1) * 2 = i * 2 + 1 + 1 by omega]
      exact ⟨this.1, this.2⟩
/-- types in a row of the call's own -/
def TyO (lo hi : Nat) (w : World) (v : Value) (l : List TypeT) : Prop :=
  ∃ (tp : List (TypeT × Value)) (D : Nat → Nat), tp.map Prod.fst = l ∧ w.ownsRow lo 61 2 v tp.length (tyCells tp) ∧ (∀ k, Row v k → k < hi) ∧ lo ≤ D 0 ∧ (∀ i, i < tp.length → D i ≤ D (i + 1)) ∧ D tp.length ≤ hi ∧
    ∀ i p, tp[i]? = some p → FdO (D i) (D (i + 1)) w p.2 p.1.fields
theorem TyO.sl {lo hi : Nat} {w : World} {v : Value} {l : List TypeT} (h : TyO lo hi w v l) (hl : l.length ≤ maxLen) (hi6 : ∀ c ∈ l, c.fields.length ≤ maxLen) : TypSl (fun k => lo ≤ k ∧ k < hi) w v l := by
  obtain ⟨cp, D, rfl, hown, hhi, hD0, hDm, hDn, hids⟩ := h
  have hlen : (cp.map Prod.fst).length = cp.length := by simp
  rcases hown.2 with ⟨rfl, h0⟩ | ⟨g, cap, cur, rfl, hg, hb, hc1, hc2, hc3, htk⟩
  · obtain rfl : cp = [] := List.length_eq_zero_iff.1 h0
    exact ⟨none, 0, rfl, ⟨Nat.zero_le _, Nat.le_refl _⟩, fun i t h => by simp at h⟩
  · have hown' : w.ownsRow lo 61 2 (.slice (some ⟨g, 0, none⟩) cp.length cap) cp.length (tyCells cp) := hown
    refine ⟨some ⟨g, 0, none⟩, cap, by rw [hlen], ⟨hl, by rw [hlen]; omega⟩, fun i e he => ?_⟩
    rw [List.getElem?_map] at he
    cases hp : cp[i]? with
    | none => rw [hp] at he; cases he
    | some p =>
      rw [hp] at he
      cases he
      have hi : i < cp.length := (List.getElem?_eq_some_iff.1 hp).1
      obtain ⟨g1, g2⟩ := tyCells_get hp
      have c0 := World.ownsRow.cellAt hown' (i * 2) (by omega)
      have c1 := World.ownsRow.cellAt hown' (i * 2 + 1) (by omega)
      rw [g1] at c0
      rw [g2] at c1
      have hd1 := D_mono hDm i 0 (by omega) (by omega)
      have hd2 := D_mono hDm cp.length (i + 1) (by omega) (Nat.le_refl _)
      refine ⟨g, 0, p.2, rfl, ⟨hg, hhi g rfl⟩, by rw [Nat.zero_add]; exact c0, by rw [Nat.zero_add]; exact c1, ?_⟩
      exact ((hids i p hp).sl (hi6 p.1 (List.mem_map_of_mem (List.mem_of_getElem? hp)))).mono (fun k _ hk => ⟨by omega, by omega⟩)

/-- types as they grow -/
structure TyG (lo : Nat) (w : World) (v : Value) (cp : List (TypeT × Value)) (D : Nat → Nat) : Prop where
  own : w.ownsRow lo 61 2 v cp.length (tyCells cp)
  d0 : lo ≤ D 0
  dm : ∀ i, i < cp.length → D i ≤ D (i + 1)
  dn : D cp.length ≤ w.heap.size
  ids : ∀ i p, cp[i]? = some p → FdO (D i) (D (i + 1)) w p.2 p.1.fields

theorem TyG.nil (w : World) (lo : Nat) (h : lo ≤ w.heap.size) : TyG lo w (.slice none 0 0) [] (fun _ => lo) :=
  ⟨World.ownsRow_nil _ _ _ _, Nat.le_refl _, fun i h => by simp at h, h, fun i p h => by simp at h⟩
theorem TyG.same {lo : Nat} {w w' : World} {v : Value} {cp : List (TypeT × Value)} {D : Nat → Nat} (h : TyG lo w v cp D) (k : Same w w') : TyG lo w' v cp D :=
  ⟨own_kept h.own k (fun _ _ f => f), h.d0, h.dm, Nat.le_trans h.dn k.size, fun i p hp => (h.ids i p hp).same k⟩

theorem TyG.step {lo lo' hi' : Nat} {w w1 w3 : World} {v v3 iv : Value} {cp : List (TypeT × Value)} {D : Nat → Nat} {c : TypeT} {o : Obj} (h : TyG lo w v cp D) (k : Same w w1) (hi : FdO lo' hi' w1 iv c.fields) (hlo : w.heap.size ≤ lo') (hhi : hi' ≤ w1.heap.size)
    (hown : w3.ownsRow lo 61 2 v3 (cp.length + 1) (tyCells cp ++ [.string ⟨c.name.toArray⟩, iv])) (hgr : (w1.alloc o).grownBy w3 v.ownBlock) :
    TyG lo w3 v3 (cp ++ [(c, iv)]) (fun j => if j ≤ cp.length then D j else w3.heap.size) := by
  have h1 := h.same k
  have hsz : w1.heap.size ≤ w3.heap.size := by have := hgr.size; simp at this; omega
  have hkA : Same w1 (w1.alloc o) := (Kept.refl _ w1).alloc o
  have hkG := grown_kept hgr
  have hownA := own_kept h1.own hkA (fun _ _ f => f)
  refine ⟨?_, ?_, ?_, ?_, ?_⟩
  · rw [List.length_append, tyCells_app]; exact hown
  · show lo ≤ (if 0 ≤ cp.length then D 0 else w3.heap.size)
    rw [if_pos (Nat.zero_le _)]; exact h.d0
  · intro i hi2
    simp only [List.length_append, List.length_cons, List.length_nil] at hi2
    rw [if_pos (by omega)]
    by_cases hi3 : i + 1 ≤ cp.length
    · rw [if_pos hi3]; exact h.dm i (by omega)
    · rw [if_neg hi3]
      have : i = cp.length := by omega
      rw [this]
      have := h1.dn
      omega
  · simp only [List.length_append, List.length_cons, List.length_nil]
    rw [if_neg (by omega)]
    exact Nat.le_refl _
  · intro i p hp
    rcases Nat.lt_or_ge i cp.length with hlt | hge
    · rw [List.getElem?_append_left hlt] at hp
      rw [if_pos (by omega), if_pos (by omega)]
      have h2 := (h1.ids i p hp).same hkA
      exact h2.keep hkG (fun k hr e => h2.apart hownA (by decide) k hr e.symm)
    · rw [List.getElem?_append_right hge] at hp
      have h0 : i - cp.length = 0 := by
        have := (List.getElem?_eq_some_iff.1 hp).1
        simp at this; omega
      rw [h0] at hp
      cases hp
      have hie : i = cp.length := by omega
      rw [if_pos (by omega), if_neg (by omega)]
      have h2 := hi.same hkA
      have h3 := h2.keep hkG (fun k hr e => h2.apart hownA (by decide) k hr e.symm)
      rw [hie]
      have := h.dn
      exact h3.weak (by omega) (by omega)

theorem TyG.o {lo : Nat} {w : World} {v : Value} {cp : List (TypeT × Value)} {D : Nat → Nat} (h : TyG lo w v cp D) {l : List TypeT} (hl : cp.map Prod.fst = l) : TyO lo w.heap.size w v l :=
  ⟨cp, D, hl, h.own, fun k hr => (own_up h.own k hr).2, h.d0, h.dm, h.dn, h.ids⟩

set_option maxRecDepth 20000 in
set_option maxHeartbeats 3200000 in
theorem clonedY_any (P : Nat → Prop) (w : World) (v : Value) (l : List TypeT) (h : TypSl P w v l) (hl : l.length ≤ 1000) (hi6 : ∀ c ∈ l, c.fields.length ≤ 1000) :
    Calls Tryz.prog 75 #[v, .func (.func 76) #[] #[]] w fun r w' => ∃ a c, r = .returned (.slice a l.length c) ∧ TyO w.heap.size w'.heap.size w' (.slice a l.length c) l ∧ Same w w' := by
  obtain ⟨i0, hi, hz0, hz1, hz2⟩ := info_parts info_ty
  obtain ⟨ao, cap, rfl, ⟨hl63', hcap⟩, _⟩ := id h
  have hl63 : l.length ≤ 9223372036854775807 := hl63'
  clear hl63'
  have HH := hide h
  have HI6 := hide hi6
  have hcf : ∀ (args : Array Value) (w : World), (callFunc 76 args).run Tryz.prog w = .ok (.enter 76 args) w := by intro args w; kernel_rfl
  clear h hi6
  go_enter Tryz.func75, Tryz.ntmps75
  go_wp2_with fail
  go_loopg [5, 10] l.length (fun gk ov iv wr => ∃ (cp : List (TypeT × Value)) (D : Nat → Nat), iv = .int .i64 cp.length ∧ cp.length + gk = l.length ∧ Hid (cp.map Prod.fst = l.take cp.length) ∧ Hid (Same w wr) ∧ Hid (TyG w.heap.size wr ov cp D))
  case atStart => exact ⟨[], _, rfl, by simp, rfl, Kept.refl _ _, TyG.nil w _ (Nat.le_refl _)⟩
  case round =>
    obtain ⟨cp, D, rfl, hig, HCP, HK, HG⟩ := hrel
    obtain ⟨i, hi1⟩ : ∃ i, i = cp.length := ⟨_, rfl⟩
    rw [← hi1] at hig HCP ⊢
    obtain ⟨oa, oc, hov⟩ := own_slice HG.out.own
    rw [← hi1] at hov
    subst hov
    have HOWN := hide (show wr.ownsRow w.heap.size 61 2 (.slice oa i oc) i (tyCells cp) by have := HG.out.own; rw [← hi1] at this; exact this)
    have HI := hide hi1
    clear hi1
    by_cases hlt : i < l.length
    · obtain ⟨b, off, ai, ni, ci, hao, c0, c1, hni, hids⟩ := (HH.out.same HK.out).at i hlt
      subst hao
      have HT := hide (show l.take (i + 1) = l.take i ++ [l[i]] from List.take_succ_eq_append_getElem hlt)
      have h6 := HI6.out l[i] (List.getElem_mem hlt)
      obtain ⟨c, hc⟩ : ∃ c, c = l[i] := ⟨_, rfl⟩
      rw [← hc] at c0 hni hids HT h6
      subst hni
      obtain ⟨W, hW⟩ : ∃ W, W = wr.alloc (.cells #[.string ⟨c.name.toArray⟩, .slice ai c.fields.length ci] 61) := ⟨_, rfl⟩
      have HKr := hide (show Same wr W by rw [hW]; exact (Kept.refl _ wr).alloc _)
      have HC := hide (cloneY1_any P W c _ (hids.same HKr.out) h6)
      clear hc hids h6
      go_wp2_with fail
      rw [← hW]
      refine HC.out.mono ?_
      clear HC c0 c1
      rintro r w1 ⟨a1, cc1, rfl, hid, hK1⟩
      have HID := hide hid
      have HK1 := hide (tra HKr.out hK1)
      have HLO := hide (show wr.heap.size ≤ W.heap.size from HKr.out.size)
      have hsz1 : w.heap.size ≤ (w1.alloc (.cells #[.string ⟨c.name.toArray⟩, .slice a1 c.fields.length cc1] 61)).heap.size := by
        have e1 := HK.out.size
        have e2 := HK1.out.size
        simp; omega
      have hownA := own_kept (own_kept HOWN.out HK1.out (fun _ _ f => f)) ((Kept.refl (fun _ => False) w1).alloc (.cells #[.string ⟨c.name.toArray⟩, .slice a1 c.fields.length cc1] 61)) (fun _ _ f => f)
      have HNA := hide (heap_alloc_new w1 (.cells #[.string ⟨c.name.toArray⟩, .slice a1 c.fields.length cc1] 61))
      have HSZ := hide hsz1
      clear hid hK1 hW hsz1
      go_wp2_with (at_builtin; refine wpl_append_any _ rfl _ _ 22 rfl w.heap.size 61 i0 _ 2 40 Tryz.underlying22 hi hz0 hz1 hz2 rfl (by decide) _ _ _ rfl hownA (some ⟨w1.heap.size, 0, none⟩) 1 1 [.string ⟨c.name.toArray⟩, .slice a1 c.fields.length cc1] rfl (fun e => by cases e) rfl (fun ad had => by cases had; exact new_two' HNA.out) (by intro u hu; simp at hu; rcases hu with rfl | rfl <;> rfl) ?y1 ?y2 HSZ.out ?_)
      case y1 => unfold maxLen; omega
      case y2 => omega
      intro v5 w5 hown5 hgr5 _
      obtain ⟨a5, c5, hv5⟩ := own_slice hown5
      subst hv5
      have HG5 := hide (HG.out.step HK1.out HID.out HLO.out (Nat.le_refl _) (by rw [← HI.out]; exact hown5) hgr5)
      have HK5 := hide (show Same w w5 from Kept.grown ((tra HK.out HK1.out).alloc _) hgr5 (fun k hk hlt => by have := (own_up HG.out.own k hk).1; omega))
      have HCP5 := hide (show (cp ++ [(c, Value.slice a1 c.fields.length cc1)]).map Prod.fst = l.take (i + 1) by rw [HT.out, List.map_append, HCP.out]; rfl)
      clear hown5 hgr5
      go_wp2_with fail
      go_roundg (gk - 1)
      case measure => omega
      case rel => exact ⟨_, _, by rw [List.length_append, ← HI.out]; go_num, by rw [List.length_append, ← HI.out]; simp; omega, by rw [List.length_append, ← HI.out]; exact HCP5.out, HK5.out, HG5.out⟩
    · have HF := hide (show TyO w.heap.size wr.heap.size wr (.slice oa i oc) l from HG.out.o (by rw [HCP.out]; exact List.take_of_length_le (by omega)))
      have HIL := hide (show i = l.length by omega)
      go_wp2_with fail
      go_ret
      exact ⟨oa, oc, by rw [← HIL.out]; rfl, by rw [← HIL.out]; exact HF.out, HK.out⟩


end Go.Proofs.YtidodjbmlbjchaaGreat
