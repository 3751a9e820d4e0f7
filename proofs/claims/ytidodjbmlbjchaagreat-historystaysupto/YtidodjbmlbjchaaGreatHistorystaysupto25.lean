/- parts.cloneThing, parts.cloned of things. -/
import Derived.Test.YtidodjbmlbjchaaGreatHistorystaysupto24
namespace Go.Proofs.YtidodjbmlbjchaaGreat
open Go.RowKit

theorem CeO.keep {lo hi : Nat} {X : Nat → Prop} {w w' : World} {v : Value} {l : List CellT} (h : CeO lo hi w v l) (hk : Kept X w w') (hx : ∀ k, lo ≤ k → k < hi → ¬ X k) : CeO lo hi w' v l := by
  obtain ⟨cp, D, h1, h2, h3, h4, h5, h6, h7⟩ := h
  refine ⟨cp, D, h1, own_kept2 h2 hk (fun k hr => hx k (own_up h2 k hr).1 (h3 k hr)), h3, h4, h5, h6, fun i p hp => (h7 i p hp).keep hk (fun k hr => ?_)⟩
  have hi : i < cp.length := (List.getElem?_eq_some_iff.1 hp).1
  have e1 := D_mono h5 i 0 (by omega) (by omega)
  have e2 := D_mono h5 cp.length (i + 1) (by omega) (Nat.le_refl _)
  have e3 := (own_up (h7 i p hp).1 k hr).1
  have e4 := (h7 i p hp).2 k hr
  exact hx k (by omega) (by omega)
theorem CeO.same {lo hi : Nat} {w w' : World} {v : Value} {l : List CellT} (h : CeO lo hi w v l) (hk : Same w w') : CeO lo hi w' v l := h.keep hk (fun _ _ _ f => f)
theorem CeO.weak {lo hi lo' hi' : Nat} {w : World} {v : Value} {l : List CellT} (h : CeO lo hi w v l) (e1 : lo' ≤ lo) (e2 : hi ≤ hi') : CeO lo' hi' w v l := by
  obtain ⟨cp, D, h1, h2, h3, h4, h5, h6, h7⟩ := h
  exact ⟨cp, D, h1, own_low' h2 e1, fun k hr => by have := h3 k hr; omega, by omega, h5, by omega, h7⟩
/-- cells do not lie in a row of things -/
theorem CeO.keepT {lo hi b n : Nat} {w w' : World} {v v' : Value} {l : List CellT} {xs : List Value} (h : CeO lo hi w v l) (h' : w.ownsRow b 68 3 v' n xs) (hk : Kept (fun k => some k = v'.ownBlock) w w') : CeO lo hi w' v l := by
  obtain ⟨cp, D, h1, h2, h3, h4, h5, h6, h7⟩ := h
  exact ⟨cp, D, h1, own_kept2 h2 hk (fun k hr e => rows_apart h2 h' (by decide) k hr e.symm), h3, h4, h5, h6, fun i p hp => (h7 i p hp).keep hk (fun k hr e => (h7 i p hp).apart h' (by decide) k hr e.symm)⟩

/-- things with the values of their cells -/
def thCells (tp : List (ThingT × Value)) : List Value := tp.flatMap fun p => [.int .i64 p.1.ty, .int .i64 p.1.id, p.2]
theorem thCells_len (tp : List (ThingT × Value)) : (thCells tp).length = tp.length * 3 := by
  induction tp with
  | nil => rfl
  | cons p r ih => simp only [thCells, List.flatMap_cons, List.length_append, List.length_cons, List.length_nil] at ih ⊢; omega
theorem thCells_app (a b : List (ThingT × Value)) : thCells (a ++ b) = thCells a ++ thCells b := by simp [thCells]
theorem thCells_get {l : List (ThingT × Value)} : ∀ {i : Nat} {p : ThingT × Value}, l[i]? = some p → (thCells l)[i * 3]? = some (.int .i64 p.1.ty) ∧ (thCells l)[i * 3 + 1]? = some (.int .i64 p.1.id) ∧ (thCells l)[i * 3 + 2]? = some p.2 := by
  induction l with
  | nil => intro i p h; simp at h
  | cons x r ih =>
    intro i p h
    simp only [thCells, List.flatMap_cons]
    cases i with
    | zero => simp at h; subst h; exact ⟨rfl, rfl, rfl⟩
    | succ i =>
      have := ih (i := i) (p := p) (by simpa using h)
      unfold thCells at this
      rw [show (i + 1) * 3 = i * 3 + 1 + 1 + 1 by omega]
      exact ⟨this.1, this.2.1, this.2.2⟩

/-- things in a row of the call's own, in blocks from lo to hi; the cells of thing i from D i to D (i + 1) -/
def ThO (lo hi : Nat) (w : World) (v : Value) (l : List ThingT) : Prop :=
  ∃ (tp : List (ThingT × Value)) (D : Nat → Nat), tp.map Prod.fst = l ∧ w.ownsRow lo 68 3 v tp.length (thCells tp) ∧ (∀ k, Row v k → k < hi) ∧ lo ≤ D 0 ∧ (∀ i, i < tp.length → D i ≤ D (i + 1)) ∧ D tp.length ≤ hi ∧
    ∀ i p, tp[i]? = some p → CeO (D i) (D (i + 1)) w p.2 p.1.cells

set_option maxRecDepth 20000 in
set_option maxHeartbeats 1600000 in
theorem cloneT1_any (P : Nat → Prop) (w : World) (t : ThingT) (v : Value) (h : CelSl P w v t.cells) (hl8 : t.cells.length ≤ 1000) (hi6 : ∀ c ∈ t.cells, c.ids.length ≤ 1000) :
    Calls Tryz.prog 56 #[thV t v] w fun r w' => ∃ a cc, r = .returned (thV t (.slice a t.cells.length cc)) ∧ CeO w.heap.size w'.heap.size w' (.slice a t.cells.length cc) t.cells ∧ Same w w' := by
  obtain ⟨ao, cap, rfl, _, _⟩ := id h
  obtain ⟨n, tx, ids⟩ := t
  simp only at h hl8 hi6 ⊢
  obtain ⟨W, hW⟩ : ∃ W, W = (w.alloc (.cells #[.int .i64 n, .int .i64 tx, .slice ao ids.length cap] 68)).alloc (.cells #[.int .i64 0, .int .i64 0, .slice none 0 0] 68) := ⟨_, rfl⟩
  obtain ⟨g, hg⟩ : ∃ g, g = w.heap.size := ⟨_, rfl⟩
  obtain ⟨g1, hg1⟩ : ∃ g, g = w.heap.size + 1 := ⟨_, rfl⟩
  have HKW := hide (show Same w W by rw [hW]; exact ((Kept.refl _ w).alloc _).alloc _)
  have HG := hide (show W.heap[g]? = some (.cells #[.int .i64 n, .int .i64 tx, .slice ao ids.length cap] 68 (0, 0)) by rw [hW, hg]; exact al_o _ _ _)
  have HR := hide (show W.heap[g1]? = some (.cells #[.int .i64 0, .int .i64 0, .slice none 0 0] 68 (0, 0)) by rw [hW, hg1]; exact al_n _ _ _)
  have HCL := hide (clonedC_any P W _ ids (h.same HKW.out) hl8 hi6)
  have hWs : g < g1 ∧ g1 < W.heap.size ∧ w.heap.size ≤ g := by rw [hW, hg, hg1]; simp
  obtain ⟨hs1, hs2, hs3⟩ := hWs
  obtain ⟨c0, c1, c2⟩ := blk3 HG.out
  clear h hi6
  go_enter Tryz.func56, Tryz.ntmps56
  go_wp2_with fail
  rw [← hW, ← hg1, ← hg]
  clear hW hg hg1
  refine HCL.out.mono ?_
  clear HCL
  rintro r w1 ⟨a, cc, rfl, hid, hK1⟩
  have hG1 := blk_kept HG.out hK1 (fun f => f)
  have hR1 := blk_kept HR.out hK1 (fun f => f)
  obtain ⟨w2, hw2⟩ : ∃ w2, w2 = w1.setCell ⟨g, 2, none⟩ (.slice a ids.length cc) := ⟨_, rfl⟩
  have hK2 : Kept (· = g) w1 w2 := by rw [hw2]; exact (Kept.refl _ w1).setB 2 _
  have hG2 : w2.heap[g]? = some (.cells #[.int .i64 n, .int .i64 tx, .slice a ids.length cc] 68 (0, 0)) := by rw [hw2]; exact blkset2 hG1 _
  have hR2 := blk_kept hR1 hK2 (by show ¬ g1 = g; omega)
  obtain ⟨w3, hw3⟩ : ∃ w3, w3 = ((w2.setCell ⟨g1, 0, none⟩ (.int .i64 n)).setCell ⟨g1, 1, none⟩ (.int .i64 tx)).setCell ⟨g1, 2, none⟩ (.slice a ids.length cc) := ⟨_, rfl⟩
  have hK3 : Kept (· = g1) w2 w3 := by rw [hw3]; exact (((Kept.refl _ w2).setB 0 _).setB 1 _).setB 2 _
  have hR3 : w3.heap[g1]? = some (.cells #[.int .i64 n, .int .i64 tx, .slice a ids.length cc] 68 (0, 0)) := by rw [hw3]; exact blkset3 hR2 _ _ _
  have HI := hide (show CeO w.heap.size w3.heap.size w3 (.slice a ids.length cc) ids from by
    have h3 := (hid.keep hK2 (fun k hk _ e => by omega)).keep hK3 (fun k hk _ e => by omega)
    exact h3.weak HKW.out.size (Nat.le_trans hK2.size hK3.size))
  have HS := hide (show Same w w3 from by
    have h1 : Same w w1 := tra HKW.out hK1
    have h2 : Same w w2 := h1.trans hK2 (fun i hi e => by omega)
    exact h2.trans hK3 (fun i hi e => by omega))
  obtain ⟨r0, r1, r2⟩ := blk3 hR3
  obtain ⟨x0, x1, x2⟩ := blk3 hG1
  obtain ⟨y0, y1, y2⟩ := blk3 hG2
  obtain ⟨p0, p1, p2⟩ := blk3 hR2
  have xf := fro3 hG1
  have pf := fro3 hR2
  clear hK1 hK2 hK3 hid hG1 hR1 hG2 hR2 hR3 c0 c1 c2
  go_upto_region 2 with fail
  rw [← hw2]
  clear x0 x1 x2 xf hw2
  go_wp2_with fail
  rw [← hw3]
  exact bodyPost_ret (v := thV ⟨n, tx, ids⟩ (.slice a ids.length cc)) (by simp [results, Tryz.results56, go_sem, r0, r1, r2]) rfl ⟨a, cc, rfl, HI.out, HS.out⟩


/-- things as they grow -/
structure ThG (lo : Nat) (w : World) (v : Value) (cp : List (ThingT × Value)) (D : Nat → Nat) : Prop where
  own : w.ownsRow lo 68 3 v cp.length (thCells cp)
  d0 : lo ≤ D 0
  dm : ∀ i, i < cp.length → D i ≤ D (i + 1)
  dn : D cp.length ≤ w.heap.size
  ids : ∀ i p, cp[i]? = some p → CeO (D i) (D (i + 1)) w p.2 p.1.cells

theorem ThG.nil (w : World) (lo : Nat) (h : lo ≤ w.heap.size) : ThG lo w (.slice none 0 0) [] (fun _ => lo) :=
  ⟨World.ownsRow_nil _ _ _ _, Nat.le_refl _, fun i h => by simp at h, h, fun i p h => by simp at h⟩
theorem ThG.same {lo : Nat} {w w' : World} {v : Value} {cp : List (ThingT × Value)} {D : Nat → Nat} (h : ThG lo w v cp D) (k : Same w w') : ThG lo w' v cp D :=
  ⟨own_kept h.own k (fun _ _ f => f), h.d0, h.dm, Nat.le_trans h.dn k.size, fun i p hp => (h.ids i p hp).same k⟩

theorem ThG.step {lo lo' hi' : Nat} {w w1 w3 : World} {v v3 iv : Value} {cp : List (ThingT × Value)} {D : Nat → Nat} {c : ThingT} {o : Obj} (h : ThG lo w v cp D) (k : Same w w1) (hi : CeO lo' hi' w1 iv c.cells) (hlo : w.heap.size ≤ lo') (hhi : hi' ≤ w1.heap.size)
    (hown : w3.ownsRow lo 68 3 v3 (cp.length + 1) (thCells cp ++ [.int .i64 c.ty, .int .i64 c.id, iv])) (hgr : (w1.alloc o).grownBy w3 v.ownBlock) :
    ThG lo w3 v3 (cp ++ [(c, iv)]) (fun j => if j ≤ cp.length then D j else w3.heap.size) := by
  have h1 := h.same k
  have hsz : w1.heap.size ≤ w3.heap.size := by have := hgr.size; simp at this; omega
  have hkA : Same w1 (w1.alloc o) := (Kept.refl _ w1).alloc o
  have hkG := grown_kept hgr
  have hownA := own_kept h1.own hkA (fun _ _ f => f)
  refine ⟨?_, ?_, ?_, ?_, ?_⟩
  · rw [List.length_append, thCells_app]; exact hown
  · show lo ≤ (if 0 ≤ cp.length then D 0 else w3.heap.size)
    rw [if_pos (Nat.zero_le _)]; exact h.d0
  · intro i hi2
    simp only [List.length_append, List.length_cons, List.length_nil] at hi2
    rw [if_pos (by omega)]
    by_cases hi3 : i + 1 ≤ cp.length
    · rw [if_pos hi3]; exact h.dm i (by omega)
    · rw [if_neg hi3]
      have : i = cp.length := by omega
      rw [this]
      have := h1.dn
      omega
  · simp only [List.length_append, List.length_cons, List.length_nil]
    rw [if_neg (by omega)]
    exact Nat.le_refl _
  · intro i p hp
    rcases Nat.lt_or_ge i cp.length with hlt | hge
    · rw [List.getElem?_append_left hlt] at hp
      rw [if_pos (by omega), if_pos (by omega)]
      have h2 := (h1.ids i p hp).same hkA
      exact h2.keepT hownA hkG
    · rw [List.getElem?_append_right hge] at hp
      have h0 : i - cp.length = 0 := by
        have := (List.getElem?_eq_some_iff.1 hp).1
        simp at this; omega
      rw [h0] at hp
      cases hp
      have hie : i = cp.length := by omega
      rw [if_pos (by omega), if_neg (by omega)]
      have h2 := hi.same hkA
      have h3 := h2.keepT hownA hkG
      rw [hie]
      have := h.dn
      exact h3.weak (by omega) (by omega)

theorem ThG.o {lo : Nat} {w : World} {v : Value} {cp : List (ThingT × Value)} {D : Nat → Nat} (h : ThG lo w v cp D) {l : List ThingT} (hl : cp.map Prod.fst = l) : ThO lo w.heap.size w v l :=
  ⟨cp, D, hl, h.own, fun k hr => (own_up h.own k hr).2, h.d0, h.dm, h.dn, h.ids⟩

set_option maxRecDepth 20000 in
set_option maxHeartbeats 3200000 in
theorem clonedT_any (P : Nat → Prop) (w : World) (v : Value) (l : List ThingT) (h : ThgSl P w v l) (hl : l.length ≤ 1000) (hi6 : ∀ t ∈ l, t.cells.length ≤ 1000 ∧ ∀ c ∈ t.cells, c.ids.length ≤ 1000) :
    Calls Tryz.prog 55 #[v, .func (.func 56) #[] #[]] w fun r w' => ∃ a c, r = .returned (.slice a l.length c) ∧ ThO w.heap.size w'.heap.size w' (.slice a l.length c) l ∧ Same w w' := by
  obtain ⟨i0, hi, hz0, hz1, hz2⟩ := info_parts info_th
  obtain ⟨ao, cap, rfl, _, _⟩ := id h
  obtain ⟨_, hl63, hcap⟩ := h.len
  have HH := hide h
  have HI6 := hide hi6
  have hcf : ∀ (args : Array Value) (w : World), (callFunc 56 args).run Tryz.prog w = .ok (.enter 56 args) w := by intro args w; kernel_rfl
  clear h hi6
  go_enter Tryz.func55, Tryz.ntmps55
  go_wp2_with fail
  go_loopg [5, 10] l.length (fun gk ov iv wr => ∃ (cp : List (ThingT × Value)) (D : Nat → Nat), iv = .int .i64 cp.length ∧ cp.length + gk = l.length ∧ Hid (cp.map Prod.fst = l.take cp.length) ∧ Hid (Same w wr) ∧ Hid (ThG w.heap.size wr ov cp D))
  case atStart => exact ⟨[], _, rfl, by simp, rfl, Kept.refl _ _, ThG.nil w _ (Nat.le_refl _)⟩
  case round =>
    obtain ⟨cp, D, rfl, hig, HCP, HK, HG⟩ := hrel
    obtain ⟨i, hi1⟩ : ∃ i, i = cp.length := ⟨_, rfl⟩
    rw [← hi1] at hig HCP ⊢
    obtain ⟨oa, oc, hov⟩ := own_slice HG.out.own
    rw [← hi1] at hov
    subst hov
    have HOWN := hide (show wr.ownsRow w.heap.size 68 3 (.slice oa i oc) i (thCells cp) by have := HG.out.own; rw [← hi1] at this; exact this)
    have HI := hide hi1
    clear hi1
    by_cases hlt : i < l.length
    · obtain ⟨b, off, ai, ni, ci, hao, _, c0, c1, c2, hni, hids⟩ := (HH.out.same HK.out).at i hlt
      subst hao
      have HT := hide (show l.take (i + 1) = l.take i ++ [l[i]] from List.take_succ_eq_append_getElem hlt)
      have h6 := HI6.out l[i] (List.getElem_mem hlt)
      obtain ⟨c, hc⟩ : ∃ c, c = l[i] := ⟨_, rfl⟩
      rw [← hc] at c0 c1 hni hids HT h6
      subst hni
      obtain ⟨W, hW⟩ : ∃ W, W = wr.alloc (.cells #[.int .i64 c.ty, .int .i64 c.id, .slice ai c.cells.length ci] 68) := ⟨_, rfl⟩
      have HKr := hide (show Same wr W by rw [hW]; exact (Kept.refl _ wr).alloc _)
      have HC := hide (cloneT1_any P W c _ (hids.same HKr.out) h6.1 h6.2)
      clear hc hids h6
      go_wp2_with fail
      rw [← hW]
      refine HC.out.mono ?_
      clear HC c0 c1 c2
      rintro r w1 ⟨a1, cc1, rfl, hid, hK1⟩
      have HID := hide hid
      have HK1 := hide (tra HKr.out hK1)
      have HLO := hide (show wr.heap.size ≤ W.heap.size from HKr.out.size)
      have hsz1 : w.heap.size ≤ (w1.alloc (.cells #[.int .i64 c.ty, .int .i64 c.id, .slice a1 c.cells.length cc1] 68)).heap.size := by
        have e1 := HK.out.size
        have e2 := HK1.out.size
        simp; omega
      have hownA := own_kept (own_kept HOWN.out HK1.out (fun _ _ f => f)) ((Kept.refl (fun _ => False) w1).alloc (.cells #[.int .i64 c.ty, .int .i64 c.id, .slice a1 c.cells.length cc1] 68)) (fun _ _ f => f)
      have HNA := hide (heap_alloc_new w1 (.cells #[.int .i64 c.ty, .int .i64 c.id, .slice a1 c.cells.length cc1] 68))
      have HSZ := hide hsz1
      clear hid hK1 hW hsz1
      go_wp2_with (at_builtin; refine wpl_append_any _ rfl _ _ 23 rfl w.heap.size 68 i0 _ 3 40 Tryz.underlying23 hi hz0 hz1 hz2 rfl (by decide) _ _ _ rfl hownA (some ⟨w1.heap.size, 0, none⟩) 1 1 [.int .i64 c.ty, .int .i64 c.id, .slice a1 c.cells.length cc1] rfl (fun e => by cases e) rfl (fun ad had => by cases had; exact new_three HNA.out) (by intro u hu; simp at hu; rcases hu with rfl | rfl | rfl <;> rfl) ?y1 ?y2 HSZ.out ?_)
      case y1 => unfold maxLen; omega
      case y2 => omega
      intro v5 w5 hown5 hgr5 _
      obtain ⟨a5, c5, hv5⟩ := own_slice hown5
      subst hv5
      have HG5 := hide (HG.out.step HK1.out HID.out HLO.out (Nat.le_refl _) (by rw [← HI.out]; exact hown5) hgr5)
      have HK5 := hide (show Same w w5 from Kept.grown ((tra HK.out HK1.out).alloc _) hgr5 (fun k hk hlt => by have := (own_up HG.out.own k hk).1; omega))
      have HCP5 := hide (show (cp ++ [(c, Value.slice a1 c.cells.length cc1)]).map Prod.fst = l.take (i + 1) by rw [HT.out, List.map_append, HCP.out]; rfl)
      clear hown5 hgr5
      go_wp2_with fail
      go_roundg (gk - 1)
      case measure => omega
      case rel => exact ⟨_, _, by rw [List.length_append, ← HI.out]; go_num, by rw [List.length_append, ← HI.out]; simp; omega, by rw [List.length_append, ← HI.out]; exact HCP5.out, HK5.out, HG5.out⟩
    · have HF := hide (show ThO w.heap.size wr.heap.size wr (.slice oa i oc) l from HG.out.o (by rw [HCP.out]; exact List.take_of_length_le (by omega)))
      have HIL := hide (show i = l.length by omega)
      go_wp2_with fail
      go_ret
      exact ⟨oa, oc, by rw [← HIL.out]; rfl, by rw [← HIL.out]; exact HF.out, HK.out⟩


end Go.Proofs.YtidodjbmlbjchaaGreat
