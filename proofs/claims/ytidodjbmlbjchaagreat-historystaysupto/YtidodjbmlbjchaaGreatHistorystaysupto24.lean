import Derived.Test.YtidodjbmlbjchaaGreatHistorystaysupto23
/- parts.cloned of cells. -/
namespace Go.Proofs.YtidodjbmlbjchaaGreat
open Go.RowKit

/-- cells with the values of their ids -/
def ceCells (cp : List (CellT × Value)) : List Value := cp.flatMap fun p => [.int .i64 p.1.n, .string ⟨p.1.text.toArray⟩, p.2]
theorem ceCells_len (cp : List (CellT × Value)) : (ceCells cp).length = cp.length * 3 := by
  induction cp with
  | nil => rfl
  | cons p r ih => simp only [ceCells, List.flatMap_cons, List.length_append, List.length_cons, List.length_nil] at ih ⊢; omega
theorem ceCells_app (a b : List (CellT × Value)) : ceCells (a ++ b) = ceCells a ++ ceCells b := by simp [ceCells]
theorem ceCells_get {l : List (CellT × Value)} : ∀ {i : Nat} {p : CellT × Value}, l[i]? = some p → (ceCells l)[i * 3]? = some (.int .i64 p.1.n) ∧ (ceCells l)[i * 3 + 1]? = some (.string ⟨p.1.text.toArray⟩) ∧ (ceCells l)[i * 3 + 2]? = some p.2 := by
  induction l with
  | nil => intro i p h; simp at h
  | cons x r ih =>
    intro i p h
    simp only [ceCells, List.flatMap_cons]
    cases i with
    | zero => simp at h; subst h; exact ⟨rfl, rfl, rfl⟩
    | succ i =>
      have := ih (i := i) (p := p) (by simpa using h)
      unfold ceCells at this
      rw [show (i + 1) * 3 = i * 3 + 1 + 1 + 1 by omega]
      exact ⟨this.1, this.2.1, this.2.2⟩

/-- cells in a row of the call's own, in blocks from lo to hi; the ids of each in blocks of its own, those of cell i from D i to D (i + 1) -/
def CeO (lo hi : Nat) (w : World) (v : Value) (l : List CellT) : Prop :=
  ∃ (cp : List (CellT × Value)) (D : Nat → Nat), cp.map Prod.fst = l ∧ w.ownsRow lo 65 3 v cp.length (ceCells cp) ∧ (∀ k, Row v k → k < hi) ∧ lo ≤ D 0 ∧ (∀ i, i < cp.length → D i ≤ D (i + 1)) ∧ D cp.length ≤ hi ∧
    ∀ i p, cp[i]? = some p → IdO (D i) (D (i + 1)) w p.2 p.1.ids

theorem IdO.apart {lo hi b n sz : Nat} {e : TypeId} {w : World} {v v' : Value} {l : List Int} {xs : List Value} (h : IdO lo hi w v l) (h' : w.ownsRow b e sz v' n xs) (hne : 3 ≠ e) (k : Nat) (hr : Row v k) : ¬ Row v' k := rows_apart h.1 h' hne k hr

theorem CeO.len {lo hi : Nat} {w : World} {v : Value} {l : List CellT} (h : CeO lo hi w v l) : ∃ a c, v = .slice a l.length c := by
  obtain ⟨cp, D, rfl, h2, _⟩ := h
  obtain ⟨a, c, rfl⟩ := own_slice h2
  exact ⟨a, c, by simp⟩
theorem D_mono {D : Nat → Nat} {n : Nat} (h : ∀ i, i < n → D i ≤ D (i + 1)) : ∀ j i, i ≤ j → j ≤ n → D i ≤ D j := by
  intro j
  induction j with
  | zero =>
    intro i h1 _
    have : i = 0 := by omega
    rw [this]; exact Nat.le_refl _
  | succ j ih =>
    intro i h1 h2
    rcases Nat.lt_or_ge i (j + 1) with h3 | h3
    · exact Nat.le_trans (ih i (by omega) (by omega)) (h j (by omega))
    · have : i = j + 1 := by omega
      rw [this]; exact Nat.le_refl _

theorem CeO.sl {lo hi : Nat} {w : World} {v : Value} {l : List CellT} (h : CeO lo hi w v l) (hl : l.length ≤ maxLen) (hi6 : ∀ c ∈ l, c.ids.length ≤ maxLen) : CelSl (fun k => lo ≤ k ∧ k < hi) w v l := by
  obtain ⟨cp, D, rfl, hown, hhi, hD0, hDm, hDn, hids⟩ := h
  have hlen : (cp.map Prod.fst).length = cp.length := by simp
  rcases hown.2 with ⟨rfl, h0⟩ | ⟨g, cap, cur, rfl, hg, hb, hc1, hc2, hc3, htk⟩
  · obtain rfl : cp = [] := List.length_eq_zero_iff.1 h0
    exact CelSl.nil _ _
  · have hown' : w.ownsRow lo 65 3 (.slice (some ⟨g, 0, none⟩) cp.length cap) cp.length (ceCells cp) := hown
    refine ⟨some ⟨g, 0, none⟩, cap, by rw [hlen], ⟨hl, by rw [hlen]; omega⟩, fun i e he => ?_⟩
    rw [List.getElem?_map] at he
    cases hp : cp[i]? with
    | none => rw [hp] at he; cases he
    | some p =>
      rw [hp] at he
      cases he
      have hi : i < cp.length := (List.getElem?_eq_some_iff.1 hp).1
      obtain ⟨g1, g2, g3⟩ := ceCells_get hp
      have c0 := World.ownsRow.cellAt hown' (i * 3) (by omega)
      have c1 := World.ownsRow.cellAt hown' (i * 3 + 1) (by omega)
      have c2 := World.ownsRow.cellAt hown' (i * 3 + 2) (by omega)
      rw [g1] at c0
      rw [g2] at c1
      rw [g3] at c2
      have hd1 := D_mono hDm i 0 (by omega) (by omega)
      have hd2 := D_mono hDm cp.length (i + 1) (by omega) (Nat.le_refl _)
      refine ⟨g, 0, p.2, rfl, ⟨hg, hhi g rfl⟩, by rw [Nat.zero_add]; exact c0, by rw [Nat.zero_add]; exact c1, by rw [Nat.zero_add]; exact c2, ?_⟩
      exact ((hids i p hp).sl (hi6 p.1 (List.mem_map_of_mem (List.mem_of_getElem? hp)))).mono (fun k _ hk => ⟨by omega, by omega⟩)

theorem blkset2 {w : World} {g : Nat} {x y z : Value} {t : TypeId} (h : w.heap[g]? = some (.cells #[x, y, z] t (0, 0))) (u : Value) : (w.setCell ⟨g, 2, none⟩ u).heap[g]? = some (.cells #[x, y, u] t (0, 0)) := by
  simp [World.setCell, Array.getElem?_modify, h]
theorem blkset3 {w : World} {g : Nat} {x y z : Value} {t : TypeId} (h : w.heap[g]? = some (.cells #[x, y, z] t (0, 0))) (a b c : Value) : (((w.setCell ⟨g, 0, none⟩ a).setCell ⟨g, 1, none⟩ b).setCell ⟨g, 2, none⟩ c).heap[g]? = some (.cells #[a, b, c] t (0, 0)) := by
  simp [World.setCell, Array.getElem?_modify, h]
theorem fro3 {w : World} {g : Nat} {x y z : Value} {t : TypeId} (h : w.heap[g]? = some (.cells #[x, y, z] t (0, 0))) (o : Nat) : w.frozen? ⟨g, o, none⟩ = false := by
  simp [World.frozen?, h]
theorem al_o (w : World) (o o' : Obj) : ((w.alloc o).alloc o').heap[w.heap.size]? = some o := by
  rw [Below.heap_alloc _ _ _ (by simp)]; exact heap_alloc_new w o
theorem al_n (w : World) (o o' : Obj) : ((w.alloc o).alloc o').heap[w.heap.size + 1]? = some o' := by
  have := heap_alloc_new (w.alloc o) o'
  rw [World.size_alloc] at this
  exact this

set_option maxRecDepth 20000 in
set_option maxHeartbeats 1600000 in
theorem cloneC1_any (P : Nat → Prop) (w : World) (c : CellT) (v : Value) (h : IdsSl P w v c.ids) (hl8 : c.ids.length ≤ 1000) :
    Calls Tryz.prog 79 #[ceV c v] w fun r w' => ∃ a cc, r = .returned (ceV c (.slice a c.ids.length cc)) ∧ IdO w.heap.size w'.heap.size w' (.slice a c.ids.length cc) c.ids ∧ Same w w' := by
  obtain ⟨ao, cap, rfl, _, _⟩ := id h
  obtain ⟨n, tx, ids⟩ := c
  simp only at h hl8 ⊢
  obtain ⟨W, hW⟩ : ∃ W, W = (w.alloc (.cells #[.int .i64 n, .string ⟨tx.toArray⟩, .slice ao ids.length cap] 65)).alloc (.cells #[.int .i64 0, .string ⟨#[]⟩, .slice none 0 0] 65) := ⟨_, rfl⟩
  obtain ⟨g, hg⟩ : ∃ g, g = w.heap.size := ⟨_, rfl⟩
  obtain ⟨g1, hg1⟩ : ∃ g, g = w.heap.size + 1 := ⟨_, rfl⟩
  have HKW := hide (show Same w W by rw [hW]; exact ((Kept.refl _ w).alloc _).alloc _)
  have HG := hide (show W.heap[g]? = some (.cells #[.int .i64 n, .string ⟨tx.toArray⟩, .slice ao ids.length cap] 65 (0, 0)) by rw [hW, hg]; exact al_o _ _ _)
  have HR := hide (show W.heap[g1]? = some (.cells #[.int .i64 0, .string ⟨#[]⟩, .slice none 0 0] 65 (0, 0)) by rw [hW, hg1]; exact al_n _ _ _)
  have HCL := hide (cloneI_any P W _ ids (h.same HKW.out) hl8)
  have hWs : g < g1 ∧ g1 < W.heap.size ∧ w.heap.size ≤ g := by rw [hW, hg, hg1]; simp
  obtain ⟨hs1, hs2, hs3⟩ := hWs
  obtain ⟨c0, c1, c2⟩ := blk3 HG.out
  clear h
  go_enter Tryz.func79, Tryz.ntmps79
  go_wp2_with fail
  rw [← hW, ← hg1, ← hg]
  clear hW hg hg1
  refine HCL.out.mono ?_
  clear HCL
  rintro r w1 ⟨a, cc, rfl, hid, hK1⟩
  have hG1 := blk_kept HG.out hK1 (fun f => f)
  have hR1 := blk_kept HR.out hK1 (fun f => f)
  have hlt : ∀ k, Row (.slice a ids.length cc) k → W.heap.size ≤ k := fun k hr => (own_up hid.1 k hr).1
  obtain ⟨w2, hw2⟩ : ∃ w2, w2 = w1.setCell ⟨g, 2, none⟩ (.slice a ids.length cc) := ⟨_, rfl⟩
  have hK2 : Kept (· = g) w1 w2 := by rw [hw2]; exact (Kept.refl _ w1).setB 2 _
  have hG2 : w2.heap[g]? = some (.cells #[.int .i64 n, .string ⟨tx.toArray⟩, .slice a ids.length cc] 65 (0, 0)) := by rw [hw2]; exact blkset2 hG1 _
  have hR2 := blk_kept hR1 hK2 (by show ¬ g1 = g; omega)
  obtain ⟨w3, hw3⟩ : ∃ w3, w3 = ((w2.setCell ⟨g1, 0, none⟩ (.int .i64 n)).setCell ⟨g1, 1, none⟩ (.string ⟨tx.toArray⟩)).setCell ⟨g1, 2, none⟩ (.slice a ids.length cc) := ⟨_, rfl⟩
  have hK3 : Kept (· = g1) w2 w3 := by rw [hw3]; exact (((Kept.refl _ w2).setB 0 _).setB 1 _).setB 2 _
  have hR3 : w3.heap[g1]? = some (.cells #[.int .i64 n, .string ⟨tx.toArray⟩, .slice a ids.length cc] 65 (0, 0)) := by rw [hw3]; exact blkset3 hR2 _ _ _
  have HI := hide (show IdO w.heap.size w3.heap.size w3 (.slice a ids.length cc) ids from by
    have h3 := (hid.keep hK2 (fun k hr e => by have := hlt k hr; omega)).keep hK3 (fun k hr e => by have := hlt k hr; omega)
    refine ⟨⟨h3.1.1, ?_⟩, fun k hr => (own_up h3.1 k hr).2⟩
    rcases h3.1.2 with h4 | ⟨g', cap', cur', hv, hgg, hrest⟩
    · exact .inl h4
    · exact .inr ⟨g', cap', cur', hv, by have := HKW.out.size; omega, hrest⟩)
  have HS := hide (show Same w w3 from by
    have h1 : Same w w1 := tra HKW.out hK1
    have h2 : Same w w2 := h1.trans hK2 (fun i hi e => by omega)
    exact h2.trans hK3 (fun i hi e => by omega))
  obtain ⟨r0, r1, r2⟩ := blk3 hR3
  obtain ⟨x0, x1, x2⟩ := blk3 hG1
  obtain ⟨y0, y1, y2⟩ := blk3 hG2
  obtain ⟨p0, p1, p2⟩ := blk3 hR2
  have xf := fro3 hG1
  have pf := fro3 hR2
  clear hK1 hK2 hK3 hid hG1 hR1 hG2 hR2 hR3 c0 c1 c2
  go_upto_region 2 with fail
  rw [← hw2]
  clear x0 x1 x2 xf hw2
  go_wp2_with fail
  rw [← hw3]
  exact bodyPost_ret (v := ceV ⟨n, tx, ids⟩ (.slice a ids.length cc)) (by simp [results, Tryz.results79, go_sem, r0, r1, r2]) rfl ⟨a, cc, rfl, HI.out, HS.out⟩

end Go.Proofs.YtidodjbmlbjchaaGreat

/- parts.cloned of cells, cloneThing. -/
namespace Go.Proofs.YtidodjbmlbjchaaGreat
open Go.RowKit

/-- cells as they grow -/
structure CeG (lo : Nat) (w : World) (v : Value) (cp : List (CellT × Value)) (D : Nat → Nat) : Prop where
  own : w.ownsRow lo 65 3 v cp.length (ceCells cp)
  d0 : lo ≤ D 0
  dm : ∀ i, i < cp.length → D i ≤ D (i + 1)
  dn : D cp.length ≤ w.heap.size
  ids : ∀ i p, cp[i]? = some p → IdO (D i) (D (i + 1)) w p.2 p.1.ids

theorem own_low' {w : World} {b b' : Nat} {e : TypeId} {sz n : Nat} {v : Value} {xs : List Value} (h : w.ownsRow b e sz v n xs) (hb : b' ≤ b) : w.ownsRow b' e sz v n xs := by
  refine ⟨h.1, ?_⟩
  rcases h.2 with h4 | ⟨g', cap', cur', hv, hgg, hrest⟩
  · exact .inl h4
  · exact .inr ⟨g', cap', cur', hv, by omega, hrest⟩
theorem IdO.weak {lo hi lo' hi' : Nat} {w : World} {v : Value} {l : List Int} (h : IdO lo hi w v l) (h1 : lo' ≤ lo) (h2 : hi ≤ hi') : IdO lo' hi' w v l := ⟨own_low' h.1 h1, fun k hr => by have := h.2 k hr; omega⟩
theorem IdO.same {lo hi : Nat} {w w' : World} {v : Value} {l : List Int} (h : IdO lo hi w v l) (hk : Same w w') : IdO lo hi w' v l := h.keep hk (fun _ _ f => f)

theorem CeG.nil (w : World) (lo : Nat) (h : lo ≤ w.heap.size) : CeG lo w (.slice none 0 0) [] (fun _ => lo) :=
  ⟨World.ownsRow_nil _ _ _ _, Nat.le_refl _, fun i h => by simp at h, h, fun i p h => by simp at h⟩
theorem CeG.same {lo : Nat} {w w' : World} {v : Value} {cp : List (CellT × Value)} {D : Nat → Nat} (h : CeG lo w v cp D) (k : Same w w') : CeG lo w' v cp D :=
  ⟨own_kept h.own k (fun _ _ f => f), h.d0, h.dm, Nat.le_trans h.dn k.size, fun i p hp => (h.ids i p hp).same k⟩

theorem CeG.step {lo lo' hi' : Nat} {w w1 w3 : World} {v v3 iv : Value} {cp : List (CellT × Value)} {D : Nat → Nat} {c : CellT} {o : Obj} (h : CeG lo w v cp D) (k : Same w w1) (hi : IdO lo' hi' w1 iv c.ids) (hlo : w.heap.size ≤ lo') (hhi : hi' ≤ w1.heap.size)
    (hown : w3.ownsRow lo 65 3 v3 (cp.length + 1) (ceCells cp ++ [.int .i64 c.n, .string ⟨c.text.toArray⟩, iv])) (hgr : (w1.alloc o).grownBy w3 v.ownBlock) :
    CeG lo w3 v3 (cp ++ [(c, iv)]) (fun j => if j ≤ cp.length then D j else w3.heap.size) := by
  have h1 := h.same k
  have hsz : w1.heap.size ≤ w3.heap.size := by have := hgr.size; simp at this; omega
  have hkA : Same w1 (w1.alloc o) := (Kept.refl _ w1).alloc o
  have hkG := grown_kept hgr
  have hownA := own_kept h1.own hkA (fun _ _ f => f)
  refine ⟨?_, ?_, ?_, ?_, ?_⟩
  · rw [List.length_append, ceCells_app]; exact hown
  · show lo ≤ (if 0 ≤ cp.length then D 0 else w3.heap.size)
    rw [if_pos (Nat.zero_le _)]; exact h.d0
  · intro i hi2
    simp only [List.length_append, List.length_cons, List.length_nil] at hi2
    rw [if_pos (by omega)]
    by_cases hi3 : i + 1 ≤ cp.length
    · rw [if_pos hi3]; exact h.dm i (by omega)
    · rw [if_neg hi3]
      have : i = cp.length := by omega
      rw [this]
      have := h1.dn
      omega
  · simp only [List.length_append, List.length_cons, List.length_nil]
    rw [if_neg (by omega)]
    exact Nat.le_refl _
  · intro i p hp
    rcases Nat.lt_or_ge i cp.length with hlt | hge
    · rw [List.getElem?_append_left hlt] at hp
      rw [if_pos (by omega), if_pos (by omega)]
      have h2 := (h1.ids i p hp).same hkA
      exact h2.keep hkG (fun k hr e => h2.apart hownA (by decide) k hr e.symm)
    · rw [List.getElem?_append_right hge] at hp
      have h0 : i - cp.length = 0 := by
        have := (List.getElem?_eq_some_iff.1 hp).1
        simp at this; omega
      rw [h0] at hp
      cases hp
      have hie : i = cp.length := by omega
      rw [if_pos (by omega), if_neg (by omega)]
      have h2 := hi.same hkA
      have h3 := h2.keep hkG (fun k hr e => h2.apart hownA (by decide) k hr e.symm)
      rw [hie]
      have := h.dn
      exact h3.weak (by omega) (by omega)

theorem CeG.o {lo : Nat} {w : World} {v : Value} {cp : List (CellT × Value)} {D : Nat → Nat} (h : CeG lo w v cp D) {l : List CellT} (hl : cp.map Prod.fst = l) : CeO lo w.heap.size w v l :=
  ⟨cp, D, hl, h.own, fun k hr => (own_up h.own k hr).2, h.d0, h.dm, h.dn, h.ids⟩

theorem new_three {w : World} {b : Nat} {x y z : Value} {t : TypeId} (h : w.heap[b]? = some (.cells #[x, y, z] t (0, 0))) : ∀ j u, [x, y, z][j]? = some u → w.cell? ((⟨b, 0, none⟩ : Addr).add j) = some u := by
  intro j u hj
  rw [addr_add, Nat.zero_add]
  unfold World.cell?
  rw [h]
  simpa using hj

set_option maxRecDepth 20000 in
set_option maxHeartbeats 3200000 in
theorem clonedC_any (P : Nat → Prop) (w : World) (v : Value) (l : List CellT) (h : CelSl P w v l) (hl : l.length ≤ 1000) (hi6 : ∀ c ∈ l, c.ids.length ≤ 1000) :
    Calls Tryz.prog 78 #[v, .func (.func 79) #[] #[]] w fun r w' => ∃ a c, r = .returned (.slice a l.length c) ∧ CeO w.heap.size w'.heap.size w' (.slice a l.length c) l ∧ Same w w' := by
  obtain ⟨i0, hi, hz0, hz1, hz2⟩ := info_parts info_ce
  obtain ⟨ao, cap, rfl, _, _⟩ := id h
  obtain ⟨_, hl63, hcap⟩ := h.len
  have HH := hide h
  have HI6 := hide hi6
  have hcf : ∀ (args : Array Value) (w : World), (callFunc 79 args).run Tryz.prog w = .ok (.enter 79 args) w := by intro args w; kernel_rfl
  clear h hi6
  go_enter Tryz.func78, Tryz.ntmps78
  go_wp2_with fail
  go_loopg [5, 10] l.length (fun gk ov iv wr => ∃ (cp : List (CellT × Value)) (D : Nat → Nat), iv = .int .i64 cp.length ∧ cp.length + gk = l.length ∧ Hid (cp.map Prod.fst = l.take cp.length) ∧ Hid (Same w wr) ∧ Hid (CeG w.heap.size wr ov cp D))
  case atStart => exact ⟨[], _, rfl, by simp, rfl, Kept.refl _ _, CeG.nil w _ (Nat.le_refl _)⟩
  case round =>
    obtain ⟨cp, D, rfl, hig, HCP, HK, HG⟩ := hrel
    obtain ⟨i, hi1⟩ : ∃ i, i = cp.length := ⟨_, rfl⟩
    rw [← hi1] at hig HCP ⊢
    obtain ⟨oa, oc, hov⟩ := own_slice HG.out.own
    rw [← hi1] at hov
    subst hov
    have HOWN := hide (show wr.ownsRow w.heap.size 65 3 (.slice oa i oc) i (ceCells cp) by have := HG.out.own; rw [← hi1] at this; exact this)
    have HI := hide hi1
    clear hi1
    by_cases hlt : i < l.length
    · obtain ⟨b, off, ai, ni, ci, hao, _, c0, c1, c2, hni, hids⟩ := (HH.out.same HK.out).at i hlt
      subst hao
      have HT := hide (show l.take (i + 1) = l.take i ++ [l[i]] from List.take_succ_eq_append_getElem hlt)
      have h6 := HI6.out l[i] (List.getElem_mem hlt)
      obtain ⟨c, hc⟩ : ∃ c, c = l[i] := ⟨_, rfl⟩
      rw [← hc] at c0 c1 hni hids HT h6
      subst hni
      obtain ⟨W, hW⟩ : ∃ W, W = wr.alloc (.cells #[.int .i64 c.n, .string ⟨c.text.toArray⟩, .slice ai c.ids.length ci] 65) := ⟨_, rfl⟩
      have HKr := hide (show Same wr W by rw [hW]; exact (Kept.refl _ wr).alloc _)
      have HC := hide (cloneC1_any P W c _ (hids.same HKr.out) h6)
      clear hc hids h6
      go_wp2_with fail
      rw [← hW]
      refine HC.out.mono ?_
      clear HC c0 c1 c2
      rintro r w1 ⟨a1, cc1, rfl, hid, hK1⟩
      have HID := hide hid
      have HK1 := hide (tra HKr.out hK1)
      have HLO := hide (show wr.heap.size ≤ W.heap.size from HKr.out.size)
      have hsz1 : w.heap.size ≤ (w1.alloc (.cells #[.int .i64 c.n, .string ⟨c.text.toArray⟩, .slice a1 c.ids.length cc1] 65)).heap.size := by
        have e1 := HK.out.size
        have e2 := HK1.out.size
        simp; omega
      have hownA := own_kept (own_kept HOWN.out HK1.out (fun _ _ f => f)) ((Kept.refl (fun _ => False) w1).alloc (.cells #[.int .i64 c.n, .string ⟨c.text.toArray⟩, .slice a1 c.ids.length cc1] 65)) (fun _ _ f => f)
      have HNA := hide (heap_alloc_new w1 (.cells #[.int .i64 c.n, .string ⟨c.text.toArray⟩, .slice a1 c.ids.length cc1] 65))
      have HSZ := hide hsz1
      clear hid hK1 hW hsz1
      go_wp2_with (at_builtin; refine wpl_append_any _ rfl _ _ 66 rfl w.heap.size 65 i0 _ 3 48 Tryz.underlying66 hi hz0 hz1 hz2 rfl (by decide) _ _ _ rfl hownA (some ⟨w1.heap.size, 0, none⟩) 1 1 [.int .i64 c.n, .string ⟨c.text.toArray⟩, .slice a1 c.ids.length cc1] rfl (fun e => by cases e) rfl (fun ad had => by cases had; exact new_three HNA.out) (by intro u hu; simp at hu; rcases hu with rfl | rfl | rfl <;> rfl) ?y1 ?y2 HSZ.out ?_)
      case y1 => unfold maxLen; omega
      case y2 => omega
      intro v5 w5 hown5 hgr5 _
      obtain ⟨a5, c5, hv5⟩ := own_slice hown5
      subst hv5
      have HG5 := hide (HG.out.step HK1.out HID.out HLO.out (Nat.le_refl _) (by rw [← HI.out]; exact hown5) hgr5)
      have HK5 := hide (show Same w w5 from Kept.grown ((tra HK.out HK1.out).alloc _) hgr5 (fun k hk hlt => by have := (own_up HG.out.own k hk).1; omega))
      have HCP5 := hide (show (cp ++ [(c, Value.slice a1 c.ids.length cc1)]).map Prod.fst = l.take (i + 1) by rw [HT.out, List.map_append, HCP.out]; rfl)
      clear hown5 hgr5
      go_wp2_with fail
      go_roundg (gk - 1)
      case measure => omega
      case rel => exact ⟨_, _, by rw [List.length_append, ← HI.out]; go_num, by rw [List.length_append, ← HI.out]; simp; omega, by rw [List.length_append, ← HI.out]; exact HCP5.out, HK5.out, HG5.out⟩
    · have HF := hide (show CeO w.heap.size wr.heap.size wr (.slice oa i oc) l from HG.out.o (by rw [HCP.out]; exact List.take_of_length_le (by omega)))
      have HIL := hide (show i = l.length by omega)
      go_wp2_with fail
      go_ret
      exact ⟨oa, oc, by rw [← HIL.out]; rfl, by rw [← HIL.out]; exact HF.out, HK.out⟩

end Go.Proofs.YtidodjbmlbjchaaGreat
