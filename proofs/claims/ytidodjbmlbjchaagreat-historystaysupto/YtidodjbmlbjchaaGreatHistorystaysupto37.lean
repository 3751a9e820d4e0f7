import Derived.Test.YtidodjbmlbjchaaGreatHistorystaysupto36
/- doer.set. -/
namespace Go.Proofs.YtidodjbmlbjchaaGreat
open Go.RowKit

theorem set_same {cs : Array Value} {i : Nat} {v : Value} (h : cs[i]? = some v) : cs.setIfInBounds i v = cs := by
  apply Array.ext_getElem?
  intro k
  rw [Array.getElem?_setIfInBounds]
  have hs := (Array.getElem?_eq_some_iff.1 h).1
  by_cases hk : i = k
  · subst hk; rw [if_pos rfl, if_pos hs, h]
  · rw [if_neg hk]
theorem set_other {cs : Array Value} {i k : Nat} {u v : Value} (h : cs[k]? = some v) (hk : i ≠ k) : (cs.setIfInBounds i u)[k]? = some v := by
  rw [Array.getElem?_setIfInBounds, if_neg hk, h]

/-- a cell's three words laid into a row of cells -/
def setCe (cs : Array Value) (co : Nat) (c : CellT) (v : Value) : Array Value := ((cs.setIfInBounds co (.int .i64 c.n)).setIfInBounds (co + 1) (.string ⟨c.text.toArray⟩)).setIfInBounds (co + 2) v

theorem setCe_n {cs : Array Value} {co : Nat} {c : CellT} {v : Value} (n : Int) (h1 : cs[co + 1]? = some (.string ⟨c.text.toArray⟩)) (h2 : cs[co + 2]? = some v) : setCe cs co { c with n := n } v = cs.setIfInBounds co (.int .i64 n) := by
  unfold setCe
  rw [set_same (i := co + 1) (set_other h1 (by omega)), set_same (set_other h2 (by omega))]
theorem setCe_t {cs : Array Value} {co : Nat} {c : CellT} {v : Value} (t : List UInt8) (h0 : cs[co]? = some (.int .i64 c.n)) (h2 : cs[co + 2]? = some v) : setCe cs co { c with text := t } v = cs.setIfInBounds (co + 1) (.string ⟨t.toArray⟩) := by
  unfold setCe
  rw [set_same (i := co) h0, set_same (set_other h2 (by omega))]
theorem setCe_i {cs : Array Value} {co : Nat} {c : CellT} {v' : Value} (l : List Int) (h0 : cs[co]? = some (.int .i64 c.n)) (h1 : cs[co + 1]? = some (.string ⟨c.text.toArray⟩)) : setCe cs co { c with ids := l } v' = cs.setIfInBounds (co + 2) v' := by
  unfold setCe
  rw [set_same (i := co) h0, set_same (i := co + 1) h1]
theorem set_blk {w : World} {g : Nat} {cs : Array Value} {t : TypeId} (h : w.heap[g]? = some (.cells cs t (0, 0))) (o : Nat) (v : Value) : (w.setCell ⟨g, o, none⟩ v).heap[g]? = some (.cells (cs.setIfInBounds o v) t (0, 0)) := by
  simp [World.setCell, Array.getElem?_modify, h]

def setQ (w w' : World) (r : Ending) (base gc co : Nat) (cs : Array Value) (tc : TypeId) (v : Value) (x : Except Int CellT) : Prop :=
  match x with
  | .error m => r = .returned (.int .i64 m) ∧ Same w w'
  | .ok c' => r = .returned (.int .i64 0) ∧ ∃ w1 v', Kept (Row v) w w1 ∧ w1.ownsRow base 3 1 v' c'.ids.length (idCells c'.ids) ∧ Kept (· = gc) w1 w' ∧ w'.heap[gc]? = some (.cells (setCe cs co c' v') tc (0, 0))

theorem ids_done {w w1 w' : World} {gc co : Nat} {cs : Array Value} {tc : TypeId} {v v' : Value} {c : CellT} (l : List Int) (hB : w.heap[gc]? = some (.cells cs tc (0, 0))) (h0 : cs[co]? = some (.int .i64 c.n)) (h1 : cs[co + 1]? = some (.string ⟨c.text.toArray⟩)) (hgc : ¬ Row v gc)
    (hk : Kept (Row v) w w1) (hs : Same (w1.setCell ⟨gc, co + 2, none⟩ v') w') : Kept (· = gc) w1 w' ∧ w'.heap[gc]? = some (.cells (setCe cs co { c with ids := l } v') tc (0, 0)) := by
  refine ⟨((Kept.refl _ w1).setB (co + 2) _).trans hs (fun _ _ f => f.elim), ?_⟩
  rw [setCe_i l h0 h1]
  exact blk_kept (set_blk (blk_kept hB hk hgc) _ _) hs (fun f => f)

set_option maxRecDepth 20000 in
set_option maxHeartbeats 6400000 in
theorem set_any (w : World) (gd gc co base : Nat) (cs : Array Value) (tc : TypeId) (vt vh v : Value) (types : List TypeT) (things : List ThingT) (f : FieldT) (e : EventT) (c : CellT)
    (hG : w.heap[gd]? = some (.cells (doC vt vh e) 52 (0, 0))) (hty : TypSl anyB w vt types) (hth : ThgSl anyB w vh things) (hs : sortT things) (hlt : things.length ≤ 1000)
    (hB : w.heap[gc]? = some (.cells cs tc (0, 0))) (hv0 : cs[co]? = some (.int .i64 c.n)) (hv1 : cs[co + 1]? = some (.string ⟨c.text.toArray⟩)) (hv : cs[co + 2]? = some v)
    (hown : w.ownsRow base 3 1 v c.ids.length (idCells c.ids)) (hne : 3 ≠ tc) (hr : riseI c.ids = true) (hl : c.ids.length ≤ 1000) (hbase : base ≤ w.heap.size) (hk : e.kind = 3 ∨ e.kind = 4 ∨ e.kind = 5 ∨ e.kind = 6) :
    Calls Tryz.prog 86 #[.pointer (some ⟨gd, 0, none⟩), .agg #[.string ⟨f.name.toArray⟩, .int .i64 f.kind, .string ⟨f.of.toArray⟩], .pointer (some ⟨gc, co, none⟩)] w fun r w' => setQ w w' r base gc co cs tc v (setC types things f e c) := by
  obtain ⟨x0, x1, x2, x3, x4, x5, x6, x7, xf⟩ := do_cells hG
  have hgc : ¬ Row v gc := row_blk hown hB hne
  obtain ⟨W, hW⟩ : ∃ W, W = w.alloc (.cells #[.string ⟨f.name.toArray⟩, .int .i64 f.kind, .string ⟨f.of.toArray⟩] 58) := ⟨_, rfl⟩
  obtain ⟨gb, hgb⟩ : ∃ g, g = w.heap.size := ⟨_, rfl⟩
  have hKW : Same w W := by rw [hW]; exact (Kept.refl _ w).alloc _
  obtain ⟨b0, b1, b2⟩ := blk3 (show W.heap[gb]? = some (.cells #[.string ⟨f.name.toArray⟩, .int .i64 f.kind, .string ⟨f.of.toArray⟩] 58 (0, 0)) by rw [hW, hgb]; exact heap_alloc_new w _)
  have z2 := hKW.cell x2 (fun f => f)
  have z6 := hKW.cell x6 (fun f => f)
  have z7 := hKW.cell x7 (fun f => f)
  have hBW := blk_kept hB hKW (fun f => f)
  have hGW := blk_kept hG hKW (fun f => f)
  have hownW := own_kept hown hKW (fun _ _ f => f)
  have HKW := hide hKW
  have HW := hide hW
  rcases hk with hk | hk | hk | hk
  · rw [show setC types things f e c = .ok { c with n := e.n } by rw [setC, if_pos hk]]
    obtain ⟨zc, zf⟩ := blk_at hBW _ _ hv0
    rw [hk] at z2
    have HE := hide (And.intro hownW (And.intro hBW (setCe_n e.n hv1 hv)))
    rw [hW] at z2 z6 zc zf
    clear hG hty hth hs hB hv0 hv1 hv hown hr hk hgc x0 x1 x2 x3 x4 x5 x6 x7 xf z7 b0 b1 b2 hW hgb hKW hBW hGW hownW hbase
    go_enter Tryz.func86, Tryz.ntmps86
    go_wp2_with fail
    go_ret
    rw [← HW.out]
    exact ⟨rfl, W, v, HKW.out.to, HE.out.1, (Kept.refl _ W).setB co _, by rw [HE.out.2.2]; exact set_blk HE.out.2.1 _ _⟩
  · rw [show setC types things f e c = .ok { c with text := e.text } by rw [setC, if_neg (by omega), if_pos hk]]
    obtain ⟨zc, zf⟩ := blk_at hBW _ _ hv1
    rw [hk] at z2
    have HE := hide (And.intro hownW (And.intro hBW (setCe_t e.text hv0 hv)))
    rw [hW] at z2 z7 zc zf
    clear hG hty hth hs hB hv0 hv1 hv hown hr hk hgc x0 x1 x2 x3 x4 x5 x6 x7 xf z6 b0 b1 b2 hW hgb hKW hBW hGW hownW hbase
    go_enter Tryz.func86, Tryz.ntmps86
    go_wp2_with fail
    go_ret
    rw [← HW.out]
    exact ⟨rfl, W, v, HKW.out.to, HE.out.1, (Kept.refl _ W).setB (co + 1) _, by rw [HE.out.2.2]; exact set_blk HE.out.2.1 _ _⟩
  · have HLK := hide (link_any W gd gc co base cs tc vt vh v types things f e c.ids hGW (hty.same hKW) (hth.same hKW) hs hlt hBW hv hownW hne hr hl (Nat.le_trans hbase hKW.size))
    have HS := hide (show setC types things f e c = if hasTh things (typeNo types f.of) e.n = false then .error 5 else if e.n ∈ c.ids then .error 6 else .ok { c with ids := linkL f e c.ids } by
      rw [setC, if_neg (by omega), if_neg (by omega), if_pos hk]
      unfold linkL
      split
      · rfl
      · split
        · rfl
        · split <;> rfl)
    have HD := hide (fun (w1 w' : World) (v' : Value) l (h1 : Kept (Row v) w w1) (h2 : Same (w1.setCell ⟨gc, co + 2, none⟩ v') w') => ids_done (c := c) l hB hv0 hv1 hgc h1 h2)
    rw [hk] at z2
    rw [hW] at z2 b0 b1 b2
    rw [hgb] at b0 b1 b2
    clear hG hty hth hs hB hv0 hv1 hv hown hr hk hgc x0 x1 x2 x3 x4 x5 x6 x7 xf z6 z7 hW hgb hKW hBW hGW hownW hbase
    go_enter Tryz.func86, Tryz.ntmps86
    go_wp2_with fail
    rw [← HW.out]
    refine HLK.out.mono ?_
    clear z2 b0 b1 b2
    intro r w2 hQ
    unfold linkQ at hQ
    rcases hQ with ⟨q1, rfl, hK⟩ | ⟨q1, q2, rfl, hK⟩ | ⟨q1, q2, rfl, w1, a', c', hK1, ho, hK2⟩
    · have HF := hide (And.intro q1 (tra HKW.out hK))
      clear q1 hK
      go_wp2_with fail
      go_ret
      rw [HS.out, if_pos HF.out.1]
      exact ⟨rfl, HF.out.2⟩
    · have HF := hide (And.intro q1 (And.intro q2 (tra HKW.out hK)))
      clear q1 q2 hK
      go_wp2_with fail
      go_ret
      rw [HS.out, if_neg (by rw [HF.out.1]; simp), if_pos HF.out.2.1]
      exact ⟨rfl, HF.out.2.2⟩
    · have HF := hide (And.intro q1 (And.intro q2 (And.intro (HKW.out.to.trans hK1 (fun _ _ e => e)) (And.intro ho hK2))))
      clear q1 q2 hK1 ho hK2
      go_wp2_with fail
      go_ret
      rw [HS.out, if_neg (by rw [HF.out.1]; simp), if_neg HF.out.2.1]
      exact ⟨rfl, w1, _, HF.out.2.2.1, HF.out.2.2.2.1, HD.out _ _ _ _ HF.out.2.2.1 HF.out.2.2.2.2⟩
  · have HLK := hide (cut_any W gd gc co base cs tc vt vh v e c.ids hGW hBW hv hownW hne hr hl)
    have HS := hide (show setC types things f e c = if e.n ∈ c.ids then .ok { c with ids := c.ids.eraseIdx (placeI c.ids e.n) } else .error 5 by
      rw [setC, if_neg (by omega), if_neg (by omega), if_neg (by omega)])
    have HD := hide (fun (w1 w' : World) (v' : Value) l (h1 : Kept (Row v) w w1) (h2 : Same (w1.setCell ⟨gc, co + 2, none⟩ v') w') => ids_done (c := c) l hB hv0 hv1 hgc h1 h2)
    rw [hk] at z2
    rw [hW] at z2
    clear hG hty hth hs hB hv0 hv1 hv hown hr hk hgc x0 x1 x2 x3 x4 x5 x6 x7 xf z6 z7 b0 b1 b2 hW hgb hKW hBW hGW hownW hbase
    go_enter Tryz.func86, Tryz.ntmps86
    go_wp2_with fail
    rw [← HW.out]
    refine HLK.out.mono ?_
    clear z2
    intro r w2 hQ
    rcases hQ with ⟨q2, rfl, hK⟩ | ⟨q2, rfl, w1, a', c', hK1, ho, hK2⟩
    · have HF := hide (And.intro q2 (tra HKW.out hK))
      clear q2 hK
      go_wp2_with fail
      go_ret
      rw [HS.out, if_neg HF.out.1]
      exact ⟨rfl, HF.out.2⟩
    · have HF := hide (And.intro q2 (And.intro (HKW.out.to.trans hK1 (fun _ _ e => e)) (And.intro ho hK2)))
      clear q2 hK1 ho hK2
      go_wp2_with fail
      go_ret
      rw [HS.out, if_pos HF.out.1]
      exact ⟨rfl, w1, _, HF.out.2.1, HF.out.2.2.1, HD.out _ _ _ _ HF.out.2.1 HF.out.2.2.2⟩

end Go.Proofs.YtidodjbmlbjchaaGreat

/- A row of cells, one of which is changed. -/
namespace Go.Proofs.YtidodjbmlbjchaaGreat
open Go.RowKit

/-- a row of cells, each of whose ids are known -/
theorem cel_own {P : Nat → Prop} {base : Nat} {w : World} {v : Value} {cp : List (CellT × Value)} (hown : w.ownsRow base 65 3 v cp.length (ceCells cp)) (hr : ∀ k, Row v k → P k) (hl : cp.length ≤ maxLen) (hc : ∀ p ∈ cp, IdsSl P w p.2 p.1.ids) {l : List CellT} (he : cp.map Prod.fst = l) : CelSl P w v l := by
  subst he
  have hlen : (cp.map Prod.fst).length = cp.length := by simp
  rcases hown.2 with ⟨rfl, h0⟩ | ⟨g, cap, cur, rfl, hg, hb, hc1, hc2, hc3, htk⟩
  · obtain rfl : cp = [] := List.length_eq_zero_iff.1 h0
    exact CelSl.nil _ _
  · have hown' : w.ownsRow base 65 3 (.slice (some ⟨g, 0, none⟩) cp.length cap) cp.length (ceCells cp) := hown
    refine ⟨some ⟨g, 0, none⟩, cap, by rw [hlen], ⟨by rw [hlen]; exact hl, by rw [hlen]; omega⟩, fun i e he => ?_⟩
    rw [List.getElem?_map] at he
    cases hp : cp[i]? with
    | none => rw [hp] at he; cases he
    | some p =>
      rw [hp] at he
      cases he
      have hi : i < cp.length := (List.getElem?_eq_some_iff.1 hp).1
      obtain ⟨g1, g2, g3⟩ := ceCells_get hp
      have c0 := World.ownsRow.cellAt hown' (i * 3) (by omega)
      have c1 := World.ownsRow.cellAt hown' (i * 3 + 1) (by omega)
      have c2 := World.ownsRow.cellAt hown' (i * 3 + 2) (by omega)
      rw [g1] at c0
      rw [g2] at c1
      rw [g3] at c2
      exact ⟨g, 0, p.2, rfl, hr g rfl, by rw [Nat.zero_add]; exact c0, by rw [Nat.zero_add]; exact c1, by rw [Nat.zero_add]; exact c2, hc p (List.mem_of_getElem? hp)⟩

theorem ceCells_set (c : CellT) (v : Value) : ∀ (cp : List (CellT × Value)) (k : Nat), k < cp.length → (((ceCells cp).set (k * 3) (.int .i64 c.n)).set (k * 3 + 1) (.string ⟨c.text.toArray⟩)).set (k * 3 + 2) v = ceCells (cp.set k (c, v))
  | [], k, h => absurd h (by simp)
  | x :: r, 0, _ => rfl
  | x :: r, k + 1, h => by
    have ih := ceCells_set c v r k (by simpa using h)
    have e : ceCells (x :: r) = .int .i64 x.1.n :: .string ⟨x.1.text.toArray⟩ :: x.2 :: ceCells r := rfl
    rw [show (k + 1) * 3 = k * 3 + 1 + 1 + 1 by omega, List.set_cons_succ, e, show ceCells (x :: r.set k (c, v)) = .int .i64 x.1.n :: .string ⟨x.1.text.toArray⟩ :: x.2 :: ceCells (r.set k (c, v)) from rfl, ← ih]
    rw [show k * 3 + 1 + 1 + 1 + 1 = (k * 3 + 1) + 1 + 1 + 1 by omega, show k * 3 + 1 + 1 + 1 + 2 = (k * 3 + 2) + 1 + 1 + 1 by omega]
    simp only [List.set_cons_succ]

theorem setCe_take {cur : Array Value} {cp : List (CellT × Value)} {k : Nat} (c : CellT) (v : Value) (htk : cur.toList.take (cp.length * 3) = ceCells cp) (hk : k < cp.length) : (setCe cur (k * 3) c v).toList.take (cp.length * 3) = ceCells (cp.set k (c, v)) := by
  rw [← ceCells_set c v cp k hk, ← htk]
  unfold setCe
  simp only [Array.toList_setIfInBounds, List.take_set]
theorem setCe_size (cur : Array Value) (co : Nat) (c : CellT) (v : Value) : (setCe cur co c v).size = cur.size := by simp [setCe]

theorem cel_changed {lo base base' : Nat} {w w1 w' : World} {cp : List (CellT × Value)} {D : Nat → Nat} {g cap k : Nat} {cur : Array Value} {c0 c' : CellT} {vk v' : Value}
    (hb : w.heap[g]? = some (.cells cur 65 (0, 0))) (hg : lo ≤ g) (hc1 : cp.length ≤ cap) (hc2 : cap ≤ maxLen) (hc3 : cur.size = cap * 3) (htk : cur.toList.take (cp.length * 3) = ceCells cp)
    (hids : ∀ i p, cp[i]? = some p → IdO (D i) (D (i + 1)) w p.2 p.1.ids) (hDm : ∀ i, i < cp.length → D i ≤ D (i + 1)) (hD0 : lo ≤ D 0) (hl6 : ∀ p ∈ cp, p.1.ids.length ≤ maxLen) (hl6' : c'.ids.length ≤ maxLen)
    (hk : cp[k]? = some (c0, vk)) (hK1 : Kept (Row vk) w w1) (ho : w1.ownsRow base' 3 1 v' c'.ids.length (idCells c'.ids)) (hK2 : Kept (· = g) w1 w') (hH : w'.heap[g]? = some (.cells (setCe cur (k * 3) c' v') 65 (0, 0))) (hbl : base ≤ lo) (hbl' : base ≤ base') :
    CelSl (base ≤ ·) w' (.slice (some ⟨g, 0, none⟩) cp.length cap) ((cp.map Prod.fst).set k c') := by
  have hkl : k < cp.length := (List.getElem?_eq_some_iff.1 hk).1
  have hIk := hids k _ hk
  have hg1 : w1.heap[g]? = some (.cells cur 65 (0, 0)) := blk_kept hb hK1 (row_blk hIk.1 hb (by decide))
  have ho' := own_kept2 ho hK2 (fun x hx e => row_blk ho hg1 (by decide) (by rw [← e]; exact hx))
  have hlen : (cp.set k (c', v')).length = cp.length := by simp
  refine cel_own (base := lo) (cp := cp.set k (c', v')) ?_ (fun x hx => by cases hx; exact Nat.le_trans hbl hg) (by rw [hlen]; omega) ?_ (by rw [List.map_set])
  · rw [hlen]
    exact ⟨by rw [ceCells_len, hlen], .inr ⟨g, cap, setCe cur (k * 3) c' v', rfl, hg, hH, hc1, hc2, by rw [setCe_size]; exact hc3, setCe_take c' v' htk hkl⟩⟩
  · intro p hp
    obtain ⟨i, hi⟩ := List.getElem?_of_mem hp
    rw [List.getElem?_set] at hi
    by_cases hik : k = i
    · subst hik
      rw [if_pos rfl, if_pos hkl] at hi
      cases hi
      exact (IdO.sl (hi := w'.heap.size) ⟨ho', fun x hx => (own_up ho' x hx).2⟩ hl6').mono (fun x _ hx => by omega)
    · rw [if_neg hik] at hi
      have hIi := hids i p hi
      have hil : i < cp.length := (List.getElem?_eq_some_iff.1 hi).1
      have h1 : IdO (D i) (D (i + 1)) w1 p.2 p.1.ids := hIi.keep hK1 (fun x hx hy => by
        have a1 := (own_up hIi.1 x hx).1
        have a2 := hIi.2 x hx
        have b1 := (own_up hIk.1 x hy).1
        have b2 := hIk.2 x hy
        rcases Nat.lt_or_gt_of_ne hik with h | h
        · have := D_mono hDm i (k + 1) (by omega) (by omega); omega
        · have := D_mono hDm k (i + 1) (by omega) (by omega); omega)
      have h2 := h1.keep hK2 (fun x hx e => row_blk h1.1 hg1 (by decide) (by rw [← e]; exact hx))
      have h0 := D_mono hDm i 0 (by omega) (by omega)
      exact (h2.sl (hl6 p (List.mem_of_getElem? hi))).mono (fun x _ hx => by omega)

end Go.Proofs.YtidodjbmlbjchaaGreat
