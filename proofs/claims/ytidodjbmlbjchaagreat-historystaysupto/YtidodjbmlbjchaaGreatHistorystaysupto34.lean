import Derived.Test.YtidodjbmlbjchaaGreatHistorystaysupto33
import Derived.Test.YtidodjbmlbjchaaGreatHistorystaysupto18
/- slices.Delete at ints. (Written by tool/gend16.py, too.) -/
namespace Go.Proofs.YtidodjbmlbjchaaGreat
open Go.RowKit

set_option maxRecDepth 20000 in
set_option maxHeartbeats 3200000 in
theorem deleteI_any (w : World) (g cap n i j : Nat) (cur : List Value) (hg : w.heap[g]? = some (.cells cur.toArray 3 (0, 0))) (hc : n ≤ cur.length) (hnc : n ≤ cap) (hcap : cap ≤ maxLen) (hn6 : n ≤ 1000000) (hi : i < n) (hj1 : i < j) (hj2 : j ≤ i + 1) (h1 : ∀ v ∈ cur.take (n), v.oneCell' = true) :
    Calls Tryz.prog 110 #[.slice (some ⟨g, 0, none⟩) n cap, .int .i64 i, .int .i64 j] w fun r w' => r = .returned (.slice (some ⟨g, 0, none⟩) (n - 1) cap) ∧ Kept (· = g) w w' ∧ ∃ cur' : List Value, w'.heap[g]? = some (.cells cur'.toArray 3 (0, 0)) ∧ cur'.length = cur.length ∧ cur'.take ((n - 1)) = cur.take (i) ++ (cur.take (n)).drop (j) := by
  obtain ⟨i0, hi0, hz0, hz1, hz2⟩ := info_parts info_int
  have hcap9 : cap ≤ 9223372036854775807 := hcap
  clear hcap
  obtain ⟨m, hm⟩ : ∃ m, m = n - j := ⟨_, rfl⟩
  obtain ⟨n1, hn1⟩ : ∃ n1, n1 = n - 1 := ⟨_, rfl⟩
  have him : i + m = n1 := by omega
  obtain ⟨cs, hcs⟩ : ∃ cs, cs = (cur.take (n)).drop (j) := ⟨_, rfl⟩
  have hcl : cs.length = m := by rw [hcs, List.length_drop, List.length_take]; omega
  have hcs1 : ∀ v ∈ cs, v.oneCell' = true := fun v hv => h1 v (List.mem_of_mem_drop (by rw [← hcs]; exact hv))
  obtain ⟨cur1, hcur1⟩ : ∃ c, c = cur.take (i) ++ cs ++ cur.drop (i + cs.length) := ⟨_, rfl⟩
  have hl1 : cur1.length = cur.length := by rw [hcur1]; simp only [List.length_append, List.length_take, List.length_drop]; omega
  have hAP := fun (wx : World) (hx : wx.heap[g]? = some (.cells cur.toArray 3 (0, 0))) (a : Addr) (c : Nat) (ha : cs = [] ∨ a = ⟨g, j, none⟩) (ty : TypeId) =>
    run_append_room (P := Tryz.prog) wx 63 ty 3 i0 g i cap a m c cur.toArray 3 cs Tryz.underlying63 hi0 (by omega) (by omega) hx (by rw [hz1]; omega)
      (by
        intro k v hk
        rcases ha with e | rfl
        · rw [e] at hk; simp at hk
        · exact row_read hx (j) (n) k v (by rw [← hcs]; exact hk)) (by rw [hz1, hcl]; simp; omega) hcs1
  rw [hz1] at hAP
  simp only [Nat.mul_one] at hAP
  have HAP := hide (fun (wx : World) (hx : wx.heap[g]? = some (.cells cur.toArray 3 (0, 0))) (c : Nat) (ty : TypeId) => hAP wx hx ⟨g, j, none⟩ c (.inr rfl) ty)
  have HAP0 := hide (fun (wx : World) (hx : wx.heap[g]? = some (.cells cur.toArray 3 (0, 0))) (c : Nat) (hz : cs = []) (ty : TypeId) => hAP wx hx ⟨g, 0, none⟩ c (.inl hz) ty)
  have HC1 := hide (show (List.take (i) cur ++ (cs ++ List.drop (i + cs.length) cur)).toArray = cur1.toArray by rw [hcur1, List.append_assoc])
  obtain ⟨zs, hzs⟩ : ∃ zs, zs = (Builtin.zeroCells (Value.int .i64 0).cells 1).toList := ⟨_, rfl⟩
  have hz3 : zs = [.int .i64 0] := by rw [hzs]; kernel_rfl
  have hzl : zs.length = 1 := by rw [hz3]; rfl
  obtain ⟨cur2, hcur2⟩ : ∃ c, c = cur1.take (n1) ++ zs ++ cur1.drop (n1 + zs.length) := ⟨_, rfl⟩
  have hCL := fun (wx : World) (hx : wx.heap[g]? = some (.cells cur1.toArray 3 (0, 0))) (c : Nat) (ty : TypeId) =>
    run_clear_cells (P := Tryz.prog) wx 63 ty 3 i0 _ g (n1) 1 c cur1.toArray 3 Tryz.underlying63 hi0 hz0 (by omega) hx (by rw [← hzs, hzl]; simp; omega) (by rw [← hzs, hz3]; intro v hv; simp at hv; subst hv; rfl)
  rw [← hzs] at hCL
  have HCL := hide hCL
  have HC2 := hide (show (cur1.toArray.toList.take (n1) ++ zs ++ cur1.toArray.toList.drop (n1 + zs.length)).toArray = cur2.toArray by rw [hcur2])
  have HFIN := hide (show cur2.length = cur.length ∧ cur2.take (n1) = cur.take (i) ++ (cur.take (n)).drop (j) by
    refine ⟨by rw [hcur2]; simp only [List.length_append, List.length_take, List.length_drop]; omega, ?_⟩
    rw [← hcs, hcur2, List.append_assoc, List.take_append_of_le_length (by rw [List.length_take]; omega), List.take_take, Nat.min_self, hcur1, List.take_append_of_le_length (by rw [List.length_append, List.length_take]; omega)]
    exact List.take_of_length_le (by rw [List.length_append, List.length_take]; omega))
  have hnj : (n1 : Int) = (n : Int) - 1 := by omega
  have HN1 := hide hn1
  have HG := hide hg
  have hin : (i : Int) ≤ (j : Int) := by omega
  have hjn : (j : Int) ≤ (n : Int) := by omega
  have hjn' : j ≤ n := by omega
  have hij' : i ≤ j := by omega
  have hjc : (j : Int) ≤ (cap : Int) := by omega
  have hic : (i : Int) ≤ (cap : Int) := by omega
  have hne : ((i : Int) == (j : Int)) = false := by rw [beq_eq_false_iff_ne]; omega
  have hni : ¬ n = i := by omega
  have h1n : n1 ≤ n := by omega
  have h1ni : (n1 : Int) ≤ (n : Int) := by omega
  have hnci : (n : Int) ≤ (cap : Int) := by omega
  have h1c : ¬ cap = n1 := by omega
  have hd1 : n - n1 = 1 := by omega
  have hdm : n - j = m := by omega
  have HCS0 := hide (show n ≤ j → cs = [] from fun h => List.length_eq_zero_iff.1 (by omega))
  rw [← hn1]
  clear hcs hcur1 hcur2 hzs hz3 hAP hCL hnj hn1 hg hm hcs1 hcl hl1 hzl
  by_cases hcj : cap = j
  · subst hcj
    have HM0 := hide (show cs = [] from HCS0.out (by omega))
    go_enter Tryz.func110, Tryz.ntmps110
    go_wp2_with fail
    refine wp_region_noPanic ?_
    refine wp_till 7 (fun _ => True) (by kernel_rfl) ?_ (fun hD0 => ?_)
    · trivial
    refine till_any (i := 0) (v := ?zv1) rfl (by kernel_rfl) (by kernel_rfl) (by kernel_rfl) (by kernel_rfl) (fun _ _ _ h => h) (Or.inl ⟨by rfl, ?zhy1⟩) (fun _ => hD0) ?zrest1
    case zhy1 => (intro w hSw; (try dsimp only at hSw); go_simp <;> (with_reducible rfl))
    try simp only [Act.put, List.setIfInBounds_toArray]
    refine till_any (i := 1) (v := ?zv2) rfl (by kernel_rfl) (by kernel_rfl) (by kernel_rfl) (by kernel_rfl) (fun _ _ _ h => h) (Or.inl ⟨by rfl, ?zhy2⟩) (fun _ => hD0) ?zrest2
    case zhy2 => (intro w hSw; (try dsimp only at hSw); go_simp <;> (with_reducible rfl))
    try simp only [Act.put]
    refine till_any (i := 2) (v := ?zv3) rfl (by kernel_rfl) (by kernel_rfl) (by kernel_rfl) (by kernel_rfl) (fun _ _ _ h => h) (Or.inl ⟨by rfl, ?zhy3⟩) (fun _ => hD0) ?zrest3
    case zhy3 => (intro w hSw; (try dsimp only at hSw); go_simp <;> (with_reducible rfl))
    try simp only [Act.put]
    refine till_any (i := 3) (v := ?zv4) rfl (by kernel_rfl) (by kernel_rfl) (by kernel_rfl) (by kernel_rfl) (fun _ _ _ h => h) (Or.inl ⟨by rfl, ?zhy4⟩) (fun _ => hD0) ?zrest4
    case zhy4 => (intro w hSw; (try dsimp only at hSw); go_simp <;> (with_reducible rfl))
    try simp only [Act.put]
    refine till_any (i := 4) (v := ?zv5) rfl (by kernel_rfl) (by kernel_rfl) (by kernel_rfl) (by kernel_rfl) (fun _ _ _ h => h) (Or.inl ⟨by rfl, ?zhy5⟩) (fun _ => hD0) ?zrest5
    case zhy5 => (intro w hSw; (try dsimp only at hSw); go_simp <;> (with_reducible rfl))
    try simp only [Act.put]
    refine till_any (i := 5) (v := ?zv6) rfl (by kernel_rfl) (by kernel_rfl) (by kernel_rfl) (by kernel_rfl) (fun _ _ _ h => h) (Or.inl ⟨by rfl, ?zhy6⟩) (fun _ => hD0) ?zrest6
    case zhy6 => (intro w hSw; (try dsimp only at hSw); go_simp <;> (with_reducible rfl))
    try simp only [Act.put]
    refine till_ready (rs := [6]) (by kernel_rfl) (by simp) ?_
    refine TillReady.cons rfl (fun K hK => ?_) TillReady.nil
    refine step_append_eq (by rfl) (.tmp 22) (.tmp 25) 63 63 (by rfl) (.slice (some ⟨g, 0, none⟩) i cap) (.slice (some ⟨g, 0, none⟩) m 0) (by rfl) (by rfl) (HAP0.out _ (by exact HG.out) _ HM0.out _) ?_
    refine hK.out _ _ ?_ (fun hC7 => ?_)
    · trivial
    clear hK K hD0
    try simp only [Act.put]
    refine till_ready (rs := [7]) (by kernel_rfl) (by simp) ?_
    refine TillReady.free rfl (by kernel_rfl) (fun K hK => ?_) TillReady.nil
    go_simp
    refine hK.out _ _ ?_
    clear hK K
    try simp only [Act.put, List.setIfInBounds_toArray, List.set_cons_zero, List.set_cons_succ]
    refine till_done (by kernel_rfl) ?_ _
    refine NoPanic.normal ?_
    generalize hw1 : w.drew.setRow g (List.take (i) cur ++ (cs ++ List.drop (i + cs.length) cur)).toArray = w1
    have hg1 : w1.heap[g]? = some (.cells cur1.toArray 3 (0, 0)) := by rw [← hw1, ← HC1.out]; exact row_heap (w := w.drew) HG.out _
    have hK1 : Kept (· = g) w w1 := by rw [← hw1]; exact ((Kept.refl _ w).drew).trans (kept_row _ _ _) (fun _ _ e => e)
    clear hw1
    have hclr := HCL.out w1 hg1 (cap - n1) 0
    rw [HC2.out] at hclr
    have hg2 := row_heap hg1 cur2.toArray
    have hK2 := hK1.trans (kept_row w1 g cur2.toArray) (fun _ _ e => e)
    have HG2 := hide (And.intro hK2 hg2)
    clear hg1 hK1 hg2 hK2
    go_wp2_with fail
    go_ret
    exact ⟨rfl, HG2.out.1, cur2, HG2.out.2, HFIN.out⟩
  · go_enter Tryz.func110, Tryz.ntmps110
    go_wp2_with fail
    refine wp_region_noPanic ?_
    refine wp_till 7 (fun _ => True) (by kernel_rfl) ?_ (fun hC0 => ?_)
    · trivial
    refine till_any (i := 0) (v := ?v1) rfl (by kernel_rfl) (by kernel_rfl) (by kernel_rfl) (by kernel_rfl) (fun _ _ _ h => h) (Or.inl ⟨by rfl, ?hy1⟩) (fun _ => hC0) ?rest1
    case hy1 => (intro w hSw; (try dsimp only at hSw); go_simp <;> (with_reducible rfl))
    try simp only [Act.put, List.setIfInBounds_toArray]
    refine till_any (i := 1) (v := ?v2) rfl (by kernel_rfl) (by kernel_rfl) (by kernel_rfl) (by kernel_rfl) (fun _ _ _ h => h) (Or.inl ⟨by rfl, ?hy2⟩) (fun _ => hC0) ?rest2
    case hy2 => (intro w hSw; (try dsimp only at hSw); go_simp <;> (with_reducible rfl))
    try simp only [Act.put]
    refine till_any (i := 2) (v := ?v3) rfl (by kernel_rfl) (by kernel_rfl) (by kernel_rfl) (by kernel_rfl) (fun _ _ _ h => h) (Or.inl ⟨by rfl, ?hy3⟩) (fun _ => hC0) ?rest3
    case hy3 => (intro w hSw; (try dsimp only at hSw); go_simp <;> (with_reducible rfl))
    try simp only [Act.put]
    refine till_any (i := 3) (v := ?v4) rfl (by kernel_rfl) (by kernel_rfl) (by kernel_rfl) (by kernel_rfl) (fun _ _ _ h => h) (Or.inl ⟨by rfl, ?hy4⟩) (fun _ => hC0) ?rest4
    case hy4 => (intro w hSw; (try dsimp only at hSw); go_simp <;> (with_reducible rfl))
    try simp only [Act.put]
    refine till_any (i := 4) (v := ?v5) rfl (by kernel_rfl) (by kernel_rfl) (by kernel_rfl) (by kernel_rfl) (fun _ _ _ h => h) (Or.inl ⟨by rfl, ?hy5⟩) (fun _ => hC0) ?rest5
    case hy5 => (intro w hSw; (try dsimp only at hSw); go_simp <;> (with_reducible rfl))
    try simp only [Act.put]
    refine till_any (i := 5) (v := ?v6) rfl (by kernel_rfl) (by kernel_rfl) (by kernel_rfl) (by kernel_rfl) (fun _ _ _ h => h) (Or.inl ⟨by rfl, ?hy6⟩) (fun _ => hC0) ?rest6
    case hy6 => (intro w hSw; (try dsimp only at hSw); go_simp <;> (with_reducible rfl))
    try simp only [Act.put]
    refine till_ready (rs := [6]) (by kernel_rfl) (by simp) ?_
    refine TillReady.cons rfl (fun K hK => ?_) TillReady.nil
    refine step_append_eq (by rfl) (.tmp 22) (.tmp 25) 63 63 (by rfl) (.slice (some ⟨g, 0, none⟩) i cap) (.slice (some ⟨g, j, none⟩) m (cap - j)) (by rfl) (by rfl) (HAP.out _ (by exact HG.out) _ _) ?_
    refine hK.out _ _ ?_ (fun hC7 => ?_)
    · trivial
    clear hK K hC0
    try simp only [Act.put]
    refine till_ready (rs := [7]) (by kernel_rfl) (by simp) ?_
    refine TillReady.free rfl (by kernel_rfl) (fun K hK => ?_) TillReady.nil
    go_simp
    refine hK.out _ _ ?_
    clear hK K
    try simp only [Act.put, List.setIfInBounds_toArray, List.set_cons_zero, List.set_cons_succ]
    refine till_done (by kernel_rfl) ?_ _
    refine NoPanic.normal ?_
    generalize hw1 : w.drew.setRow g (List.take (i) cur ++ (cs ++ List.drop (i + cs.length) cur)).toArray = w1
    have hg1 : w1.heap[g]? = some (.cells cur1.toArray 3 (0, 0)) := by rw [← hw1, ← HC1.out]; exact row_heap (w := w.drew) HG.out _
    have hK1 : Kept (· = g) w w1 := by rw [← hw1]; exact ((Kept.refl _ w).drew).trans (kept_row _ _ _) (fun _ _ e => e)
    clear hw1
    have hclr := HCL.out w1 hg1 (cap - n1) 0
    rw [HC2.out] at hclr
    have hg2 := row_heap hg1 cur2.toArray
    have hK2 := hK1.trans (kept_row w1 g cur2.toArray) (fun _ _ e => e)
    have HG2 := hide (And.intro hK2 hg2)
    clear hg1 hK1 hg2 hK2
    go_wp2_with fail
    go_ret
    exact ⟨rfl, HG2.out.1, cur2, HG2.out.2, HFIN.out⟩

end Go.Proofs.YtidodjbmlbjchaaGreat

/- slices.BinarySearch at ids, slices.Delete and Insert of one id. -/
namespace Go.Proofs.YtidodjbmlbjchaaGreat
open Go.RowKit

theorem riseI_pairwise : ∀ l : List Int, riseI l = true → l.Pairwise (· < ·)
  | [], _ => List.Pairwise.nil
  | [_], _ => List.pairwise_singleton _ _
  | a :: b :: r, h => by
    simp only [riseI, Bool.and_eq_true, decide_eq_true_eq] at h
    have ih := riseI_pairwise (b :: r) h.2
    refine List.pairwise_cons.2 ⟨fun x hx => ?_, ih⟩
    rcases List.mem_cons.1 hx with rfl | hx
    · exact h.1
    · exact Int.lt_trans h.1 (List.rel_of_pairwise_cons ih hx)

theorem place_count : ∀ (l : List Int) (x : Int), l.Pairwise (· < ·) → l.countP (· < x) = placeI l x
  | [], x, _ => rfl
  | a :: l, x, h => by
    rw [placeI, List.findIdx_cons]
    by_cases hx : a < x
    · rw [List.countP_cons_of_pos (by simpa using hx), place_count l x h.tail]
      simp [hx, placeI]
    · have h0 : (a :: l).countP (· < x) = 0 := List.countP_eq_zero.2 (fun y hy => by
        rcases List.mem_cons.1 hy with rfl | hy
        · simpa using hx
        · have := List.rel_of_pairwise_cons h hy
          simp only [decide_eq_true_eq]
          omega)
      rw [h0]; simp [hx]

theorem place_lt {l : List Int} {x : Int} (_h : l.Pairwise (· < ·)) (hx : x ∈ l) : placeI l x < l.length := by
  refine List.findIdx_lt_length_of_exists ⟨x, hx, ?_⟩
  simp

theorem bsI_any (w : World) (a : Option Addr) (n c : Nat) (l : List Int) (x : Int) (P : Nat → Prop) (h : IdsSl P w (.slice a n c) l) (hr : riseI l = true) (hl : l.length ≤ 1000000) :
    Calls Tryz.prog 108 #[.slice a n c, .int .i64 x] w fun e w' => e = .returned (.tuple #[.int .i64 (placeI l x : Nat), .bool (decide (x ∈ l))]) ∧ Same w w' := by
  obtain ⟨hn, hm, _⟩ := h.len
  have hp := riseI_pairwise l hr
  cases l with
  | nil =>
    subst hn
    exact (Tryz.slices_BinarySearch_int_empty a c x w).mono (fun e w' h => ⟨by rw [h.1]; simp [placeI], by rw [h.2]; exact Kept.refl _ _⟩)
  | cons y t =>
    obtain ⟨b, off, rfl, _, _⟩ := h.at 0 (by simp)
    have ht : (y :: t).take n = y :: t := List.take_of_length_le (by omega)
    refine (Tryz.slices_BinarySearch_int b off n c (y :: t) x w (by omega) (by omega) (fun j hj => ?_) (by rw [ht]; exact hp.imp (fun h => by omega))).mono (fun e w' h => ⟨?_, ?_⟩)
    · obtain ⟨b', off', hb, _, h0⟩ := h.at j hj
      cases hb
      rw [h0, List.getD_eq_getElem?_getD, List.getElem?_eq_getElem hj]; rfl
    · rw [h.1, ht, place_count _ _ hp]
      congr 4
      rw [show (y :: t).contains x = decide (x ∈ y :: t) by rw [Bool.eq_iff_iff]; simp]
    · obtain ⟨q, hq⟩ := h.2
      rw [hq]
      exact (Kept.refl _ w).drewN q

theorem idCells_erase (l : List Int) (i : Nat) : (idCells l).take i ++ (idCells l).drop (i + 1) = idCells (l.eraseIdx i) := by
  rw [List.eraseIdx_eq_take_drop_succ, idCells, idCells, List.map_append, List.map_take, List.map_drop]
theorem idCells_insert (l : List Int) (i : Nat) (x : Int) (h : i ≤ l.length) : (idCells l).take i ++ [.int .i64 x] ++ (idCells l).drop i = idCells (l.insertIdx i x) := by
  rw [insertIdx_eq x l i h, idCells, idCells, List.map_append, List.map_cons, List.map_take, List.map_drop, List.append_assoc]
  rfl

theorem enters_delI (args : Array Value) (w : World) : (callFunc 110 args).run Tryz.prog w = .ok (.enter 110 args) w := by kernel_rfl

/-- slices.Delete of one id, out of a row of the call's own -/
theorem delI_own (w : World) (base n i j : Nat) (v : Value) (l : List Int) (hown : w.ownsRow base 3 1 v n (idCells l)) (hn : n = l.length) (hi : i < n) (hj : j = i + 1) (hcap : n ≤ 1000000) :
    Calls Tryz.prog 110 #[v, .int .i64 i, .int .i64 j] w fun r w' => ∃ a c, r = .returned (.slice a (n - 1) c) ∧ Kept (Row v) w w' ∧ w'.ownsRow base 3 1 (.slice a (n - 1) c) (l.eraseIdx i).length (idCells (l.eraseIdx i)) := by
  subst hj
  rcases hown.2 with ⟨rfl, h0⟩ | ⟨g, cap, cur, rfl, hg, hh, hnc, hcm, hcs, htk⟩
  · omega
  · have hcl : cur.toList.length = cap := by simpa using hcs
    rw [Nat.mul_one] at htk
    refine (deleteI_any w g cap n i (i + 1) cur.toList hh (by omega) hnc hcm hcap hi (by omega) (by omega) (by rw [htk]; exact idCells_one l)).mono ?_
    rintro r w' ⟨rfl, hk, cur', hg', hl', ht'⟩
    have hel : (l.eraseIdx i).length = n - 1 := by rw [List.length_eraseIdx, if_pos (by omega)]; omega
    refine ⟨_, _, rfl, hk.mono (fun k _ e => by rw [e]; rfl), by rw [idCells, List.length_map, Nat.mul_one], .inr ⟨g, cap, cur'.toArray, by rw [hel], hg, hg', by omega, hcm, by simp; omega, ?_⟩⟩
    rw [← idCells_erase, hel]
    have h2 := ht'
    rw [htk] at h2
    have h3 : (idCells l).take i = cur.toList.take i := by rw [← htk, List.take_take, Nat.min_eq_left (by omega)]
    rw [h3]
    simpa using h2
