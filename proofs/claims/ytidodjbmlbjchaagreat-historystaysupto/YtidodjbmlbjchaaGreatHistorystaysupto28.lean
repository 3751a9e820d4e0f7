/- slices.Delete at things. (Written by tool/gend16.py.) -/
import Derived.Test.YtidodjbmlbjchaaGreatHistorystaysupto27
namespace Go.Proofs.YtidodjbmlbjchaaGreat
open Go.RowKit

theorem row_read {w : World} {g : Nat} {cur : List Value} {e : TypeId} (hg : w.heap[g]? = some (.cells cur.toArray e (0, 0))) (o k : Nat) : ∀ j v, ((cur.take k).drop o)[j]? = some v → w.cell? ((⟨g, o, none⟩ : Addr).add j) = some v := by
  intro j v h
  rw [addr_add]
  rw [List.getElem?_drop, List.getElem?_take] at h
  split at h
  · simp [World.cell?, hg, h]
  · cases h

set_option maxRecDepth 20000 in
set_option maxHeartbeats 3200000 in
theorem deleteT_any (w : World) (g cap n i j : Nat) (cur : List Value) (hg : w.heap[g]? = some (.cells cur.toArray 68 (0, 0))) (hc : n * 3 ≤ cur.length) (hnc : n ≤ cap) (hcap : cap ≤ maxLen) (hn6 : n ≤ 1000000) (hi : i < n) (hj1 : i < j) (hj2 : j ≤ i + 1) (h1 : ∀ v ∈ cur.take (n * 3), v.oneCell' = true) :
    Calls Tryz.prog 84 #[.slice (some ⟨g, 0, none⟩) n cap, .int .i64 i, .int .i64 j] w fun r w' => r = .returned (.slice (some ⟨g, 0, none⟩) (n - 1) cap) ∧ Kept (· = g) w w' ∧ ∃ cur' : List Value, w'.heap[g]? = some (.cells cur'.toArray 68 (0, 0)) ∧ cur'.length = cur.length ∧ cur'.take ((n - 1) * 3) = cur.take (i * 3) ++ (cur.take (n * 3)).drop (j * 3) := by
  obtain ⟨i0, hi0, hz0, hz1, hz2⟩ := info_parts info_th
  have hcap9 : cap ≤ 9223372036854775807 := hcap
  clear hcap
  obtain ⟨m, hm⟩ : ∃ m, m = n - j := ⟨_, rfl⟩
  obtain ⟨n1, hn1⟩ : ∃ n1, n1 = n - 1 := ⟨_, rfl⟩
  have him : i + m = n1 := by omega
  obtain ⟨cs, hcs⟩ : ∃ cs, cs = (cur.take (n * 3)).drop (j * 3) := ⟨_, rfl⟩
  have hcl : cs.length = m * 3 := by rw [hcs, List.length_drop, List.length_take]; omega
  have hcs1 : ∀ v ∈ cs, v.oneCell' = true := fun v hv => h1 v (List.mem_of_mem_drop (by rw [← hcs]; exact hv))
  obtain ⟨cur1, hcur1⟩ : ∃ c, c = cur.take (i * 3) ++ cs ++ cur.drop (i * 3 + cs.length) := ⟨_, rfl⟩
  have hl1 : cur1.length = cur.length := by rw [hcur1]; simp only [List.length_append, List.length_take, List.length_drop]; omega
  have hAP := fun (wx : World) (hx : wx.heap[g]? = some (.cells cur.toArray 68 (0, 0))) (a : Addr) (c : Nat) (ha : cs = [] ∨ a = ⟨g, j * 3, none⟩) (ty : TypeId) =>
    run_append_room (P := Tryz.prog) wx 23 ty 68 i0 g i cap a m c cur.toArray 68 cs Tryz.underlying23 hi0 (by omega) (by omega) hx (by rw [hz1]; exact hcl)
      (by
        intro k v hk
        rcases ha with e | rfl
        · rw [e] at hk; simp at hk
        · exact row_read hx (j * 3) (n * 3) k v (by rw [← hcs]; exact hk)) (by rw [hz1, hcl]; simp; omega) hcs1
  rw [hz1] at hAP
  have HAP := hide (fun (wx : World) (hx : wx.heap[g]? = some (.cells cur.toArray 68 (0, 0))) (c : Nat) (ty : TypeId) => hAP wx hx ⟨g, j * 3, none⟩ c (.inr rfl) ty)
  have HAP0 := hide (fun (wx : World) (hx : wx.heap[g]? = some (.cells cur.toArray 68 (0, 0))) (c : Nat) (hz : cs = []) (ty : TypeId) => hAP wx hx ⟨g, 0, none⟩ c (.inl hz) ty)
  have HC1 := hide (show (List.take (i * 3) cur ++ (cs ++ List.drop (i * 3 + cs.length) cur)).toArray = cur1.toArray by rw [hcur1, List.append_assoc])
  obtain ⟨zs, hzs⟩ : ∃ zs, zs = (Builtin.zeroCells (Value.agg #[.int .i64 0, .int .i64 0, .slice none 0 0]).cells 1).toList := ⟨_, rfl⟩
  have hz3 : zs = [.int .i64 0, .int .i64 0, .slice none 0 0] := by rw [hzs]; kernel_rfl
  have hzl : zs.length = 3 := by rw [hz3]; rfl
  obtain ⟨cur2, hcur2⟩ : ∃ c, c = cur1.take (n1 * 3) ++ zs ++ cur1.drop (n1 * 3 + zs.length) := ⟨_, rfl⟩
  have hCL := fun (wx : World) (hx : wx.heap[g]? = some (.cells cur1.toArray 68 (0, 0))) (c : Nat) (ty : TypeId) =>
    run_clear_cells (P := Tryz.prog) wx 23 ty 68 i0 _ g (n1 * 3) 1 c cur1.toArray 68 Tryz.underlying23 hi0 hz0 (by omega) hx (by rw [← hzs, hzl]; simp; omega) (by rw [← hzs, hz3]; intro v hv; simp at hv; rcases hv with rfl | rfl | rfl <;> rfl)
  rw [← hzs] at hCL
  have HCL := hide hCL
  have HC2 := hide (show (cur1.toArray.toList.take (n1 * 3) ++ zs ++ cur1.toArray.toList.drop (n1 * 3 + zs.length)).toArray = cur2.toArray by rw [hcur2])
  have HFIN := hide (show cur2.length = cur.length ∧ cur2.take (n1 * 3) = cur.take (i * 3) ++ (cur.take (n * 3)).drop (j * 3) by
    refine ⟨by rw [hcur2]; simp only [List.length_append, List.length_take, List.length_drop]; omega, ?_⟩
    rw [← hcs, hcur2, List.append_assoc, List.take_append_of_le_length (by rw [List.length_take]; omega), List.take_take, Nat.min_self, hcur1, List.take_append_of_le_length (by rw [List.length_append, List.length_take]; omega)]
    exact List.take_of_length_le (by rw [List.length_append, List.length_take]; omega))
  have hnj : (n1 : Int) = (n : Int) - 1 := by omega
  have HN1 := hide hn1
  have HG := hide hg
  have hin : (i : Int) ≤ (j : Int) := by omega
  have hjn : (j : Int) ≤ (n : Int) := by omega
  have hjn' : j ≤ n := by omega
  have hij' : i ≤ j := by omega
  have hjc : (j : Int) ≤ (cap : Int) := by omega
  have hic : (i : Int) ≤ (cap : Int) := by omega
  have hne : ((i : Int) == (j : Int)) = false := by rw [beq_eq_false_iff_ne]; omega
  have hni : ¬ n = i := by omega
  have h1n : n1 ≤ n := by omega
  have h1ni : (n1 : Int) ≤ (n : Int) := by omega
  have hnci : (n : Int) ≤ (cap : Int) := by omega
  have h1c : ¬ cap = n1 := by omega
  have hd1 : n - n1 = 1 := by omega
  have hdm : n - j = m := by omega
  have HCS0 := hide (show n ≤ j → cs = [] from fun h => List.length_eq_zero_iff.1 (by omega))
  rw [← hn1]
  clear hcs hcur1 hcur2 hzs hz3 hAP hCL hnj hn1 hg hm hcs1 hcl hl1 hzl
  by_cases hcj : cap = j
  · subst hcj
    have HM0 := hide (show cs = [] from HCS0.out (by omega))
    go_enter Tryz.func84, Tryz.ntmps84
    go_wp2_with fail
    refine wp_region_noPanic ?_
    refine wp_till 7 (fun _ => True) (by kernel_rfl) ?_ (fun hD0 => ?_)
    · trivial
    refine till_any (i := 0) (v := ?zv1) rfl (by kernel_rfl) (by kernel_rfl) (by kernel_rfl) (by kernel_rfl) (fun _ _ _ h => h) (Or.inl ⟨by rfl, ?zhy1⟩) (fun _ => hD0) ?zrest1
    case zhy1 => (intro w hSw; (try dsimp only at hSw); go_simp <;> (with_reducible rfl))
    try simp only [Act.put, List.setIfInBounds_toArray]
    refine till_any (i := 1) (v := ?zv2) rfl (by kernel_rfl) (by kernel_rfl) (by kernel_rfl) (by kernel_rfl) (fun _ _ _ h => h) (Or.inl ⟨by rfl, ?zhy2⟩) (fun _ => hD0) ?zrest2
    case zhy2 => (intro w hSw; (try dsimp only at hSw); go_simp <;> (with_reducible rfl))
    try simp only [Act.put]
    refine till_any (i := 2) (v := ?zv3) rfl (by kernel_rfl) (by kernel_rfl) (by kernel_rfl) (by kernel_rfl) (fun _ _ _ h => h) (Or.inl ⟨by rfl, ?zhy3⟩) (fun _ => hD0) ?zrest3
    case zhy3 => (intro w hSw; (try dsimp only at hSw); go_simp <;> (with_reducible rfl))
    try simp only [Act.put]
    refine till_any (i := 3) (v := ?zv4) rfl (by kernel_rfl) (by kernel_rfl) (by kernel_rfl) (by kernel_rfl) (fun _ _ _ h => h) (Or.inl ⟨by rfl, ?zhy4⟩) (fun _ => hD0) ?zrest4
    case zhy4 => (intro w hSw; (try dsimp only at hSw); go_simp <;> (with_reducible rfl))
    try simp only [Act.put]
    refine till_any (i := 4) (v := ?zv5) rfl (by kernel_rfl) (by kernel_rfl) (by kernel_rfl) (by kernel_rfl) (fun _ _ _ h => h) (Or.inl ⟨by rfl, ?zhy5⟩) (fun _ => hD0) ?zrest5
    case zhy5 => (intro w hSw; (try dsimp only at hSw); go_simp <;> (with_reducible rfl))
    try simp only [Act.put]
    refine till_any (i := 5) (v := ?zv6) rfl (by kernel_rfl) (by kernel_rfl) (by kernel_rfl) (by kernel_rfl) (fun _ _ _ h => h) (Or.inl ⟨by rfl, ?zhy6⟩) (fun _ => hD0) ?zrest6
    case zhy6 => (intro w hSw; (try dsimp only at hSw); go_simp <;> (with_reducible rfl))
    try simp only [Act.put]
    refine till_ready (rs := [6]) (by kernel_rfl) (by simp) ?_
    refine TillReady.cons rfl (fun K hK => ?_) TillReady.nil
    refine step_append_eq (by rfl) (.tmp 22) (.tmp 25) 23 23 (by rfl) (.slice (some ⟨g, 0, none⟩) i cap) (.slice (some ⟨g, 0, none⟩) m 0) (by rfl) (by rfl) (HAP0.out _ (by exact HG.out) _ HM0.out _) ?_
    refine hK.out _ _ ?_ (fun hC7 => ?_)
    · trivial
    clear hK K hD0
    try simp only [Act.put]
    refine till_ready (rs := [7]) (by kernel_rfl) (by simp) ?_
    refine TillReady.free rfl (by kernel_rfl) (fun K hK => ?_) TillReady.nil
    go_simp
    refine hK.out _ _ ?_
    clear hK K
    try simp only [Act.put, List.setIfInBounds_toArray, List.set_cons_zero, List.set_cons_succ]
    refine till_done (by kernel_rfl) ?_ _
    refine NoPanic.normal ?_
    generalize hw1 : w.drew.setRow g (List.take (i * 3) cur ++ (cs ++ List.drop (i * 3 + cs.length) cur)).toArray = w1
    have hg1 : w1.heap[g]? = some (.cells cur1.toArray 68 (0, 0)) := by rw [← hw1, ← HC1.out]; exact row_heap (w := w.drew) HG.out _
    have hK1 : Kept (· = g) w w1 := by rw [← hw1]; exact ((Kept.refl _ w).drew).trans (kept_row _ _ _) (fun _ _ e => e)
    clear hw1
    have hclr := HCL.out w1 hg1 (cap - n1) 0
    rw [HC2.out] at hclr
    have hg2 := row_heap hg1 cur2.toArray
    have hK2 := hK1.trans (kept_row w1 g cur2.toArray) (fun _ _ e => e)
    have HG2 := hide (And.intro hK2 hg2)
    clear hg1 hK1 hg2 hK2
    go_wp2_with fail
    go_ret
    exact ⟨rfl, HG2.out.1, cur2, HG2.out.2, HFIN.out⟩
  · go_enter Tryz.func84, Tryz.ntmps84
    go_wp2_with fail
    refine wp_region_noPanic ?_
    refine wp_till 7 (fun _ => True) (by kernel_rfl) ?_ (fun hC0 => ?_)
    · trivial
    refine till_any (i := 0) (v := ?v1) rfl (by kernel_rfl) (by kernel_rfl) (by kernel_rfl) (by kernel_rfl) (fun _ _ _ h => h) (Or.inl ⟨by rfl, ?hy1⟩) (fun _ => hC0) ?rest1
    case hy1 => (intro w hSw; (try dsimp only at hSw); go_simp <;> (with_reducible rfl))
    try simp only [Act.put, List.setIfInBounds_toArray]
    refine till_any (i := 1) (v := ?v2) rfl (by kernel_rfl) (by kernel_rfl) (by kernel_rfl) (by kernel_rfl) (fun _ _ _ h => h) (Or.inl ⟨by rfl, ?hy2⟩) (fun _ => hC0) ?rest2
    case hy2 => (intro w hSw; (try dsimp only at hSw); go_simp <;> (with_reducible rfl))
    try simp only [Act.put]
    refine till_any (i := 2) (v := ?v3) rfl (by kernel_rfl) (by kernel_rfl) (by kernel_rfl) (by kernel_rfl) (fun _ _ _ h => h) (Or.inl ⟨by rfl, ?hy3⟩) (fun _ => hC0) ?rest3
    case hy3 => (intro w hSw; (try dsimp only at hSw); go_simp <;> (with_reducible rfl))
    try simp only [Act.put]
    refine till_any (i := 3) (v := ?v4) rfl (by kernel_rfl) (by kernel_rfl) (by kernel_rfl) (by kernel_rfl) (fun _ _ _ h => h) (Or.inl ⟨by rfl, ?hy4⟩) (fun _ => hC0) ?rest4
    case hy4 => (intro w hSw; (try dsimp only at hSw); go_simp <;> (with_reducible rfl))
    try simp only [Act.put]
    refine till_any (i := 4) (v := ?v5) rfl (by kernel_rfl) (by kernel_rfl) (by kernel_rfl) (by kernel_rfl) (fun _ _ _ h => h) (Or.inl ⟨by rfl, ?hy5⟩) (fun _ => hC0) ?rest5
    case hy5 => (intro w hSw; (try dsimp only at hSw); go_simp <;> (with_reducible rfl))
    try simp only [Act.put]
    refine till_any (i := 5) (v := ?v6) rfl (by kernel_rfl) (by kernel_rfl) (by kernel_rfl) (by kernel_rfl) (fun _ _ _ h => h) (Or.inl ⟨by rfl, ?hy6⟩) (fun _ => hC0) ?rest6
    case hy6 => (intro w hSw; (try dsimp only at hSw); go_simp <;> (with_reducible rfl))
    try simp only [Act.put]
    refine till_ready (rs := [6]) (by kernel_rfl) (by simp) ?_
    refine TillReady.cons rfl (fun K hK => ?_) TillReady.nil
    refine step_append_eq (by rfl) (.tmp 22) (.tmp 25) 23 23 (by rfl) (.slice (some ⟨g, 0, none⟩) i cap) (.slice (some ⟨g, j * 3, none⟩) m (cap - j)) (by rfl) (by rfl) (HAP.out _ (by exact HG.out) _ _) ?_
    refine hK.out _ _ ?_ (fun hC7 => ?_)
    · trivial
    clear hK K hC0
    try simp only [Act.put]
    refine till_ready (rs := [7]) (by kernel_rfl) (by simp) ?_
    refine TillReady.free rfl (by kernel_rfl) (fun K hK => ?_) TillReady.nil
    go_simp
    refine hK.out _ _ ?_
    clear hK K
    try simp only [Act.put, List.setIfInBounds_toArray, List.set_cons_zero, List.set_cons_succ]
    refine till_done (by kernel_rfl) ?_ _
    refine NoPanic.normal ?_
    generalize hw1 : w.drew.setRow g (List.take (i * 3) cur ++ (cs ++ List.drop (i * 3 + cs.length) cur)).toArray = w1
    have hg1 : w1.heap[g]? = some (.cells cur1.toArray 68 (0, 0)) := by rw [← hw1, ← HC1.out]; exact row_heap (w := w.drew) HG.out _
    have hK1 : Kept (· = g) w w1 := by rw [← hw1]; exact ((Kept.refl _ w).drew).trans (kept_row _ _ _) (fun _ _ e => e)
    clear hw1
    have hclr := HCL.out w1 hg1 (cap - n1) 0
    rw [HC2.out] at hclr
    have hg2 := row_heap hg1 cur2.toArray
    have hK2 := hK1.trans (kept_row w1 g cur2.toArray) (fun _ _ e => e)
    have HG2 := hide (And.intro hK2 hg2)
    clear hg1 hK1 hg2 hK2
    go_wp2_with fail
    go_ret
    exact ⟨rfl, HG2.out.1, cur2, HG2.out.2, HFIN.out⟩

end Go.Proofs.YtidodjbmlbjchaaGreat
