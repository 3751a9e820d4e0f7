/- slices.Insert at things. (Written by tool/geninsert.py.) -/
import Derived.Test.YtidodjbmlbjchaaGreatHistorystaysupto28
import Derived.Lib.AppendZerosOnto
import Derived.Lib.Overlaps
import Derived.Laws.Externs
namespace Go.Proofs.YtidodjbmlbjchaaGreat
open Go.RowKit

def spl (cur : List Value) (o : Nat) (cs : List Value) : List Value := cur.take o ++ cs ++ cur.drop (o + cs.length)
theorem spl_len (cur cs : List Value) (o : Nat) (h : o + cs.length ≤ cur.length) : (spl cur o cs).length = cur.length := by
  unfold spl; simp only [List.length_append, List.length_take, List.length_drop]; omega
theorem spl_two (R B C : List Value) (a b c : Nat) (hb : b = a + B.length) (hc : c = b + C.length) (h : c ≤ R.length) : (spl (spl R a B) b C).take c = R.take a ++ B ++ C := by
  have h1 : (spl R a B).take b = R.take a ++ B := by
    unfold spl
    rw [List.take_append_of_le_length (by simp; omega)]
    exact List.take_of_length_le (by simp; omega)
  unfold spl at h1 ⊢
  rw [h1, List.take_append_of_le_length (by simp; omega)]
  exact List.take_of_length_le (by simp; omega)
theorem spl_back (R B C : List Value) (a b c : Nat) (hb : b = a + B.length) (hc : c = b + C.length) (h : c ≤ R.length) : (spl (spl R b C) a B).take c = R.take a ++ B ++ C := by
  have hl : (R.take b).length = b := by rw [List.length_take]; omega
  have e1 : (R.take b ++ C ++ R.drop (b + C.length)).take a = R.take a := by
    rw [List.append_assoc, List.take_append_of_le_length (by omega), List.take_take, Nat.min_eq_left (by omega)]
  have e2 : (R.take b ++ C ++ R.drop (b + C.length)).drop (a + B.length) = C ++ R.drop (b + C.length) := by
    rw [← hb, List.append_assoc]
    exact List.drop_left' hl
  unfold spl
  rw [e1, e2, ← List.append_assoc]
  exact List.take_left' (by rw [List.length_append, List.length_append, List.length_take]; omega)
theorem insT_copy (W : World) (g o dLen dCap : Nat) (a : Addr) (sLen sCap k : Nat) (cur cs : List Value) (ty : TypeId) (hW : W.heap[g]? = some (.cells cur.toArray 68 (0, 0))) (hk : Nat.min sLen dLen = k) (hn : cs.length = k * 3)
    (hsrc : ∀ j v, cs[j]? = some v → W.cell? (a.add j) = some v) (hfit : o + cs.length ≤ cur.length) (h1 : ∀ v ∈ cs, v.oneCell' = true) :
    ∃ w', (Builtin.copy_ #[23, 23] ty #[.slice (some ⟨g, o, none⟩) dLen dCap, .slice (some a) sLen sCap]).run Tryz.prog W = .ok (goInt k) w' ∧ (w'.heap[g]? = some (.cells (spl cur o cs).toArray 68 (0, 0)) ∧ Kept (· = g) W w') := by
  obtain ⟨i0, hi0, hz0, hz1, hz2⟩ := info_parts info_th
  have h := run_copy_cells (P := Tryz.prog) W 23 23 ty 68 i0 g o dLen dCap a sLen sCap cur.toArray 68 cs Tryz.underlying23 hi0 hW (by rw [hz1, hk]; exact hn) hsrc (by simpa using hfit) h1
  rw [hk] at h
  exact ⟨_, h, row_heap hW _, kept_row _ _ _⟩

set_option maxRecDepth 20000 in
set_option maxHeartbeats 3200000 in
theorem insT_grow (w : World) (g n i gv : Nat) (cur B : List Value) (hg : w.heap[g]? = some (.cells cur.toArray 68 (0, 0))) (hc : n * 3 ≤ cur.length) (hi : i < n) (hcap : n ≤ 1000000) (h1 : ∀ v ∈ cur.take (n * 3), v.oneCell' = true)
    (hv : w.heap[gv]? = some (.cells B.toArray 68 (0, 0))) (hB : B.length = 3) (hB1 : ∀ v ∈ B, v.oneCell' = true) :
    Calls Tryz.prog 81 #[.slice (some ⟨g, 0, none⟩) n n, .int .i64 i, .slice (some ⟨gv, 0, none⟩) 1 1] w fun r w' => ∃ cap', r = .returned (.slice (some ⟨w.heap.size, 0, none⟩) (n + 1) cap') ∧ Same w w' ∧ w'.ownsRow w.heap.size 68 3 (.slice (some ⟨w.heap.size, 0, none⟩) (n + 1) cap') (n + 1) ((cur.take (n * 3)).take (i * 3) ++ B ++ (cur.take (n * 3)).drop (i * 3)) := by
  obtain ⟨i0, hi0, hz0, hz1, hz2⟩ := info_parts info_th
  obtain ⟨N, hN⟩ : ∃ N, N = w.heap.size := ⟨_, rfl⟩
  obtain ⟨j, hj⟩ : ∃ j, j = i + 1 := ⟨_, rfl⟩
  obtain ⟨d, hd⟩ : ∃ d, d = n - i := ⟨_, rfl⟩
  obtain ⟨n1, hn1⟩ : ∃ n1, n1 = n + 1 := ⟨_, rfl⟩
  obtain ⟨C, hC⟩ : ∃ C, C = (cur.take (n * 3)).drop (i * 3) := ⟨_, rfl⟩
  obtain ⟨A, hA⟩ : ∃ A, A = (cur.take (n * 3)).take (i * 3) := ⟨_, rfl⟩
  have hCl : C.length = d * 3 := by rw [hC, List.length_drop, List.length_take]; omega
  have hAl : A.length = i * 3 := by rw [hA, List.length_take, List.length_take]; omega
  have hA2 : A = cur.take (i * 3) := by rw [hA, List.take_take, Nat.min_eq_left (by omega)]
  have hC1 : ∀ v ∈ C, v.oneCell' = true := fun v hv => h1 v (List.mem_of_mem_drop (by rw [← hC]; exact hv))
  obtain ⟨G, hG⟩ : ∃ G, G = grownCap w (i + (n + 1 - i)) n 68 := ⟨_, rfl⟩
  have hGn : n + 1 ≤ G := by rw [hG]; have := grownCap_ge w (i + (n + 1 - i)) n 68; omega
  have hG63 : G ≤ maxLen := by rw [hG]; exact grownCap_le_maxLen w _ n 68 (by unfold maxLen; omega)
  have hAP := Lib.run_append_grow_zeros (P := Tryz.prog) w 23 3 23 68 i0 _ .i64 .i64 Tryz.underlying23 Tryz.underlying3 hi0 hz0 (some ⟨g, 0, none⟩) i n A
    (by rw [hz1]; exact run_firstCells_some w.drew 3 i ⟨g, 0, none⟩ i n A (by rw [hAl]) (fun k v hk => by
      have := row_read (w := w) hg 0 (i * 3) k v (by rw [List.drop_zero, ← hA2]; exact hk)
      exact this)) (n + 1 - i) (by omega) (by omega) (by omega) (by omega) (by rw [hz2]; omega) (by rw [hz2]; exact growslice_fits (by omega) (by omega))
  rw [← hG] at hAP
  obtain ⟨ROW, hROW⟩ : ∃ ROW : Array Value, ROW = A.toArray ++ Builtin.zeroCells (Value.cells (.agg #[.int .i64 0, .int .i64 0, .slice none 0 0])) (n + 1 - i) ++ Builtin.zeroCells (Value.cells (.agg #[.int .i64 0, .int .i64 0, .slice none 0 0])) (G - (i + (n + 1 - i))) := ⟨_, rfl⟩
  rw [← hROW, show i + (n + 1 - i) = n1 by omega, ← hN] at hAP
  have hRl : ROW.toList.length = G * 3 := by
    rw [hROW]
    simp [Builtin.zeroCells, Value.cells]
    omega
  have hRt : ROW.toList.take (i * 3) = A := by
    obtain ⟨Z, hZ⟩ : ∃ Z, ROW.toList = A ++ Z := ⟨_, by rw [hROW]; simp only [Array.toList_append, List.append_assoc]; rfl⟩
    rw [hZ, List.take_append_of_le_length (by omega)]
    exact List.take_of_length_le (by omega)
  have HAP := hide (show ∃ w1, (Builtin.append_ #[23, 3] 23 #[.slice (some ⟨g, 0, none⟩) i n, .int .i64 ((n + 1 - i : Nat) : Int)]).run Tryz.prog w = .ok (.slice (some ⟨N, 0, none⟩) n1 G) w1 ∧ (w1.heap[N]? = some (.cells ROW.toList.toArray 68 (0, 0)) ∧ Same w w1) from
    ⟨_, hAP, by rw [hN]; exact heap_alloc_new w.drew _, ((Kept.refl _ w).drew).alloc _⟩)
  obtain ⟨R, hR⟩ : ∃ R, R = ROW.toList := ⟨_, rfl⟩
  rw [← hR] at HAP hRl hRt
  obtain ⟨R1, hR1⟩ : ∃ R1, R1 = spl R (i * 3) B := ⟨_, rfl⟩
  obtain ⟨R2, hR2⟩ : ∃ R2, R2 = spl R1 (j * 3) C := ⟨_, rfl⟩
  have hR1l : R1.length = G * 3 := by rw [hR1, spl_len _ _ _ (by omega)]; exact hRl
  have hR2l : R2.length = G * 3 := by rw [hR2, spl_len _ _ _ (by omega)]; exact hR1l
  have hgw : g < w.heap.size := (Array.getElem?_eq_some_iff.1 hg).1
  have hvw : gv < w.heap.size := (Array.getElem?_eq_some_iff.1 hv).1
  have HFIN := hide (show R2.take ((n + 1) * 3) = A ++ B ++ C by
    rw [hR2, hR1, ← hRt]
    exact spl_two R B C _ _ _ (by omega) (by omega) (by omega))
  have HCA := hide (fun (W : World) (h1 : W.heap[N]? = some (.cells R.toArray 68 (0, 0)) ∧ Same w W) (dCap : Nat) (ty : TypeId) =>
    insT_copy W N (i * 3) (n1 - i) dCap ⟨gv, 0, none⟩ 1 1 1 R B ty h1.1 (by simp only [Nat.min_def]; split <;> omega) (by rw [hB]) (fun k v hk => by
      have := row_read (blk_kept hv h1.2 (fun f => f)) 0 B.length k v (by rw [List.drop_zero, List.take_length]; exact hk)
      exact this) (by omega) hB1)
  have HCB := hide (fun (W : World) (h1 : W.heap[N]? = some (.cells R1.toArray 68 (0, 0)) ∧ Same w W) (dCap sCap : Nat) (ty : TypeId) =>
    insT_copy W N (j * 3) d dCap ⟨g, i * 3, none⟩ d sCap d R1 C ty h1.1 (Nat.min_self _) hCl (fun k v hk => row_read (blk_kept hg h1.2 (fun f => f)) (i * 3) (n * 3) k v (by rw [← hC]; exact hk)) (by omega) hC1)
  rw [← hR1] at HCA
  rw [← hR2] at HCB
  have HSM := hide (fun (W1 W2 : World) (h : Same w W1) (k : Kept (· = N) W1 W2) => (show Same w W2 from h.trans k (fun x hx e => by rw [e, hN] at hx; omega)))
  have HR2L := hide hR2l
  have hnotn : ((i : Int) == (n : Int)) = false := by rw [beq_eq_false_iff_ne]; omega
  have hrm : (n : Int) < (n : Int) + 1 := by omega
  have hkk : (n : Int) + 1 - (i : Int) = ((n + 1 - i : Nat) : Int) := by omega
  have hin : i ≤ n := by omega
  have hini : (i : Int) ≤ (n : Int) := by omega
  have hni : ¬ n = i := by omega
  have hij : (i : Int) + 1 = (j : Int) := by omega
  have hijw : IntKind.i64.wrap ((i : Int) + 1) = (j : Int) := by rw [IntKind.wrap_i64]; omega
  have hjw : IntKind.i64.wrap (j : Int) = (j : Int) := by rw [IntKind.wrap_i64]; omega
  have hin1 : i ≤ n1 := by omega
  have hin1i : (i : Int) ≤ (n1 : Int) := by omega
  have hjn1 : j ≤ n1 := by omega
  have hjn1i : (j : Int) ≤ (n1 : Int) := by omega
  have hGi : ¬ G = i := by omega
  have hGj : ¬ G = j := by omega
  have hGii : (i : Int) ≤ (G : Int) := by omega
  have hGji : (j : Int) ≤ (G : Int) := by omega
  have hn1j : n1 - j = d := by omega
  have hnd : n - i = d := by omega
  have hGm : n1 ≤ G := by omega
  have hBA : w.heap.size = N := hN.symm
  have HBA := hide hBA
  have HN1 := hide hn1
  have HGM := hide hG63
  rw [hBA, ← hn1, ← hA, ← hC]
  have HAL := hide (show (A ++ B ++ C).length = n1 * 3 by rw [List.length_append, List.length_append, hAl, hB, hCl]; omega)
  clear hA hA2 hAl hC hCl hC1 hG hAP hROW hRl hRt hR hR1 hR2 hR1l hR2l hg hv hB1 h1 hc hB hN hgw hvw hBA hj hd hn1 hGn hG63
  go_enter Tryz.func81, Tryz.ntmps81
  go_wp2_with (at_builtin; refine wpList_append_R rfl _ _ 23 3 rfl _ _ rfl rfl HAP.out ?_; rintro w1 hw1; obtain ⟨w2, hr2, hw2, hk2⟩ := HCA.out w1 hw1 (G - i) 3; have HW2 := hide (And.intro hw2 (HSM.out _ _ hw1.2 hk2)); clear hw1 hw2 hk2)
  refine wp_region_noPanic ?_
  refine wp_till 8 (fun _ => True) (by kernel_rfl) ?_ (fun hC0 => ?_)
  · trivial
  refine till_any (i := 0) (v := ?v1) rfl (by kernel_rfl) (by kernel_rfl) (by kernel_rfl) (by kernel_rfl) (fun _ _ _ h => h) (Or.inl ⟨by rfl, ?hy1⟩) (fun _ => hC0) ?rest1
  case hy1 => (intro w hSw; (try dsimp only at hSw); go_simp <;> (with_reducible rfl))
  try simp only [Act.put, List.setIfInBounds_toArray]
  refine till_any (i := 1) (v := ?v2) rfl (by kernel_rfl) (by kernel_rfl) (by kernel_rfl) (by kernel_rfl) (fun _ _ _ h => h) (Or.inl ⟨by rfl, ?hy2⟩) (fun _ => hC0) ?rest2
  case hy2 => (intro w hSw; (try dsimp only at hSw); go_simp <;> (with_reducible rfl))
  try simp only [Act.put]
  refine till_any (i := 2) (v := ?v3) rfl (by kernel_rfl) (by kernel_rfl) (by kernel_rfl) (by kernel_rfl) (fun _ _ _ h => h) (Or.inl ⟨by rfl, ?hy3⟩) (fun _ => hC0) ?rest3
  case hy3 => (intro w hSw; (try dsimp only at hSw); go_simp <;> (with_reducible rfl))
  try simp only [Act.put]
  refine till_any (i := 3) (v := ?v4) rfl (by kernel_rfl) (by kernel_rfl) (by kernel_rfl) (by kernel_rfl) (fun _ _ _ h => h) (Or.inl ⟨by rfl, ?hy4⟩) (fun _ => hC0) ?rest4
  case hy4 => (intro w hSw; (try dsimp only at hSw); go_simp <;> (with_reducible rfl))
  try simp only [Act.put]
  refine till_any (i := 4) (v := ?v5) rfl (by kernel_rfl) (by kernel_rfl) (by kernel_rfl) (by kernel_rfl) (fun _ _ _ h => h) (Or.inl ⟨by rfl, ?hy5⟩) (fun _ => hC0) ?rest5
  case hy5 => (intro w hSw; (try dsimp only at hSw); go_simp <;> (with_reducible rfl))
  try simp only [Act.put]
  refine till_any (i := 5) (v := ?v6) rfl (by kernel_rfl) (by kernel_rfl) (by kernel_rfl) (by kernel_rfl) (fun _ _ _ h => h) (Or.inl ⟨by rfl, ?hy6⟩) (fun _ => hC0) ?rest6
  case hy6 => (intro w hSw; (try dsimp only at hSw); go_simp <;> (with_reducible rfl))
  try simp only [Act.put]
  refine till_any (i := 6) (v := ?v7) rfl (by kernel_rfl) (by kernel_rfl) (by kernel_rfl) (by kernel_rfl) (fun _ _ _ h => h) (Or.inl ⟨by rfl, ?hy7⟩) (fun _ => hC0) ?rest7
  case hy7 => (intro w hSw; (try dsimp only at hSw); go_simp <;> (with_reducible rfl))
  try simp only [Act.put]
  refine till_any (i := 7) (v := ?v8) rfl (by kernel_rfl) (by kernel_rfl) (by kernel_rfl) (by kernel_rfl) (fun _ _ _ h => h) (Or.inl ⟨by rfl, ?hy8⟩) (fun _ => hC0) ?rest8
  case hy8 => (intro w hSw; (try dsimp only at hSw); go_simp <;> (with_reducible rfl))
  try simp only [Act.put]
  refine till_ready (rs := [8]) (by kernel_rfl) (by simp) ?_
  refine TillReady.free rfl (by kernel_rfl) (fun K hK => ?_) TillReady.nil
  refine step_copy_R (by rfl) _ _ 23 23 (by rfl) (.slice (some ⟨N, j * 3, none⟩) d (G - j)) (.slice (some ⟨g, i * 3, none⟩) d d) (by simp [Act.eval]) (by simp [Act.eval]) (HCB.out w2.drew ⟨HW2.out.1, HW2.out.2.drew⟩ _ _ _) ?_
  rintro w3 ⟨hw3, hk3⟩
  have HW3 := hide (And.intro hw3 (HSM.out _ _ (HW2.out.2.drew) hk3))
  clear hw3 hk3 hr2
  refine hK.out _ _ ?_
  clear hK K
  try simp only [Act.put]
  refine till_done (by kernel_rfl) ?_ _
  refine NoPanic.normal ?_
  go_wp2_with fail
  go_ret
  refine ⟨G, by rw [HN1.out]; rfl, HW3.out.2, (by have := HAL.out; omega), .inr ⟨N, G, R2.toArray, rfl, Nat.le_refl _, HW3.out.1, by omega, HGM.out, by simpa using HR2L.out, ?_⟩⟩
  have h := HFIN.out
  rw [← HN1.out] at h
  simpa using h

set_option maxRecDepth 20000 in
set_option maxHeartbeats 3200000 in
theorem insT_shift (w : World) (g n cap i gv base : Nat) (cur B : List Value) (hg : w.heap[g]? = some (.cells cur.toArray 68 (0, 0))) (hc : cur.length = cap * 3) (hi : i < n) (hroom : n + 1 ≤ cap) (hcap : cap ≤ maxLen) (hn6 : n ≤ 1000000) (h1 : ∀ v ∈ cur.take (n * 3), v.oneCell' = true)
    (hv : w.heap[gv]? = some (.cells B.toArray 68 (0, 0))) (hB : B.length = 3) (hB1 : ∀ v ∈ B, v.oneCell' = true) (hgv : gv ≠ g) (hbase : base ≤ g) :
    Calls Tryz.prog 81 #[.slice (some ⟨g, 0, none⟩) n cap, .int .i64 i, .slice (some ⟨gv, 0, none⟩) 1 1] w fun r w' => r = .returned (.slice (some ⟨g, 0, none⟩) (n + 1) cap) ∧ Kept (· = g) w w' ∧ w'.ownsRow base 68 3 (.slice (some ⟨g, 0, none⟩) (n + 1) cap) (n + 1) ((cur.take (n * 3)).take (i * 3) ++ B ++ (cur.take (n * 3)).drop (i * 3)) := by
  obtain ⟨i0, hi0, hz0, hz1, hz2⟩ := info_parts info_th
  obtain ⟨j, hj⟩ : ∃ j, j = i + 1 := ⟨_, rfl⟩
  obtain ⟨d, hd⟩ : ∃ d, d = n - i := ⟨_, rfl⟩
  obtain ⟨n1, hn1⟩ : ∃ n1, n1 = n + 1 := ⟨_, rfl⟩
  obtain ⟨C, hC⟩ : ∃ C, C = (cur.take (n * 3)).drop (i * 3) := ⟨_, rfl⟩
  obtain ⟨A, hA⟩ : ∃ A, A = (cur.take (n * 3)).take (i * 3) := ⟨_, rfl⟩
  have hCl : C.length = d * 3 := by rw [hC, List.length_drop, List.length_take]; omega
  have hAl : A.length = i * 3 := by rw [hA, List.length_take, List.length_take]; omega
  have hA2 : cur.take (i * 3) = A := by rw [hA, List.take_take, Nat.min_eq_left (by omega)]
  have hC1 : ∀ v ∈ C, v.oneCell' = true := fun v hv => h1 v (List.mem_of_mem_drop (by rw [← hC]; exact hv))
  obtain ⟨R1, hR1⟩ : ∃ R1, R1 = spl cur (j * 3) C := ⟨_, rfl⟩
  obtain ⟨R2, hR2⟩ : ∃ R2, R2 = spl R1 (i * 3) B := ⟨_, rfl⟩
  have hR1l : R1.length = cap * 3 := by rw [hR1, spl_len _ _ _ (by omega)]; exact hc
  have hR2l : R2.length = cap * 3 := by rw [hR2, spl_len _ _ _ (by omega)]; exact hR1l
  have HFIN := hide (show R2.take ((n + 1) * 3) = A ++ B ++ C by
    rw [hR2, hR1, ← hA2]
    exact spl_back cur B C _ _ _ (by omega) (by omega) (by omega))
  have HCB := hide (fun (W : World) (h1 : W.heap[g]? = some (.cells cur.toArray 68 (0, 0))) (dCap sCap : Nat) (ty : TypeId) =>
    insT_copy W g (j * 3) d dCap ⟨g, i * 3, none⟩ (n1 - i) sCap d cur C ty h1 (by simp only [Nat.min_def]; split <;> omega) hCl (fun k v hk => row_read h1 (i * 3) (n * 3) k v (by rw [← hC]; exact hk)) (by omega) hC1)
  have HCA := hide (fun (W : World) (h1 : W.heap[g]? = some (.cells R1.toArray 68 (0, 0)) ∧ Kept (· = g) w W) (dCap : Nat) (ty : TypeId) =>
    insT_copy W g (i * 3) (n1 - i) dCap ⟨gv, 0, none⟩ 1 1 1 R1 B ty h1.1 (by simp only [Nat.min_def]; split <;> omega) (by rw [hB]) (fun k v hk => by
      have := row_read (blk_kept hv h1.2 hgv) 0 B.length k v (by rw [List.drop_zero, List.take_length]; exact hk)
      exact this) (by omega) hB1)
  rw [← hR1] at HCB
  rw [← hR2] at HCA
  have hov : ∀ lb cb, (callFunc 97 #[.slice (some ⟨gv, 0, none⟩) 1 1, .slice (some ⟨g, j * 3, none⟩) lb cb]).run Tryz.prog w = .ok (.value (.bool false)) w := fun lb cb => by
    rw [run_callFunc_extern Tryz.func97 (by kernel_rfl) (by kernel_rfl) (by kernel_rfl) (e := Extern.SlicesOverlaps.overlaps #[23, 23] #[4]) (by kernel_rfl),
      Lib.run_overlaps_apart w 23 4 68 Tryz.underlying23 3 (by intro w; simp [sizeOf, typeInfo, hi0, hz1]) ⟨gv, 0, none⟩ ⟨g, j * 3, none⟩ 1 1 lb cb hgv 68 68 3 (cap * 3) (by simp [World.shape?, hv, hB]) (by simp [World.shape?, hg, hc]) (by omega) (by simp [World.frozen?, hv]) (by simp [World.frozen?, hv])]
    rfl
  have HR2L := hide hR2l
  have HCAP := hide hcap
  have HG := hide hg
  have hnotn : ((i : Int) == (n : Int)) = false := by rw [beq_eq_false_iff_ne]; omega
  have hrm : ¬ (cap : Int) < (n : Int) + 1 := by omega
  have hin : i ≤ n := by omega
  have hini : (i : Int) ≤ (n : Int) := by omega
  have hij : (i : Int) + 1 = (j : Int) := by omega
  have hijw : IntKind.i64.wrap ((i : Int) + 1) = (j : Int) := by rw [IntKind.wrap_i64]; omega
  have hjw : IntKind.i64.wrap (j : Int) = (j : Int) := by rw [IntKind.wrap_i64]; omega
  have hnn : (n : Int) + 1 = (n1 : Int) := by omega
  have hnnw : IntKind.i64.wrap ((n : Int) + 1) = (n1 : Int) := by rw [IntKind.wrap_i64]; omega
  have hn1c : n1 ≤ cap := by omega
  have hn1ci : (n1 : Int) ≤ (cap : Int) := by omega
  have hrm2 : ¬ (cap : Int) < (n1 : Int) := by omega
  have hin1 : i ≤ n1 := by omega
  have hin1i : (i : Int) ≤ (n1 : Int) := by omega
  have hjn1 : j ≤ n1 := by omega
  have hjn1i : (j : Int) ≤ (n1 : Int) := by omega
  have hcap9 : cap ≤ 9223372036854775807 := hcap
  have hGi : ¬ cap = i := by omega
  have hGj : ¬ cap = j := by omega
  have hGii : (i : Int) ≤ (cap : Int) := by omega
  have hGji : (j : Int) ≤ (cap : Int) := by omega
  have hn1j : n1 - j = d := by omega
  have HN1 := hide hn1
  rw [← hn1, ← hA, ← hC]
  have HAL := hide (show (A ++ B ++ C).length = n1 * 3 by rw [List.length_append, List.length_append, hAl, hB, hCl]; omega)
  clear hA hA2 hAl hC hCl hC1 hR1 hR2 hR1l hR2l hg hv hB1 h1 hc hB hgv hj hd hn1 hcap
  go_enter Tryz.func81, Tryz.ntmps81
  go_wp2_with (simp only [hov])
  refine wp_region_noPanic ?_
  refine wp_till 8 (fun _ => True) (by kernel_rfl) ?_ (fun hC0 => ?_)
  · trivial
  refine till_any (i := 0) (v := ?v1) rfl (by kernel_rfl) (by kernel_rfl) (by kernel_rfl) (by kernel_rfl) (fun _ _ _ h => h) (Or.inl ⟨by rfl, ?hy1⟩) (fun _ => hC0) ?rest1
  case hy1 => (intro w hSw; (try dsimp only at hSw); go_simp <;> (with_reducible rfl))
  try simp only [Act.put, List.setIfInBounds_toArray]
  refine till_any (i := 1) (v := ?v2) rfl (by kernel_rfl) (by kernel_rfl) (by kernel_rfl) (by kernel_rfl) (fun _ _ _ h => h) (Or.inl ⟨by rfl, ?hy2⟩) (fun _ => hC0) ?rest2
  case hy2 => (intro w hSw; (try dsimp only at hSw); go_simp <;> (with_reducible rfl))
  try simp only [Act.put]
  refine till_any (i := 2) (v := ?v3) rfl (by kernel_rfl) (by kernel_rfl) (by kernel_rfl) (by kernel_rfl) (fun _ _ _ h => h) (Or.inl ⟨by rfl, ?hy3⟩) (fun _ => hC0) ?rest3
  case hy3 => (intro w hSw; (try dsimp only at hSw); go_simp <;> (with_reducible rfl))
  try simp only [Act.put]
  refine till_any (i := 3) (v := ?v4) rfl (by kernel_rfl) (by kernel_rfl) (by kernel_rfl) (by kernel_rfl) (fun _ _ _ h => h) (Or.inl ⟨by rfl, ?hy4⟩) (fun _ => hC0) ?rest4
  case hy4 => (intro w hSw; (try dsimp only at hSw); go_simp <;> (with_reducible rfl))
  try simp only [Act.put]
  refine till_any (i := 4) (v := ?v5) rfl (by kernel_rfl) (by kernel_rfl) (by kernel_rfl) (by kernel_rfl) (fun _ _ _ h => h) (Or.inl ⟨by rfl, ?hy5⟩) (fun _ => hC0) ?rest5
  case hy5 => (intro w hSw; (try dsimp only at hSw); go_simp <;> (with_reducible rfl))
  try simp only [Act.put]
  refine till_any (i := 5) (v := ?v6) rfl (by kernel_rfl) (by kernel_rfl) (by kernel_rfl) (by kernel_rfl) (fun _ _ _ h => h) (Or.inl ⟨by rfl, ?hy6⟩) (fun _ => hC0) ?rest6
  case hy6 => (intro w hSw; (try dsimp only at hSw); go_simp <;> (with_reducible rfl))
  try simp only [Act.put]
  refine till_any (i := 6) (v := ?v7) rfl (by kernel_rfl) (by kernel_rfl) (by kernel_rfl) (by kernel_rfl) (fun _ _ _ h => h) (Or.inl ⟨by rfl, ?hy7⟩) (fun _ => hC0) ?rest7
  case hy7 => (intro w hSw; (try dsimp only at hSw); go_simp <;> (with_reducible rfl))
  try simp only [Act.put]
  refine till_any (i := 7) (v := ?v8) rfl (by kernel_rfl) (by kernel_rfl) (by kernel_rfl) (by kernel_rfl) (fun _ _ _ h => h) (Or.inl ⟨by rfl, ?hy8⟩) (fun _ => hC0) ?rest8
  case hy8 => (intro w hSw; (try dsimp only at hSw); go_simp <;> (with_reducible rfl))
  try simp only [Act.put]
  refine till_ready (rs := [8]) (by kernel_rfl) (by simp) ?_
  refine TillReady.free rfl (by kernel_rfl) (fun K hK => ?_) TillReady.nil
  refine step_copy_R (by rfl) _ _ 23 23 (by rfl) (.slice (some ⟨g, j * 3, none⟩) d (cap - j)) (.slice (some ⟨g, i * 3, none⟩) (n1 - i) (cap - i)) (by simp [Act.eval]) (by simp [Act.eval]) (HCB.out _ (by exact HG.out) _ _ _) ?_
  rintro w2 ⟨hw2, hk2⟩
  have hK2 : Kept (· = g) w w2 := hk2.unD
  obtain ⟨w3, hr3, hw3, hk3⟩ := HCA.out w2 ⟨hw2, hK2⟩ (cap - i) 3
  have HW3 := hide (And.intro hw3 (hK2.trans hk3 (fun _ _ e => e)))
  clear hw2 hk2 hw3 hk3 hK2
  refine hK.out _ _ ?_
  clear hK K
  try simp only [Act.put]
  refine till_done (by kernel_rfl) ?_ _
  refine NoPanic.normal ?_
  go_wp2_with fail
  go_ret
  refine ⟨rfl, HW3.out.2, (by have := HAL.out; omega), .inr ⟨g, cap, R2.toArray, rfl, hbase, HW3.out.1, hn1c, HCAP.out, by simpa using HR2L.out, ?_⟩⟩
  have h := HFIN.out
  rw [← HN1.out] at h
  simpa using h

set_option maxRecDepth 20000 in
set_option maxHeartbeats 3200000 in
theorem insT_end (w : World) (base n gv : Nat) (v : Value) (xs B : List Value) (hown : w.ownsRow base 68 3 v n xs) (hcap : n ≤ 1000000) (hv : w.heap[gv]? = some (.cells B.toArray 68 (0, 0))) (hB : B.length = 3) (hB1 : ∀ v ∈ B, v.oneCell' = true) (hbase : base ≤ w.heap.size) :
    Calls Tryz.prog 81 #[v, .int .i64 n, .slice (some ⟨gv, 0, none⟩) 1 1] w fun r w' => ∃ v', r = .returned v' ∧ Kept (Row v) w w' ∧ w'.ownsRow base 68 3 v' (n + 1) (xs ++ B) := by
  obtain ⟨i0, hi0, hz0, hz1, hz2⟩ := info_parts info_th
  obtain ⟨a, c, rfl⟩ := own_slice hown
  have hnc : n ≤ c ∧ c ≤ maxLen := by
    rcases hown.2 with ⟨e, h0⟩ | ⟨g', cap', cur', e, _, _, h2, h3, _⟩
    · injection e with e1 e2 e3; subst e2; subst e3; exact ⟨Nat.le_refl _, Nat.zero_le _⟩
    · injection e with e1 e2 e3; rw [e3]; exact ⟨h2, h3⟩
  obtain ⟨hnc1, hnc2⟩ := hnc
  have hnc2' : c ≤ 9223372036854775807 := hnc2
  have hnci : (n : Int) ≤ (c : Int) := by omega
  have HRD := hide (fun ad (had : (some ⟨gv, 0, none⟩ : Option Addr) = some ad) (j : Nat) (u : Value) (hj : B[j]? = some u) => (show w.cell? (ad.add j) = some u by
    cases had
    have := row_read hv 0 B.length j u (by rw [List.drop_zero, List.take_length]; exact hj)
    exact this))
  clear hnc2 hv
  by_cases hcn : c = n
  all_goals
    go_enter Tryz.func81, Tryz.ntmps81
    go_wp2_with (at_builtin; refine wpl_append_any _ rfl _ _ 23 rfl base 68 i0 _ 3 40 Tryz.underlying23 hi0 hz0 hz1 hz2 rfl (by decide) _ _ _ rfl (by first | exact hown | (rw [hcn] at hown; exact hown)) (some ⟨gv, 0, none⟩) 1 1 B rfl (fun e => by cases e) hB HRD.out hB1 (by unfold maxLen; omega) (by omega) hbase ?_)
    intro v5 w5 hown5 hgr5 _
    have HK5 := hide (grown_kept hgr5)
    have HO5 := hide hown5
    obtain ⟨a5, c5, hv5⟩ := own_slice hown5
    subst hv5
    clear hown5 hgr5
    go_wp2_with fail
    go_ret
    exact ⟨_, rfl, HK5.out.mono (fun k _ e => by cases a <;> exact e.symm), HO5.out⟩

/-- slices.Insert of one at things, onto a row of the call's own -/
theorem insT_own (w : World) (base n i gv : Nat) (v : Value) (xs B : List Value) (hown : w.ownsRow base 68 3 v n xs) (hi : i ≤ n) (hcap : n ≤ 1000000) (h1 : ∀ v ∈ xs, v.oneCell' = true) (hv : w.heap[gv]? = some (.cells B.toArray 68 (0, 0))) (hB : B.length = 3) (hB1 : ∀ v ∈ B, v.oneCell' = true) (hgv : ¬ Row v gv) (hbase : base ≤ w.heap.size) :
    Calls Tryz.prog 81 #[v, .int .i64 i, .slice (some ⟨gv, 0, none⟩) 1 1] w fun r w' => ∃ v', r = .returned v' ∧ Kept (Row v) w w' ∧ w'.ownsRow base 68 3 v' (n + 1) (xs.take (i * 3) ++ B ++ xs.drop (i * 3)) := by
  have hxl : xs.length = n * 3 := hown.1
  rcases Nat.lt_or_ge i n with hlt | hge
  · rcases hown.2 with ⟨rfl, h0⟩ | ⟨g, cap, cur, rfl, hg, hh, hnc, hcm, hcs, htk⟩
    · omega
    · have hcl : cur.toList.length = cap * 3 := by simpa using hcs
      have htk' : cur.toList.take (n * 3) = xs := by exact htk
      by_cases hroom : n + 1 ≤ cap
      · refine (insT_shift w g n cap i gv base cur.toList B hh hcl hlt hroom hcm hcap (by rw [htk']; exact h1) hv hB hB1 (fun e => hgv (by rw [e]; rfl)) hg).mono ?_
        rintro r w' ⟨rfl, hk, ho⟩
        rw [htk'] at ho
        exact ⟨_, rfl, hk.mono (fun k _ e => by rw [e]; rfl), ho⟩
      · have hcn : cap = n := by omega
        subst hcn
        refine (insT_grow w g cap i gv cur.toList B hh (by omega) hlt hcap (by rw [htk']; exact h1) hv hB hB1).mono ?_
        rintro r w' ⟨cap', rfl, hk, ho⟩
        rw [htk'] at ho
        exact ⟨_, rfl, hk.to, own_low' ho hbase⟩
  · have hin : i = n := by omega
    subst hin
    refine (insT_end w base i gv v xs B hown hcap hv hB hB1 hbase).mono ?_
    rintro r w' ⟨v', rfl, hk, ho⟩
    refine ⟨v', rfl, hk, ?_⟩
    rw [List.take_of_length_le (by omega), List.drop_eq_nil_of_le (by omega), List.append_nil]
    exact ho

end Go.Proofs.YtidodjbmlbjchaaGreat
