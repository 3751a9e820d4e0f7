import Derived.Test.YtillhpepfpldcaaBatchtells11
import Derived.Test.YtillhpepfpldcaaBatchtells03
import Derived.Test.YtillhpepfpldcaaBatchtells06
import Derived.Deep.RegionHeld3
import Derived.Test.YtillhpepfpldcaaChecked
import Derived.Test.YtillhpepfpldcaaBatchtells01
/- The reference: BatchBytes. -/
namespace Go.Proofs.Ytillhpepfpldcaa
open Go.RowKit

/-- numberBytes, at numbers as they come -/
def nbs (x k : Int) : List UInt8 := beN k.toNat x.toNat
theorem nbs_len (x k : Int) (hk4 : k ≤ 4) : (nbs x k).length ≤ 4 := by unfold nbs; rw [beN_len]; omega
theorem nB (w : World) (x k : Int) (h0 : 0 ≤ x) (h1 : x < 4611686018427387904) (hk0 : 0 ≤ k) (hk4 : k ≤ 4) :
    Calls Try.prog 39 #[.int .i64 x, .int .i64 k] w fun r w' => r = .returned (.string ⟨(nbs x k).toArray⟩) ∧ Same w w' := by
  obtain ⟨n, rfl⟩ := Int.eq_ofNat_of_zero_le h0
  obtain ⟨m, rfl⟩ := Int.eq_ofNat_of_zero_le hk0
  refine (numberBytes_any m n (by omega) (by omega) w).mono ?_
  rintro r w' ⟨rfl, hK⟩
  exact ⟨by unfold nbs; simp, hK⟩

theorem ev_bytes {e : EventT} (h : wrongE e = 0) : evB e = beN 1 e.kind.toNat ++ (beN 1 e.ty.toNat ++ (beN 2 e.id.toNat ++
    (if e.kind = 4 then beN 1 e.field.toNat ++ (beN 1 e.text.length ++ e.text) else if 2 < e.kind then beN 1 e.field.toNat ++ beN 4 (e.n + 999999999).toNat else []))) := by
  have hk := kind_ok (wrongE_ok h).1
  unfold evB
  congr 3
  by_cases h4 : e.kind = 4
  · have h1 : namesF e.kind = true := by unfold namesF namesT; simp [h4]
    have h2 : namesT e.kind = true := by unfold namesT; simp [h4]
    rw [if_pos h1, if_pos h2, if_pos h4]
  · have h2 : ¬ namesT e.kind = true := by unfold namesT; simp [h4]
    rw [if_neg h4]
    by_cases h3 : 2 < e.kind
    · have h1 : namesF e.kind = true := by unfold namesF namesN; simp; omega
      rw [if_pos h1, if_neg h2, if_pos h3]
    · have h1 : ¬ namesF e.kind = true := by unfold namesF namesN namesT; simp; omega
      rw [if_neg h1, if_neg h3]

theorem bsz5 (l : List UInt8) : (⟨l.toArray⟩ : ByteArray).size = l.length := by simp [ByteArray.size]
set_option maxRecDepth 20000 in
set_option maxHeartbeats 6400000 in
theorem batchBytes_any (P : Nat → Prop) (w : World) (b : BatchT) (v : Value) (hc : checkBa b = 0) (h : EvSl P w v b.events) :
    Calls Try.prog 11 #[baV b.number v] w fun r w' => r = .returned (.string ⟨(bytesB b).toArray⟩) ∧ Same w w' := by
  have trs : ∀ {a b c : World}, Same a b → Same b c → Same a c := fun h k => h.trans k (fun _ _ f => f)
  obtain ⟨hn1, hn2, he1, he2, hev⟩ := checkBa_ok hc
  obtain ⟨num, l⟩ := b
  simp only at h hn1 hn2 he1 he2 hev
  obtain ⟨ao, cap, rfl⟩ := h.form
  obtain ⟨_, hl, hcap⟩ := h.len
  obtain ⟨W, hW⟩ : ∃ W, W = w.alloc (.cells #[.int .i64 num, .slice ao l.length cap] 24) := ⟨_, rfl⟩
  have HG := hide (show W.heap[w.heap.size]? = some (.cells #[.int .i64 num, .slice ao l.length cap] 24 (0, 0)) by rw [hW]; exact heap_alloc_new _ _)
  have HKW := hide (show Same w W by rw [hW]; exact (Kept.refl _ w).alloc _)
  have HS := hide (h.same HKW.out)
  have HEV := hide hev
  have HNB := hide (fun wx x k h0 h1 hk0 hk4 => nB wx x k h0 h1 hk0 hk4)
  clear h hev hc
  obtain ⟨c0, c1⟩ := blk2 HG.out
  have HALL := hide (fun wy (hy : Same W wy) => (⟨hy.cell c0 (fun f => f), hy.cell c1 (fun f => f)⟩ : wy.cell? ⟨w.heap.size, 0, none⟩ = _ ∧ wy.cell? ⟨w.heap.size, 1, none⟩ = _))
  have hKc : Same W W := Kept.refl _ _
  go_enter Try.func11, Try.ntmps11
  go_wp2_with fail
  rw [← hW]
  clear hW
  have hq0 : ¬ 9223372036854775807 < (nbs num 2).length + (nbs l.length 1).length := by
    have h1 := nbs_len num 2 (by omega)
    have h2 := nbs_len l.length 1 (by omega)
    omega
  have hq1 : ¬ 9223372036854775807 < (nbs l.length 1).length + (nbs num 2).length := by omega
  go_region_held3 (fun w' => w'.cell? ⟨w.heap.size, 0, none⟩ = some (.int .i64 num) ∧ w'.cell? ⟨w.heap.size, 1, none⟩ = some (.slice ao l.length cap)) (go_keep) (
    (go_at_call 39; refine (HNB.out _ _ _ (by omega) (by omega) (by omega) (by omega)).mono ?_; rintro e w9 ⟨rfl, hKn⟩; have hKc := trs (by first | exact hKc.drewN _ | exact hKc.drew | exact hKc) hKn; obtain ⟨c0, c1⟩ := HALL.out _ hKc))
  all_goals
    rw [bytes_app]
    obtain ⟨S0, hS0⟩ : ∃ S0, S0 = nbs num 2 ++ nbs l.length 1 := ⟨_, rfl⟩
    rw [← hS0]
    have HS0 := hide (show S0 = beN 2 num.toNat ++ (beN 1 l.length ++ (l.take 0).flatMap evB) by rw [hS0]; unfold nbs; simp)
    have hS0l : S0.length ≤ 3 + 60 * 0 := by rw [hS0, List.length_append]; unfold nbs; rw [beN_len, beN_len]; decide
    have HK0 := hide hKc
    clear hS0 hq0 hq1
    clear hKc hKn c0 c1
    go_wp2_with fail
    go_loopg [3, 4] l.length (fun gk sv iv wr => ∃ (i : Nat) (S : List UInt8), sv = .string ⟨S.toArray⟩ ∧ iv = .int .i64 i ∧ i + gk = l.length ∧ Hid (S = beN 2 num.toNat ++ (beN 1 l.length ++ (l.take i).flatMap evB)) ∧ S.length ≤ 3 + 60 * i ∧ Hid (Same W wr))
    case atStart => exact ⟨0, S0, rfl, rfl, by omega, HS0, hS0l, HK0⟩
    case round =>
      obtain ⟨i, S, rfl, rfl, hin, HSS, hSl, HKr⟩ := hrel
      clear HK0 HS0 hS0l
      have hzS := bsz5 S
      obtain ⟨c0, c1⟩ := HALL.out _ HKr.out
      by_cases hlt : i < l.length
      · obtain ⟨m, hm⟩ : ∃ m, gk = m + 1 := ⟨gk - 1, by omega⟩
        subst hm
        obtain ⟨b, off, hao, _, e0, e1, e2, e3, e4, e5⟩ := (HS.out.same HKr.out).at i hlt
        subst hao
        obtain ⟨x, hx⟩ : ∃ x, x = l[i] := ⟨_, rfl⟩
        have hwr : wrongE x = 0 := by rw [hx]; exact HEV.out _ (List.getElem_mem hlt)
        have HT := hide (show l.take (i + 1) = l.take i ++ [x] by rw [hx]; exact List.take_succ_eq_append_getElem hlt)
        rw [← hx] at e0 e1 e2 e3 e4 e5
        clear hx
        have HEB := hide (ev_bytes hwr)
        have HEL := hide (evB_len hwr)
        obtain ⟨hk0, _, _, _, hr, htl⟩ := wrongE_ok hwr
        have hk16 := kind_ok hk0
        obtain ⟨hy0, hy1, hi0, hi1, hf0, hf1, hn0, hn9⟩ := range_ok hr
        clear hk0 hr hwr
        obtain ⟨xk, xty, xid, xf, xn, xt⟩ := x
        simp only at e0 e1 e2 e3 e4 e5 htl hk16 hy0 hy1 hi0 hi1 hf0 hf1 hn0 hn9
        have hzt := bsz5 xt
        obtain ⟨g, hg⟩ : ∃ g, g = wr.heap.size := ⟨_, rfl⟩
        obtain ⟨W1, hW1⟩ : ∃ W1, W1 = wr.alloc (.cells #[.int .i64 xk, .int .i64 xty, .int .i64 xid, .int .i64 xf, .int .i64 xn, .string ⟨xt.toArray⟩] 66) := ⟨_, rfl⟩
        have HG1 := hide (show W1.heap[g]? = some (.cells #[.int .i64 xk, .int .i64 xty, .int .i64 xid, .int .i64 xf, .int .i64 xn, .string ⟨xt.toArray⟩] 66 (0, 0)) by rw [hW1, hg]; exact heap_alloc_new _ _)
        have HKX := hide (show Same W W1 by rw [hW1]; exact HKr.out.alloc _)
        go_wp2_with fail
        rw [← hW1, ← hg]
        clear hW1 hg c0 c1 e0 e1 e2 e3 e4 e5
        obtain ⟨z0, z1, z2, z3, z4, z5, _⟩ := cells6 HG1.out
        have HALL1 := hide (fun wy (hy : Same W1 wy) => (⟨hy.cell z0 (fun f => f), hy.cell z1 (fun f => f), hy.cell z2 (fun f => f), hy.cell z3 (fun f => f), hy.cell z4 (fun f => f), hy.cell z5 (fun f => f)⟩ : wy.cell? ⟨g, 0, none⟩ = _ ∧ wy.cell? ⟨g, 1, none⟩ = _ ∧ wy.cell? ⟨g, 2, none⟩ = _ ∧ wy.cell? ⟨g, 3, none⟩ = _ ∧ wy.cell? ⟨g, 4, none⟩ = _ ∧ wy.cell? ⟨g, 5, none⟩ = _))
        have hKc : Same W1 W1 := Kept.refl _ _
        have hqa := nbs_len xk 1 (by omega)
        have hqb := nbs_len xty 1 (by omega)
        have hqc := nbs_len xid 2 (by omega)
        have hq0 : ¬ 9223372036854775807 < (nbs xk 1).length + (nbs xty 1).length := by omega
        have hq1 : ¬ 9223372036854775807 < (nbs xk 1).length + (nbs xty 1).length + (nbs xid 2).length := by omega
        have hq2 : ¬ 9223372036854775807 < S.length + ((nbs xk 1).length + (nbs xty 1).length + (nbs xid 2).length) := by omega
        go_region_held3 (fun w' => w'.cell? ⟨g, 0, none⟩ = some (.int .i64 xk) ∧ w'.cell? ⟨g, 1, none⟩ = some (.int .i64 xty) ∧ w'.cell? ⟨g, 2, none⟩ = some (.int .i64 xid)) (go_keep) (
          (go_at_call 39; refine (HNB.out _ _ _ (by omega) (by omega) (by omega) (by omega)).mono ?_; rintro e w9 ⟨rfl, hKn⟩; have hKc := trs (by first | exact hKc.drewN _ | exact hKc.drew | exact hKc) hKn; obtain ⟨z0, z1, z2, z3, z4, z5⟩ := HALL1.out _ hKc))
        all_goals
          rw [bytes_app, bytes_app, bytes_app]
          obtain ⟨S1, hS1⟩ : ∃ S1, S1 = S ++ (nbs xk 1 ++ nbs xty 1 ++ nbs xid 2) := ⟨_, rfl⟩
          rw [← hS1]
          have hS1l : S1.length ≤ 3 + 60 * i + 12 := by rw [hS1]; simp only [List.length_append]; omega
          have HS1 := hide hS1
          have hzS1 := bsz5 S1
          have hKc6 := hKc
          clear hS1 hq0 hq1 hq2 hqa hqb hqc hzS HKr
          have hqf := nbs_len xf 1 (by omega)
          by_cases hk4 : xk = 4
          · have hk4' : ((xk : Int) == 4) = true := by simp; omega
            have hqt := nbs_len xt.length 1 (by omega)
            have hq0 : ¬ 9223372036854775807 < (nbs xf 1).length + (nbs xt.length 1).length := by omega
            have hq1 : ¬ 9223372036854775807 < (nbs xf 1).length + (nbs xt.length 1).length + xt.length := by omega
            have hq2 : ¬ 9223372036854775807 < S1.length + ((nbs xf 1).length + (nbs xt.length 1).length + xt.length) := by omega
            have HB := hide (show S1 ++ (nbs xf 1 ++ nbs xt.length 1 ++ xt) = beN 2 num.toNat ++ (beN 1 l.length ++ (l.take (i + 1)).flatMap evB) by
              rw [HT.out, List.flatMap_append, HS1.out, HSS.out, List.flatMap_cons, List.flatMap_nil, HEB.out, if_pos hk4]; unfold nbs; simp)
            clear hk4 HEB HT HSS HS1
            go_wp2_with fail
            go_region_held3 (fun w' => w'.cell? ⟨g, 3, none⟩ = some (.int .i64 xf) ∧ w'.cell? ⟨g, 5, none⟩ = some (.string ⟨xt.toArray⟩)) (go_keep) (
              (go_at_call 39; refine (HNB.out _ _ _ (by omega) (by omega) (by omega) (by omega)).mono ?_; rintro e w9 ⟨rfl, hKn⟩; have hKc := trs (by first | exact hKc.drewN _ | exact hKc.drew | exact hKc) hKn; obtain ⟨z0, z1, z2, z3, z4, z5⟩ := HALL1.out _ hKc))
            all_goals
              rw [bytes_app, bytes_app, bytes_app]
              have hSl2 : (S1 ++ (nbs xf 1 ++ nbs xt.length 1 ++ xt)).length ≤ 3 + 60 * (i + 1) := by simp only [List.length_append]; omega
              have HKF := hide (trs HKX.out hKc)
              generalize S1 ++ (nbs xf 1 ++ nbs xt.length 1 ++ xt) = S2 at *
              clear hq0 hq1 hq2 hKc hKc6
              go_wp2_with fail
              go_roundg m
              case measure => omega
              case rel => exact ⟨i + 1, S2, rfl, by go_num, by omega, HB, hSl2, HKF⟩
          · have hk4' : ((xk : Int) == 4) = false := by rw [beq_eq_false_iff_ne]; omega
            by_cases hk2 : 2 < xk
            · have hqt := nbs_len (xn + 999999999) 4 (by omega)
              have hwx : IntKind.i64.wrap (xn + 999999999) = xn + 999999999 := by rw [IntKind.wrap_i64]; omega
              have hq0 : ¬ 9223372036854775807 < (nbs xf 1).length + (nbs (xn + 999999999) 4).length := by omega
              have hq2 : ¬ 9223372036854775807 < S1.length + ((nbs xf 1).length + (nbs (xn + 999999999) 4).length) := by omega
              have HB := hide (show S1 ++ (nbs xf 1 ++ nbs (xn + 999999999) 4) = beN 2 num.toNat ++ (beN 1 l.length ++ (l.take (i + 1)).flatMap evB) by
                rw [HT.out, List.flatMap_append, HS1.out, HSS.out, List.flatMap_cons, List.flatMap_nil, HEB.out, if_neg hk4, if_pos hk2]; unfold nbs; simp)
              clear hk4 HEB HT HSS HS1
              go_wp2_with fail
              go_region_held3 (fun w' => w'.cell? ⟨g, 3, none⟩ = some (.int .i64 xf) ∧ w'.cell? ⟨g, 4, none⟩ = some (.int .i64 xn)) (go_keep) (
                (go_at_call 39; refine (HNB.out _ _ _ (by omega) (by omega) (by omega) (by omega)).mono ?_; rintro e w9 ⟨rfl, hKn⟩; have hKc := trs (by first | exact hKc.drewN _ | exact hKc.drew | exact hKc) hKn; obtain ⟨z0, z1, z2, z3, z4, z5⟩ := HALL1.out _ hKc))
              all_goals
                rw [bytes_app, bytes_app]
                have hSl2 : (S1 ++ (nbs xf 1 ++ nbs (xn + 999999999) 4)).length ≤ 3 + 60 * (i + 1) := by simp only [List.length_append]; omega
                have HKF := hide (trs HKX.out hKc)
                generalize S1 ++ (nbs xf 1 ++ nbs (xn + 999999999) 4) = S2 at *
                clear hq0 hq2 hKc hKc6
                go_wp2_with fail
                go_roundg m
                case measure => omega
                case rel => exact ⟨i + 1, S2, rfl, by go_num, by omega, HB, hSl2, HKF⟩
            · have HB := hide (show S1 = beN 2 num.toNat ++ (beN 1 l.length ++ (l.take (i + 1)).flatMap evB) by
                rw [HT.out, List.flatMap_append, HS1.out, HSS.out, List.flatMap_cons, List.flatMap_nil, HEB.out, if_neg hk4, if_neg hk2]; unfold nbs; simp)
              have HKF := hide (trs HKX.out hKc)
              clear hk4 HEB HT HSS HS1 hKc hKc6
              go_wp2_with fail
              go_roundg m
              case measure => omega
              case rel => exact ⟨i + 1, S1, rfl, by go_num, by omega, HB, by omega, HKF⟩
      · have hil : i = l.length := by omega
        have hgk : gk = 0 := by omega
        subst hgk
        have HE := hide (show (bytesB ⟨num, l⟩) = nbs S.length 2 ++ S by
          have h1 : S = innerB ⟨num, l⟩ := by rw [HSS.out, hil, List.take_length]; rfl
          unfold bytesB nbs
          rw [← h1]; rfl)
        have hqa := nbs_len S.length 2 (by omega)
        have hq0 : ¬ 9223372036854775807 < (nbs S.length 2).length + S.length := by omega
        have hnlt : ¬ (i : Int) < (l.length : Int) := by omega
        have hsb : S.length ≤ 500 := by omega
        clear hil
        go_wp2_with fail
        refine (HNB.out _ _ _ (by omega) (by omega) (by omega) (by omega)).mono ?_
        rintro e w9 ⟨rfl, hKn⟩
        go_wp2_with fail
        rw [bytes_app]
        go_ret
        exact ⟨ret_str (by rw [HE.out]), trs (trs HKW.out HKr.out) hKn⟩

end Go.Proofs.Ytillhpepfpldcaa

/- The reference: between. -/
namespace Go.Proofs.Ytillhpepfpldcaa
open Go.RowKit

theorem between_any (n a b : Int) (w : World) :
    Calls Try.prog 36 #[.int .i64 n, .int .i64 a, .int .i64 b] w fun e w' => e = .returned (.bool (decide (a ≤ n) && decide (n ≤ b))) ∧ w' = w := by
  go_enter Try.func36, Try.ntmps36
  go_wp2
  all_goals go_ret
  all_goals refine ⟨ret_bool ?_, rfl⟩
  all_goals (rw [Bool.eq_iff_iff]; simp; try omega)

theorem between_is (n a b : Int) (w : World) (t : Bool) (ht : (decide (a ≤ n) && decide (n ≤ b)) = t) :
    Calls Try.prog 36 #[.int .i64 n, .int .i64 a, .int .i64 b] w fun e w' => e = .returned (.bool t) ∧ w' = w := by
  subst ht; exact between_any n a b w

end Go.Proofs.Ytillhpepfpldcaa

/- The reference's IsInt. -/
namespace Go.Proofs.Ytillhpepfpldcaa
open Go.RowKit

theorem isInt_any (n : Int) (w : World) :
    Calls Try.prog 38 #[.int .i64 n] w fun e w' => e = .returned (.bool (decide (-999999999 ≤ n) && decide (n ≤ 999999999))) ∧ w' = w := by
  have H1 := hide (between_is n (-999999999) 999999999 w _ rfl)
  go_enter Try.func38, Try.ntmps38
  go_wp2_with fail
  refine H1.out.mono ?_
  rintro e w' ⟨rfl, rfl⟩
  go_wp2_with fail
  go_ret
  exact ⟨rfl, rfl⟩

end Go.Proofs.Ytillhpepfpldcaa

/- The reference: CheckEvent. -/
namespace Go.Proofs.Ytillhpepfpldcaa
open Go.RowKit

/-- the reference's words on an event's shape -/
def btw (n a b : Int) : Bool := decide (a ≤ n) && decide (n ≤ b)
theorem btw_any (n a b : Int) (w : World) :
    Calls Try.prog 36 #[.int .i64 n, .int .i64 a, .int .i64 b] w fun e w' => e = .returned (.bool (btw n a b)) ∧ w' = w := between_any n a b w

theorem shape_ref (k ty i f n : Int) (t : List UInt8) : shapeE ⟨k, ty, i, f, n, t⟩ = if btw k 1 6 = false then 7 else if k < 3 ∧ (f ≠ 0 ∨ n ≠ 0) ∨ k = 4 ∧ n ≠ 0 ∨ k ≠ 4 ∧ t ≠ [] then 1 else 0 := by
  have hb : evKind k = btw k 1 6 := rfl
  unfold shapeE
  simp only [hb]
  by_cases h : btw k 1 6 = false
  · rw [if_pos h, if_pos h]
  · rw [if_neg h, if_neg h]
    have h1 : 1 ≤ k ∧ k ≤ 6 := by unfold btw at h; simpa using h
    have hF : namesF k = false ↔ k < 3 := by unfold namesF namesN namesT; simp; omega
    have hN : namesN k = false ↔ k < 3 ∨ k = 4 := by unfold namesN; simp; omega
    have hT : namesT k = false ↔ k ≠ 4 := by unfold namesT; simp
    simp only [hF, hN, hT]
    by_cases a1 : f = 0 <;> by_cases a2 : n = 0 <;> by_cases a3 : t = [] <;> by_cases a4 : k < 3 <;> by_cases a5 : k = 4 <;> simp [a1, a2, a3, a4, a5] <;> omega

set_option maxHeartbeats 1600000 in
theorem checkEvent_any (e : EventT) (w : World) :
    Calls Try.prog 37 #[evV e] w fun r w' => r = .returned (.int .i64 (shapeE e)) ∧ Same w w' := by
  obtain ⟨k, ty, i, f, n, t⟩ := e
  have he := empty_bytes t
  go_enter Try.func37, Try.ntmps37
  go_wp2_with ((go_at_call 36; refine (btw_any _ _ _ _).mono ?_; rintro e w' ⟨rfl, rfl⟩))
  all_goals go_ret
  all_goals refine ⟨ret_int ?_, (by repeat' (first | assumption | exact Kept.refl _ _ | refine Kept.drewN ?_ _ | refine Kept.drew ?_ | refine Kept.alloc ?_ _ | refine Kept.setB ?_ _ _))⟩
  all_goals rw [shape_ref]
  all_goals simp_all
  all_goals omega

end Go.Proofs.Ytillhpepfpldcaa
