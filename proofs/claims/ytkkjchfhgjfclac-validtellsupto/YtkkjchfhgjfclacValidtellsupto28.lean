/- The reference's CheckQuery. -/
import Derived.Test.YtkkjchfhgjfclacValidtellsupto26
import Derived.Test.YtkkjchfhgjfclacValidtellsupto27
namespace Go.Proofs.Ytkkjchfhgjfclac
open Go.RowKit

theorem checkQ_e {s : Sels} (h : s.len = 0) : checkQ s = 5 := by rw [checkQ, if_pos h]
theorem checkQ_m {s : Sels} (h : s.len ≠ 0) (h2 : 40 < s.len + kidsQ s 1 ∨ 5 < mostQ s 1) : checkQ s = 2 := by rw [checkQ, if_neg h, if_pos ((fits_ref s).2 h2)]
theorem checkQ_w {s : Sels} (h : s.len ≠ 0) (h2 : ¬ (40 < s.len + kidsQ s 1 ∨ 5 < mostQ s 1)) : checkQ s = wrongQ [] s := by rw [checkQ, if_neg h, if_neg (fun e => h2 ((fits_ref s).1 e))]

set_option maxRecDepth 20000 in
set_option maxHeartbeats 1600000 in
theorem rCheckQ_any (w : World) (v : Value) (f : Sels) (h : SelSl w v f) (hs : f.size' ≤ 4000000) :
    Calls Try.prog 26 #[v] w fun e w' => e = .returned (.int .i64 (checkQ f)) ∧ Same w w' := by
  obtain ⟨ao, cap, rfl, _, _⟩ := id h
  by_cases hz : f.len = 0
  · have HZ := hide (checkQ_e hz)
    rw [hz]
    clear h hs hz
    go_enter Try.func26, Try.ntmps26
    go_wp2_with fail
    go_ret
    exact ⟨ret_int HZ.out.symm, Kept.refl _ _⟩
  · have hz' : ((f.len : Int) == 0) = false := beq_eq_false_iff_ne.2 (by omega)
    have HC := hide (count_any f w _ hs h)
    have HW := hide (rcheck_any f w _ h)
    have HZ := hide hz
    have hA : f.len + kidsQ f 1 ≤ 4000000 := Nat.le_trans (kidsQ_le f 1) hs
    have hB : mostQ f 1 ≤ 6 := mostQ_le f 1 (by omega)
    have HM := hide (checkQ_m (s := f) hz)
    have HN := hide (checkQ_w (s := f) hz)
    obtain ⟨a, ha⟩ : ∃ a, a = f.len + kidsQ f 1 := ⟨_, rfl⟩
    obtain ⟨b, hb⟩ : ∃ b, b = mostQ f 1 := ⟨_, rfl⟩
    rw [← ha, ← hb] at HC HM HN
    rw [← ha] at hA
    rw [← hb] at hB
    clear h hs hz ha hb
    by_cases h1 : 40 < a
    · have HE := hide (HM.out (.inl h1))
      go_enter Try.func26, Try.ntmps26
      go_wp2_with fail
      refine HC.out.mono ?_
      rintro e w1 ⟨rfl, hw1⟩
      rw [hw1]
      clear hw1
      go_wp2_with fail
      go_ret
      exact ⟨ret_int HE.out.symm, Kept.refl _ _⟩
    · by_cases h2 : 5 < b
      · have HE := hide (HM.out (.inr h2))
        go_enter Try.func26, Try.ntmps26
        go_wp2_with fail
        refine HC.out.mono ?_
        rintro e w1 ⟨rfl, hw1⟩
        rw [hw1]
        clear hw1
        go_wp2_with fail
        go_ret
        exact ⟨ret_int HE.out.symm, Kept.refl _ _⟩
      · have HE := hide (HN.out (by omega))
        go_enter Try.func26, Try.ntmps26
        go_wp2_with fail
        refine HC.out.mono ?_
        rintro e w1 ⟨rfl, hw1⟩
        rw [hw1]
        clear hw1
        go_wp2_with fail
        refine HW.out.mono ?_
        rintro e w2 ⟨rfl, hK2⟩
        go_wp2_with fail
        go_ret
        exact ⟨ret_int HE.out.symm, hK2⟩

end Go.Proofs.Ytkkjchfhgjfclac
