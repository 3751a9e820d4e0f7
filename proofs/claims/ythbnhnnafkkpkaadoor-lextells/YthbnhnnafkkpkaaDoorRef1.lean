/- Walks of the document's own functions, on bytes, names and numbers. -/
import Derived.Test.YthbnhnnafkkpkaaDoorLex1
import Derived.Test.YthbnhnnafkkpkaaDoorLex13
namespace Go.Proofs.YthbnhnnafkkpkaaDoor
open Go.RowKit

theorem between_any (n a b : Int) (w : World) :
    Calls Tryd.prog 26 #[.int .i64 n, .int .i64 a, .int .i64 b] w fun e w' => e = .returned (.bool (decide (a ≤ n) && decide (n ≤ b))) ∧ w' = w := by
  go_enter Tryd.func26, Tryd.ntmps26
  go_wp2
  all_goals go_ret
  all_goals refine ⟨ret_bool ?_, rfl⟩
  all_goals (rw [Bool.eq_iff_iff]; simp; try omega)

theorem between_is (n a b : Int) (w : World) (t : Bool) (ht : (decide (a ≤ n) && decide (n ≤ b)) = t) :
    Calls Tryd.prog 26 #[.int .i64 n, .int .i64 a, .int .i64 b] w fun e w' => e = .returned (.bool t) ∧ w' = w := by
  subst ht; exact between_any n a b w

theorem rDigit_any (c : UInt8) (w : World) :
    Calls Tryd.prog 23 #[.int .u8 c.toNat] w fun e w' => e = .returned (.bool (dig c)) ∧ w' = w := by
  have h1 : (decide ((48 : Int) ≤ (c.toNat : Int)) && decide ((c.toNat : Int) ≤ 57)) = dig c := by rw [Bool.eq_iff_iff]; simp; omega
  have H1 := hide (between_is (c.toNat : Int) 48 57 w _ h1)
  clear h1
  have h256 : (c.toNat : Int) < 256 := by have := c.toNat_lt; omega
  go_enter Tryd.func23, Tryd.ntmps23
  go_wp2_with fail
  refine H1.out.mono ?_
  rintro e w' ⟨rfl, rfl⟩
  go_wp2_with fail
  go_ret
  exact ⟨rfl, rfl⟩

theorem rLetter_any (c : UInt8) (w : World) :
    Calls Tryd.prog 22 #[.int .u8 c.toNat] w fun e w' => e = .returned (.bool (beg c)) ∧ w' = w := by
  obtain ⟨t1, h1⟩ : ∃ t, (decide ((97 : Int) ≤ (c.toNat : Int)) && decide ((c.toNat : Int) ≤ 122)) = t := ⟨_, rfl⟩
  obtain ⟨t2, h2⟩ : ∃ t, (decide ((65 : Int) ≤ (c.toNat : Int)) && decide ((c.toNat : Int) ≤ 90)) = t := ⟨_, rfl⟩
  have key : beg c = (t1 || t2 || ((c.toNat : Int) == 95)) := by rw [← h1, ← h2, Bool.eq_iff_iff]; simp; omega
  have HK := hide key
  have H1 := hide (fun w => between_is (c.toNat : Int) 97 122 w _ h1)
  have H2 := hide (fun w => between_is (c.toNat : Int) 65 90 w _ h2)
  clear h1 h2 key
  have h256 : (c.toNat : Int) < 256 := by have := c.toNat_lt; omega
  cases t1
  · cases t2
    · go_enter Tryd.func22, Tryd.ntmps22
      go_wp2_with fail
      refine (H1.out _).mono ?_
      rintro e w' ⟨rfl, rfl⟩
      go_wp2_with fail
      refine (H2.out _).mono ?_
      rintro e w' ⟨rfl, rfl⟩
      go_wp2_with fail
      go_ret
      exact ⟨ret_bool (by rw [HK.out]; simp), rfl⟩
    · go_enter Tryd.func22, Tryd.ntmps22
      go_wp2_with fail
      refine (H1.out _).mono ?_
      rintro e w' ⟨rfl, rfl⟩
      go_wp2_with fail
      refine (H2.out _).mono ?_
      rintro e w' ⟨rfl, rfl⟩
      go_wp2_with fail
      go_ret
      exact ⟨ret_bool (by rw [HK.out]; simp), rfl⟩
  · go_enter Tryd.func22, Tryd.ntmps22
    go_wp2_with fail
    refine (H1.out _).mono ?_
    rintro e w' ⟨rfl, rfl⟩
    go_wp2_with fail
    go_ret
    exact ⟨ret_bool (by rw [HK.out]; simp), rfl⟩

theorem isInt_any (n : Int) (w : World) :
    Calls Tryd.prog 28 #[.int .i64 n] w fun e w' => e = .returned (.bool (decide (-999999999 ≤ n) && decide (n ≤ 999999999))) ∧ w' = w := by
  have H1 := hide (between_is n (-999999999) 999999999 w _ rfl)
  go_enter Tryd.func28, Tryd.ntmps28
  go_wp2_with fail
  refine H1.out.mono ?_
  rintro e w' ⟨rfl, rfl⟩
  go_wp2_with fail
  go_ret
  exact ⟨rfl, rfl⟩

end Go.Proofs.YthbnhnnafkkpkaaDoor
