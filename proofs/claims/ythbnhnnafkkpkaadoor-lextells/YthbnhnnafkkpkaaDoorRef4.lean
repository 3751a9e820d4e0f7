/- Walks of the document's own functions: Digits. -/
import Derived.Test.YthbnhnnafkkpkaaDoorRef3
namespace Go.Proofs.YthbnhnnafkkpkaaDoor
open Go.RowKit

theorem digit_conv (u : Nat) (hu : u < 10) (c : UInt8) (hc : c = UInt8.ofNat (48 + u)) (X : World) (g : Nat) (h : X.cell? ⟨g, 0, none⟩ = some (.int .u8 (48 + (u : Int)))) :
    (convert 41 9 (.slice (some ⟨g, 0, none⟩) 1 1)).run Tryd.prog X = .ok (.string ⟨#[c]⟩) X := by
  refine one_string X g c ?_
  rw [hc, dd_digit hu]
  exact h

set_option maxHeartbeats 1600000 in
theorem digits_one (u : Nat) (hu : u < 10) (w : World) :
    Calls Tryd.prog 29 #[.int .i64 u] w fun e w' => ∃ b : ByteArray, e = .returned (.string b) ∧ b.data.toList = Lib.decDigits u ∧ Same w w' := by
  obtain ⟨c, hc⟩ : ∃ c, c = UInt8.ofNat (48 + u) := ⟨_, rfl⟩
  have hconv := fun X g => digit_conv u hu c hc X g
  have HC := hide hc
  clear hc
  have hlt : (u : Int) < 10 := by omega
  go_enter Tryd.func29, Tryd.ntmps29
  go_wp2_with fail
  go_ret
  refine ⟨_, rfl, by rw [Lib.decDigits, dif_pos hu, ← HC.out], (by repeat' (first | assumption | exact Kept.refl _ _ | refine Kept.drewN ?_ _ | refine Kept.drew ?_ | refine Kept.alloc ?_ _ | refine Kept.setB ?_ _ _))⟩

set_option maxRecDepth 20000 in
set_option maxHeartbeats 400000 in
theorem digits_pos (u : Nat) : u ≤ 999999999 → ∀ (w : World),
    Calls Tryd.prog 29 #[.int .i64 u] w fun e w' => ∃ b : ByteArray, e = .returned (.string b) ∧ b.data.toList = Lib.decDigits u ∧ Same w w' := by
  induction u using Nat.strongRecOn with
  | _ u ih =>
    intro hu w
    by_cases h10 : u < 10
    · exact digits_one u h10 w
    · have i1 := fun w => ih (u / 10) (by omega) (by omega) w
      have i2 := fun w => digits_one (u % 10) (by omega) w
      rw [show ((u / 10 : Nat) : Int) = (u : Int) / 10 from rfl] at i1
      rw [show ((u % 10 : Nat) : Int) = (u : Int) % 10 from rfl] at i2
      have I1 := hide i1
      have I2 := hide i2
      clear i1 i2
      clear ih
      have HD := hide (show Lib.decDigits u = Lib.decDigits (u / 10) ++ Lib.decDigits (u % 10) by
        rw [Lib.decDigits, dif_neg h10]
        congr 1
        rw [Lib.decDigits, dif_pos (by omega)])
      have L1 := dd_len (u / 10) (by omega)
      have L2 := dd_len (u % 10) (by omega)
      go_enter Tryd.func29, Tryd.ntmps29
      go_wp2_with fail
      refine (I1.out _).mono ?_
      rintro e w1 ⟨b1, rfl, hb1, hK1⟩
      have hz1 := size_toList b1
      rw [hb1] at hz1
      have HB1 := hide hb1
      clear hb1
      go_wp2_with fail
      refine (I2.out _).mono ?_
      rintro e w2 ⟨b2, rfl, hb2, hK2⟩
      have hz2 := size_toList b2
      rw [hb2] at hz2
      have HB2 := hide hb2
      clear hb2
      have s1 : b1.size ≤ 9 := by omega
      have s2 : b2.size ≤ 9 := by omega
      clear hz1 hz2 L1 L2
      go_wp2_with fail
      go_ret
      exact ⟨_, rfl, by rw [app_bytes, HB1.out, HB2.out, HD.out], hK1.trans hK2 (fun _ _ f => f.elim)⟩

set_option maxRecDepth 20000 in
set_option maxHeartbeats 400000 in
theorem digits_any (n : Int) (h0 : -999999999 ≤ n) (h1 : n ≤ 999999999) (w : World) :
    Calls Tryd.prog 29 #[.int .i64 n] w fun e w' => ∃ b : ByteArray, e = .returned (.string b) ∧ b.data.toList = Lib.itoa n ∧ Same w w' := by
  by_cases hneg : n < 0
  · have HI := hide (show Lib.itoa n = 45 :: Lib.decDigits n.natAbs by unfold Lib.itoa; rw [if_pos hneg])
    by_cases h10 : -10 < n
    · have i1 := fun w => digits_pos n.natAbs (by omega) w
      rw [show ((n.natAbs : Nat) : Int) = -n from by omega] at i1
      have I1 := hide i1
      have L1 := dd_len n.natAbs (by omega)
      clear i1
      go_enter Tryd.func29, Tryd.ntmps29
      go_wp2_with fail
      refine (I1.out _).mono ?_
      rintro e w1 ⟨b1, rfl, hb1, hK1⟩
      have hz1 := size_toList b1
      rw [hb1] at hz1
      have HB1 := hide hb1
      clear hb1
      have s1 : b1.size ≤ 9 := by omega
      clear hz1 L1
      go_wp2_with fail
      go_ret
      exact ⟨_, rfl, by rw [app_bytes, HB1.out, HI.out]; rfl, hK1⟩
    · obtain ⟨m, hm⟩ : ∃ m : Nat, m = n.natAbs := ⟨_, rfl⟩
      have hn : n = -(m : Int) := by omega
      have e1 : -(n.tdiv 10) = ((m / 10 : Nat) : Int) := by rw [hn, Int.neg_tdiv, Int.neg_neg]; exact (Int.ofNat_tdiv m 10).symm
      have e2 : -(n.tmod 10) = ((m % 10 : Nat) : Int) := by rw [hn, Int.neg_tmod, Int.neg_neg]; exact (Int.ofNat_tmod m 10).symm
      have i1 := fun w => digits_pos (m / 10) (by omega) w
      have i2 := fun w => digits_pos (m % 10) (by omega) w
      rw [← e1] at i1
      rw [← e2] at i2
      have I1 := hide i1
      have I2 := hide i2
      have HD := hide (show Lib.decDigits m = Lib.decDigits (m / 10) ++ Lib.decDigits (m % 10) by
        rw [Lib.decDigits, dif_neg (by omega)]
        congr 1
        rw [Lib.decDigits, dif_pos (by omega)])
      have L1 := dd_len (m / 10) (by omega)
      have L2 := dd_len (m % 10) (by omega)
      have q1 : 0 ≤ -(n.tdiv 10) := by omega
      have q2 : -(n.tdiv 10) ≤ 999999999 := by omega
      have q3 : 0 ≤ -(n.tmod 10) := by omega
      have q4 : -(n.tmod 10) ≤ 999999999 := by omega
      have HM := hide hm
      clear i1 i2 hm hn e1 e2
      go_enter Tryd.func29, Tryd.ntmps29
      go_wp2_with fail
      refine (I1.out _).mono ?_
      rintro e w1 ⟨b1, rfl, hb1, hK1⟩
      have hz1 := size_toList b1
      rw [hb1] at hz1
      have HB1 := hide hb1
      clear hb1
      have s1 : b1.size ≤ 9 := by omega
      clear hz1 L1
      go_wp2_with fail
      refine (I2.out _).mono ?_
      rintro e w2 ⟨b2, rfl, hb2, hK2⟩
      have hz2 := size_toList b2
      rw [hb2] at hz2
      have HB2 := hide hb2
      clear hb2
      have s2 : b2.size ≤ 9 := by omega
      clear hz2 L2
      go_wp2_with fail
      go_ret
      exact ⟨_, rfl, by rw [app_bytes, app_bytes, HB1.out, HB2.out, HI.out, ← HM.out, HD.out]; rfl, hK1.trans hK2 (fun _ _ f => f.elim)⟩
  · have i := digits_pos n.toNat (by omega) w
    rw [show ((n.toNat : Nat) : Int) = n from by omega] at i
    refine i.mono ?_
    rintro e w' ⟨b, rfl, hb, hK⟩
    exact ⟨b, rfl, by rw [hb]; unfold Lib.itoa; rw [if_neg hneg], hK⟩

end Go.Proofs.YthbnhnnafkkpkaaDoor
