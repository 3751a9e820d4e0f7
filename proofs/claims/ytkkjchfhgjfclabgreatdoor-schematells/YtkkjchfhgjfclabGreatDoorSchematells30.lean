import Derived.Test.YtkkjchfhgjfclabGreatDoorSchematells29
import Derived.Test.YtkkjchfhgjfclabGreatDoorSchematells09
import Derived.Test.YtkkjchfhgjfclabGreatDoorSchematells14
import Derived.Test.YtkkjchfhgjfclabGreatDoorSchematells08
import Derived.Test.YtkkjchfhgjfclabGreatDoorSchematells03
/- The reference's CheckName. -/
namespace Go.Proofs.YtkkjchfhgjfclabGreatDoor
open Go.RowKit

theorem nameOk_step (s : ByteArray) (k : Nat) (h : k < s.size) (t : Bool) :
    ((s.data.toList.take (k + 1)).all onn && t) = (((s.data.toList.take k).all onn && t) && onn s[k]) := by
  rw [take_at h, List.all_append]
  simp only [List.all_cons, List.all_nil, Bool.and_true]
  cases (s.data.toList.take k).all onn <;> cases t <;> cases onn s[k] <;> rfl

theorem letter_is (c : UInt8) (w : World) (t : Bool) (ht : beg c = t) :
    Calls Tryz.prog 78 #[.int .u8 c.toNat] w fun e w' => e = .returned (.bool t) ∧ w' = w := by
  rw [← ht]; exact rLetter_any c w
theorem digit_is (c : UInt8) (w : World) (t : Bool) (ht : dig c = t) :
    Calls Tryz.prog 79 #[.int .u8 c.toNat] w fun e w' => e = .returned (.bool t) ∧ w' = w := by
  rw [← ht]; exact rDigit_any c w

def nameE (l : List UInt8) : Int := if 12 < l.length then 2 else if nameOk l then 0 else 1

set_option maxHeartbeats 1600000 in
theorem checkName_any (s : ByteArray) (w : World) :
    Calls Tryz.prog 46 #[.string s] w fun e w' => e = .returned (.int .i64 (nameE s.data.toList)) ∧ w' = w := by
  by_cases hbig : 12 < s.size
  · have HF := hide (show nameE s.data.toList = 2 by unfold nameE; rw [if_pos (by rw [size_toList]; exact hbig)])
    go_enter Tryz.func46, Tryz.ntmps46
    go_wp2_with fail
    go_ret
    exact ⟨ret_int HF.out.symm, rfl⟩
  · have HF := hide (show nameE s.data.toList = if nameOk s.data.toList then 0 else 1 by unfold nameE; rw [if_neg (by rw [size_toList]; exact hbig)])
    by_cases h0 : s.size = 0
    · have he : s.toList.isEmpty = true := by rw [ByteArray.toList_eq, List.isEmpty_iff_length_eq_zero]; simpa using h0
      have HN := hide (show nameE s.data.toList = 1 by
        rw [HF.out, show s.data.toList = [] from List.length_eq_zero_iff.1 (by simpa using h0)]; rfl)
      have hz : s.size ≤ 0 := by omega
      clear h0
      go_enter Tryz.func46, Tryz.ntmps46
      go_wp2_with fail
      go_loopg [3, 4] 1 (fun g ok i wr => wr = w ∧ i = .int .i64 0 ∧ ok = .bool false)
      case atStart => exact ⟨rfl, rfl, rfl⟩
      case round =>
        obtain ⟨rfl, rfl, rfl⟩ := hrel
        go_wp2_with fail
        go_ret
        exact ⟨ret_int HN.out.symm, rfl⟩
    · have he : s.toList.isEmpty = false := by
        cases hx : s.toList.isEmpty with
        | false => rfl
        | true => rw [ByteArray.toList_eq, List.isEmpty_iff_length_eq_zero] at hx; exact absurd (by simpa using hx) h0
      have hp : 0 < s.size := by omega
      obtain ⟨nb, hnb⟩ : ∃ nb, beg s[0] = nb := ⟨_, rfl⟩
      have HB := hide hnb
      have HN := hide (show nameOk s.data.toList = (s.data.toList.all onn && nb) by
        unfold nameOk
        have hd := drop_at hp
        rw [List.drop_zero] at hd
        rw [hd, ← hnb]
        simp)
      clear hnb h0
      go_enter Tryz.func46, Tryz.ntmps46
      go_wp2_with fail
      refine (letter_is s[0] _ nb HB.out).mono ?_
      rintro e w1 ⟨rfl, rfl⟩
      go_wp2_with fail
      go_loopg [3, 4] s.size (fun g ok i wr => wr = w1 ∧ ∃ (k : Nat) (t : Bool), k + g = s.size ∧ i = .int .i64 k ∧ ok = .bool t ∧ Hid (((s.data.toList.take k).all onn && nb) = t))
      case atStart => exact ⟨rfl, 0, nb, by omega, rfl, rfl, by simp [Hid]⟩
      case round =>
        obtain ⟨rfl, k, t, hk, rfl, rfl, HT⟩ := hrel
        by_cases hlt : k < s.size
        · cases t
          · go_wp2_with fail
            go_roundg (gk - 1)
            case measure => omega
            case rel => exact ⟨rfl, k + 1, false, by omega, by go_num, rfl, by rw [Hid, nameOk_step s k hlt, HT.out]; rfl⟩
          · cases hb : beg s[k] with
            | true =>
              have HP := hide hb
              clear hb
              go_wp2_with fail
              refine (letter_is s[k] _ true HP.out).mono ?_
              rintro e w1 ⟨rfl, rfl⟩
              go_wp2_with fail
              go_roundg (gk - 1)
              case measure => omega
              case rel => exact ⟨rfl, k + 1, true, by omega, by go_num, rfl, by rw [Hid, nameOk_step s k hlt, HT.out, onn, HP.out]; rfl⟩
            | false =>
              have HP := hide hb
              clear hb
              obtain ⟨d, hd⟩ : ∃ d, dig s[k] = d := ⟨_, rfl⟩
              have HD := hide hd
              clear hd
              go_wp2_with fail
              refine (letter_is s[k] _ false HP.out).mono ?_
              rintro e w1 ⟨rfl, rfl⟩
              go_wp2_with fail
              refine (digit_is s[k] _ d HD.out).mono ?_
              rintro e w1 ⟨rfl, rfl⟩
              go_wp2_with fail
              go_roundg (gk - 1)
              case measure => omega
              case rel => exact ⟨rfl, k + 1, d, by omega, by go_num, by simp, by rw [Hid, nameOk_step s k hlt, HT.out, onn, HP.out, HD.out]; simp⟩
        · have HE := hide (show nameE s.data.toList = if t then 0 else 1 by
            rw [HF.out, HN.out, ← HT.out, List.take_of_length_le (by rw [size_toList]; omega)])
          cases t
          · go_wp2_with fail
            go_ret
            exact ⟨ret_int HE.out.symm, rfl⟩
          · go_wp2_with fail
            go_ret
            exact ⟨ret_int HE.out.symm, rfl⟩

end Go.Proofs.YtkkjchfhgjfclabGreatDoor

/- Walks of the document's own functions: isSign, CheckName, Quoted. -/
namespace Go.Proofs.YtkkjchfhgjfclabGreatDoor
open Go.RowKit

theorem rSign_not (s : ByteArray) (h : s.size ≠ 1) (w : World) :
    Calls Tryz.prog 81 #[.string s] w fun e w' => e = .returned (.bool false) ∧ w' = w := by
  have h1 : ((s.size : Int) == 1) = false := by simp; omega
  clear h
  go_enter Tryz.func81, Tryz.ntmps81
  go_wp2_with fail
  go_ret
  exact ⟨rfl, rfl⟩

theorem sgn_or (c : UInt8) : (c == 123 || c == 125 || c == 40 || c == 41 || c == 58 || c == 91 || c == 93) = sgn c := by
  have h : ∀ n : Fin 256, ((UInt8.ofNat n) == 123 || (UInt8.ofNat n) == 125 || (UInt8.ofNat n) == 40 || (UInt8.ofNat n) == 41 || (UInt8.ofNat n) == 58 || (UInt8.ofNat n) == 91 || (UInt8.ofNat n) == 93) = sgn (UInt8.ofNat n) := by decide +kernel
  have h1 := h ⟨c.toNat, c.toNat_lt⟩
  simpa using h1

theorem rSign_one (c : UInt8) (w : World) :
    Calls Tryz.prog 81 #[.string ⟨#[c]⟩] w fun e w' => e = .returned (.bool (sgn c)) ∧ w' = w := by
  have HS := hide (sgn_or c)
  go_enter Tryz.func81, Tryz.ntmps81
  go_wp2_with fail
  all_goals go_ret
  all_goals refine ⟨ret_bool ?_, rfl⟩
  all_goals (rw [← HS.out]; try simp_all)

/-- a string, if it is one byte -/
def oneSign (l : List UInt8) : Bool := decide (l.length = 1) && sgn (l.head?.getD 0)

theorem rSign_any (s : ByteArray) (w : World) :
    Calls Tryz.prog 81 #[.string s] w fun e w' => e = .returned (.bool (oneSign s.data.toList)) ∧ w' = w := by
  by_cases h : s.size = 1
  · obtain ⟨⟨l⟩⟩ := s
    match l, h with
    | [c], _ => exact rSign_one c w
  · have e : oneSign s.data.toList = false := by
      unfold oneSign
      rw [size_toList]
      simp [h]
    rw [e]
    exact rSign_not s h w

end Go.Proofs.YtkkjchfhgjfclabGreatDoor

/- Walks of the document's own functions: Quoted, Digits. -/
namespace Go.Proofs.YtkkjchfhgjfclabGreatDoor
open Go.RowKit

theorem app_bytes (a b : ByteArray) : (a ++ b).data.toList = a.data.toList ++ b.data.toList := by simp

theorem quote_step (s : ByteArray) (k : Nat) (h : k < s.size) : 34 :: (s.data.toList.take (k + 1)).flatMap quoteC = (34 :: (s.data.toList.take k).flatMap quoteC) ++ quoteC s[k] := by rw [take_at h]; simp

theorem extract_one (s : ByteArray) (k : Nat) (h : k < s.size) : (s.extract k (k + 1)).data.toList = [s[k]] := by
  have h1 := drop_at h
  simp only [ByteArray.data_extract, Array.toList_extract, List.extract_eq_take_drop]
  rw [h1, show k + 1 - k = 1 from by omega]
  rfl

set_option maxHeartbeats 1600000 in
theorem rQuoted_any (w : World) (s : ByteArray) (hs : s.size ≤ 2000) :
    Calls Tryz.prog 83 #[.string s] w fun e w' => ∃ b : ByteArray, e = .returned (.string b) ∧ b.data.toList = quoteL s.data.toList ∧ w' = w := by
  go_enter Tryz.func83, Tryz.ntmps83
  go_wp2_with fail
  go_loopg [3, 4] s.size (fun g cur i wr => wr = w ∧ ∃ (k : Nat) (b : ByteArray), k + g = s.size ∧ i = .int .i64 k ∧ cur = .string b ∧ b.size ≤ 2 * k + 1 ∧ Hid (b.data.toList = 34 :: (s.data.toList.take k).flatMap quoteC))
  case atStart => exact ⟨rfl, 0, ⟨#[34]⟩, by omega, rfl, rfl, by decide, by simp [Hid]⟩
  case round =>
    obtain ⟨rfl, k, b, hk, rfl, rfl, hb, HB⟩ := hrel
    by_cases hlt : k < s.size
    · have hq := quote_step s k hlt
      rcases (show s[k].toNat = 34 ∨ s[k].toNat = 92 ∨ s[k].toNat = 10 ∨ (s[k].toNat ≠ 34 ∧ s[k].toNat ≠ 92 ∧ s[k].toNat ≠ 10) from by omega) with h | h | h | h
      · have hc : s[k] = 34 := UInt8.toNat_inj.1 h
        have HQ := hide (show 34 :: (s.data.toList.take (k + 1)).flatMap quoteC = (34 :: (s.data.toList.take k).flatMap quoteC) ++ [92, 34] by rw [hq, hc]; rfl)
        have t1 : ((s[k].toNat : Int) == 34) = true := by simp; omega
        clear hq h hc
        go_wp2_with fail
        go_roundg (gk - 1)
        case measure => omega
        case rel => exact ⟨rfl, k + 1, b ++ ⟨#[92, 34]⟩, by omega, by go_num, rfl, by rw [ByteArray.size_append]; have : (⟨#[92, 34]⟩ : ByteArray).size = 2 := rfl; omega, by rw [Hid, app_bytes, HB.out, HQ.out]⟩
      · have hc : s[k] = 92 := UInt8.toNat_inj.1 h
        have HQ := hide (show 34 :: (s.data.toList.take (k + 1)).flatMap quoteC = (34 :: (s.data.toList.take k).flatMap quoteC) ++ [92, 92] by rw [hq, hc]; rfl)
        have t1 : ((s[k].toNat : Int) == 34) = false := by simp; omega
        have t2 : ((s[k].toNat : Int) == 92) = true := by simp; omega
        clear hq h hc
        go_wp2_with fail
        go_roundg (gk - 1)
        case measure => omega
        case rel => exact ⟨rfl, k + 1, b ++ ⟨#[92, 92]⟩, by omega, by go_num, rfl, by rw [ByteArray.size_append]; have : (⟨#[92, 92]⟩ : ByteArray).size = 2 := rfl; omega, by rw [Hid, app_bytes, HB.out, HQ.out]⟩
      · have hc : s[k] = 10 := UInt8.toNat_inj.1 h
        have HQ := hide (show 34 :: (s.data.toList.take (k + 1)).flatMap quoteC = (34 :: (s.data.toList.take k).flatMap quoteC) ++ [92, 110] by rw [hq, hc]; rfl)
        have t1 : ((s[k].toNat : Int) == 34) = false := by simp; omega
        have t2 : ((s[k].toNat : Int) == 92) = false := by simp; omega
        have t3 : ((s[k].toNat : Int) == 10) = true := by simp; omega
        clear hq h hc
        go_wp2_with fail
        go_roundg (gk - 1)
        case measure => omega
        case rel => exact ⟨rfl, k + 1, b ++ ⟨#[92, 110]⟩, by omega, by go_num, rfl, by rw [ByteArray.size_append]; have : (⟨#[92, 110]⟩ : ByteArray).size = 2 := rfl; omega, by rw [Hid, app_bytes, HB.out, HQ.out]⟩
      · have HQ := hide (show 34 :: (s.data.toList.take (k + 1)).flatMap quoteC = (34 :: (s.data.toList.take k).flatMap quoteC) ++ [s[k]] by rw [hq, quoteC, if_neg (by omega), if_neg (by omega)])
        have t1 : ((s[k].toNat : Int) == 34) = false := by simp; omega
        have t2 : ((s[k].toNat : Int) == 92) = false := by simp; omega
        have t3 : ((s[k].toNat : Int) == 10) = false := by simp; omega
        have HX := hide (extract_one s k hlt)
        have hxs : (s.extract k (k + 1)).size = 1 := by rw [← size_toList, HX.out]; rfl
        clear hq h
        go_wp2_with fail
        go_roundg (gk - 1)
        case measure => omega
        case rel => exact ⟨rfl, k + 1, b ++ s.extract k (k + 1), by omega, by go_num, rfl, by rw [ByteArray.size_append]; omega, by rw [Hid, app_bytes, HB.out, HQ.out, HX.out]⟩
    · go_wp2_with fail
      go_ret
      exact ⟨_, rfl, by rw [app_bytes, HB.out, List.take_of_length_le (by rw [size_toList]; omega)]; rfl, rfl⟩

end Go.Proofs.YtkkjchfhgjfclabGreatDoor

/- Walks of the document's own functions: Digits. -/
namespace Go.Proofs.YtkkjchfhgjfclabGreatDoor
open Go.RowKit

theorem digit_conv (u : Nat) (hu : u < 10) (c : UInt8) (hc : c = UInt8.ofNat (48 + u)) (X : World) (g : Nat) (h : X.cell? ⟨g, 0, none⟩ = some (.int .u8 (48 + (u : Int)))) :
    (convert 90 9 (.slice (some ⟨g, 0, none⟩) 1 1)).run Tryz.prog X = .ok (.string ⟨#[c]⟩) X := by
  refine one_string X g c ?_
  rw [hc, dd_digit hu]
  exact h

set_option maxHeartbeats 1600000 in
theorem digits_one (u : Nat) (hu : u < 10) (w : World) :
    Calls Tryz.prog 82 #[.int .i64 u] w fun e w' => ∃ b : ByteArray, e = .returned (.string b) ∧ b.data.toList = Lib.decDigits u ∧ Same w w' := by
  obtain ⟨c, hc⟩ : ∃ c, c = UInt8.ofNat (48 + u) := ⟨_, rfl⟩
  have hconv := fun X g => digit_conv u hu c hc X g
  have HC := hide hc
  clear hc
  have hlt : (u : Int) < 10 := by omega
  go_enter Tryz.func82, Tryz.ntmps82
  go_wp2_with fail
  go_ret
  refine ⟨_, rfl, by rw [Lib.decDigits, dif_pos hu, ← HC.out], (by repeat' (first | assumption | exact Kept.refl _ _ | refine Kept.drewN ?_ _ | refine Kept.drew ?_ | refine Kept.alloc ?_ _ | refine Kept.setB ?_ _ _))⟩

set_option maxRecDepth 20000 in
set_option maxHeartbeats 400000 in
theorem digits_pos (u : Nat) : u ≤ 999999999 → ∀ (w : World),
    Calls Tryz.prog 82 #[.int .i64 u] w fun e w' => ∃ b : ByteArray, e = .returned (.string b) ∧ b.data.toList = Lib.decDigits u ∧ Same w w' := by
  induction u using Nat.strongRecOn with
  | _ u ih =>
    intro hu w
    by_cases h10 : u < 10
    · exact digits_one u h10 w
    · have i1 := fun w => ih (u / 10) (by omega) (by omega) w
      have i2 := fun w => digits_one (u % 10) (by omega) w
      rw [show ((u / 10 : Nat) : Int) = (u : Int) / 10 from rfl] at i1
      rw [show ((u % 10 : Nat) : Int) = (u : Int) % 10 from rfl] at i2
      have I1 := hide i1
      have I2 := hide i2
      clear i1 i2
      clear ih
      have HD := hide (show Lib.decDigits u = Lib.decDigits (u / 10) ++ Lib.decDigits (u % 10) by
        rw [Lib.decDigits, dif_neg h10]
        congr 1
        rw [Lib.decDigits, dif_pos (by omega)])
      have L1 := dd_len (u / 10) (by omega)
      have L2 := dd_len (u % 10) (by omega)
      go_enter Tryz.func82, Tryz.ntmps82
      go_wp2_with fail
      refine (I1.out _).mono ?_
      rintro e w1 ⟨b1, rfl, hb1, hK1⟩
      have hz1 := size_toList b1
      rw [hb1] at hz1
      have HB1 := hide hb1
      clear hb1
      go_wp2_with fail
      refine (I2.out _).mono ?_
      rintro e w2 ⟨b2, rfl, hb2, hK2⟩
      have hz2 := size_toList b2
      rw [hb2] at hz2
      have HB2 := hide hb2
      clear hb2
      have s1 : b1.size ≤ 9 := by omega
      have s2 : b2.size ≤ 9 := by omega
      clear hz1 hz2 L1 L2
      go_wp2_with fail
      go_ret
      exact ⟨_, rfl, by rw [app_bytes, HB1.out, HB2.out, HD.out], hK1.trans hK2 (fun _ _ f => f.elim)⟩

set_option maxRecDepth 20000 in
set_option maxHeartbeats 400000 in
theorem digits_any (n : Int) (h0 : -999999999 ≤ n) (h1 : n ≤ 999999999) (w : World) :
    Calls Tryz.prog 82 #[.int .i64 n] w fun e w' => ∃ b : ByteArray, e = .returned (.string b) ∧ b.data.toList = Lib.itoa n ∧ Same w w' := by
  by_cases hneg : n < 0
  · have HI := hide (show Lib.itoa n = 45 :: Lib.decDigits n.natAbs by unfold Lib.itoa; rw [if_pos hneg])
    by_cases h10 : -10 < n
    · have i1 := fun w => digits_pos n.natAbs (by omega) w
      rw [show ((n.natAbs : Nat) : Int) = -n from by omega] at i1
      have I1 := hide i1
      have L1 := dd_len n.natAbs (by omega)
      clear i1
      go_enter Tryz.func82, Tryz.ntmps82
      go_wp2_with fail
      refine (I1.out _).mono ?_
      rintro e w1 ⟨b1, rfl, hb1, hK1⟩
      have hz1 := size_toList b1
      rw [hb1] at hz1
      have HB1 := hide hb1
      clear hb1
      have s1 : b1.size ≤ 9 := by omega
      clear hz1 L1
      go_wp2_with fail
      go_ret
      exact ⟨_, rfl, by rw [app_bytes, HB1.out, HI.out]; rfl, hK1⟩
    · obtain ⟨m, hm⟩ : ∃ m : Nat, m = n.natAbs := ⟨_, rfl⟩
      have hn : n = -(m : Int) := by omega
      have e1 : -(n.tdiv 10) = ((m / 10 : Nat) : Int) := by rw [hn, Int.neg_tdiv, Int.neg_neg]; exact (Int.ofNat_tdiv m 10).symm
      have e2 : -(n.tmod 10) = ((m % 10 : Nat) : Int) := by rw [hn, Int.neg_tmod, Int.neg_neg]; exact (Int.ofNat_tmod m 10).symm
      have i1 := fun w => digits_pos (m / 10) (by omega) w
      have i2 := fun w => digits_pos (m % 10) (by omega) w
      rw [← e1] at i1
      rw [← e2] at i2
      have I1 := hide i1
      have I2 := hide i2
      have HD := hide (show Lib.decDigits m = Lib.decDigits (m / 10) ++ Lib.decDigits (m % 10) by
        rw [Lib.decDigits, dif_neg (by omega)]
        congr 1
        rw [Lib.decDigits, dif_pos (by omega)])
      have L1 := dd_len (m / 10) (by omega)
      have L2 := dd_len (m % 10) (by omega)
      have q1 : 0 ≤ -(n.tdiv 10) := by omega
      have q2 : -(n.tdiv 10) ≤ 999999999 := by omega
      have q3 : 0 ≤ -(n.tmod 10) := by omega
      have q4 : -(n.tmod 10) ≤ 999999999 := by omega
      have HM := hide hm
      clear i1 i2 hm hn e1 e2
      go_enter Tryz.func82, Tryz.ntmps82
      go_wp2_with fail
      refine (I1.out _).mono ?_
      rintro e w1 ⟨b1, rfl, hb1, hK1⟩
      have hz1 := size_toList b1
      rw [hb1] at hz1
      have HB1 := hide hb1
      clear hb1
      have s1 : b1.size ≤ 9 := by omega
      clear hz1 L1
      go_wp2_with fail
      refine (I2.out _).mono ?_
      rintro e w2 ⟨b2, rfl, hb2, hK2⟩
      have hz2 := size_toList b2
      rw [hb2] at hz2
      have HB2 := hide hb2
      clear hb2
      have s2 : b2.size ≤ 9 := by omega
      clear hz2 L2
      go_wp2_with fail
      go_ret
      exact ⟨_, rfl, by rw [app_bytes, app_bytes, HB1.out, HB2.out, HI.out, ← HM.out, HD.out]; rfl, hK1.trans hK2 (fun _ _ f => f.elim)⟩
  · have i := digits_pos n.toNat (by omega) w
    rw [show ((n.toNat : Nat) : Int) = n from by omega] at i
    refine i.mono ?_
    rintro e w' ⟨b, rfl, hb, hK⟩
    exact ⟨b, rfl, by rw [hb]; unfold Lib.itoa; rw [if_neg hneg], hK⟩

end Go.Proofs.YtkkjchfhgjfclabGreatDoor
