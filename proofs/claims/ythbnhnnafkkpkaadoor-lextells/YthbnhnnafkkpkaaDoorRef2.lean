/- Walks of the document's own functions: isSign, CheckName, Quoted. -/
import Derived.Test.YthbnhnnafkkpkaaDoorRef1
namespace Go.Proofs.YthbnhnnafkkpkaaDoor
open Go.RowKit

theorem rSign_not (s : ByteArray) (h : s.size ≠ 1) (w : World) :
    Calls Tryd.prog 25 #[.string s] w fun e w' => e = .returned (.bool false) ∧ w' = w := by
  have h1 : ((s.size : Int) == 1) = false := by simp; omega
  clear h
  go_enter Tryd.func25, Tryd.ntmps25
  go_wp2_with fail
  go_ret
  exact ⟨rfl, rfl⟩

theorem sgn_or (c : UInt8) : (c == 123 || c == 125 || c == 40 || c == 41 || c == 58 || c == 91 || c == 93) = sgn c := by
  have h : ∀ n : Fin 256, ((UInt8.ofNat n) == 123 || (UInt8.ofNat n) == 125 || (UInt8.ofNat n) == 40 || (UInt8.ofNat n) == 41 || (UInt8.ofNat n) == 58 || (UInt8.ofNat n) == 91 || (UInt8.ofNat n) == 93) = sgn (UInt8.ofNat n) := by decide +kernel
  have h1 := h ⟨c.toNat, c.toNat_lt⟩
  simpa using h1

theorem rSign_one (c : UInt8) (w : World) :
    Calls Tryd.prog 25 #[.string ⟨#[c]⟩] w fun e w' => e = .returned (.bool (sgn c)) ∧ w' = w := by
  have HS := hide (sgn_or c)
  go_enter Tryd.func25, Tryd.ntmps25
  go_wp2_with fail
  all_goals go_ret
  all_goals refine ⟨ret_bool ?_, rfl⟩
  all_goals (rw [← HS.out]; try simp_all)

/-- a string, if it is one byte -/
def oneSign (l : List UInt8) : Bool := decide (l.length = 1) && sgn (l.head?.getD 0)

theorem rSign_any (s : ByteArray) (w : World) :
    Calls Tryd.prog 25 #[.string s] w fun e w' => e = .returned (.bool (oneSign s.data.toList)) ∧ w' = w := by
  by_cases h : s.size = 1
  · obtain ⟨⟨l⟩⟩ := s
    match l, h with
    | [c], _ => exact rSign_one c w
  · have e : oneSign s.data.toList = false := by
      unfold oneSign
      rw [size_toList]
      simp [h]
    rw [e]
    exact rSign_not s h w

theorem nameOk_step (s : ByteArray) (k : Nat) (h : k < s.size) (t : Bool) :
    ((s.data.toList.take (k + 1)).all onn && t) = (((s.data.toList.take k).all onn && t) && onn s[k]) := by
  rw [take_at h, List.all_append]
  simp only [List.all_cons, List.all_nil, Bool.and_true]
  cases (s.data.toList.take k).all onn <;> cases t <;> cases onn s[k] <;> rfl

theorem letter_is (c : UInt8) (w : World) (t : Bool) (ht : beg c = t) :
    Calls Tryd.prog 22 #[.int .u8 c.toNat] w fun e w' => e = .returned (.bool t) ∧ w' = w := by
  rw [← ht]; exact rLetter_any c w
theorem digit_is (c : UInt8) (w : World) (t : Bool) (ht : dig c = t) :
    Calls Tryd.prog 23 #[.int .u8 c.toNat] w fun e w' => e = .returned (.bool t) ∧ w' = w := by
  rw [← ht]; exact rDigit_any c w

def nameE (l : List UInt8) : Int := if 12 < l.length then 2 else if nameOk l then 0 else 1

set_option maxHeartbeats 1600000 in
theorem checkName_any (s : ByteArray) (w : World) :
    Calls Tryd.prog 27 #[.string s] w fun e w' => e = .returned (.int .i64 (nameE s.data.toList)) ∧ w' = w := by
  by_cases hbig : 12 < s.size
  · have HF := hide (show nameE s.data.toList = 2 by unfold nameE; rw [if_pos (by rw [size_toList]; exact hbig)])
    go_enter Tryd.func27, Tryd.ntmps27
    go_wp2_with fail
    go_ret
    exact ⟨ret_int HF.out.symm, rfl⟩
  · have HF := hide (show nameE s.data.toList = if nameOk s.data.toList then 0 else 1 by unfold nameE; rw [if_neg (by rw [size_toList]; exact hbig)])
    by_cases h0 : s.size = 0
    · have he : s.toList.isEmpty = true := by rw [ByteArray.toList_eq, List.isEmpty_iff_length_eq_zero]; simpa using h0
      have HN := hide (show nameE s.data.toList = 1 by
        rw [HF.out, show s.data.toList = [] from List.length_eq_zero_iff.1 (by simpa using h0)]; rfl)
      have hz : s.size ≤ 0 := by omega
      clear h0
      go_enter Tryd.func27, Tryd.ntmps27
      go_wp2_with fail
      go_loopg [3, 4] 1 (fun g ok i wr => wr = w ∧ i = .int .i64 0 ∧ ok = .bool false)
      case atStart => exact ⟨rfl, rfl, rfl⟩
      case round =>
        obtain ⟨rfl, rfl, rfl⟩ := hrel
        go_wp2_with fail
        go_ret
        exact ⟨ret_int HN.out.symm, rfl⟩
    · have he : s.toList.isEmpty = false := by
        cases hx : s.toList.isEmpty with
        | false => rfl
        | true => rw [ByteArray.toList_eq, List.isEmpty_iff_length_eq_zero] at hx; exact absurd (by simpa using hx) h0
      have hp : 0 < s.size := by omega
      obtain ⟨nb, hnb⟩ : ∃ nb, beg s[0] = nb := ⟨_, rfl⟩
      have HB := hide hnb
      have HN := hide (show nameOk s.data.toList = (s.data.toList.all onn && nb) by
        unfold nameOk
        have hd := drop_at hp
        rw [List.drop_zero] at hd
        rw [hd, ← hnb]
        simp)
      clear hnb h0
      go_enter Tryd.func27, Tryd.ntmps27
      go_wp2_with fail
      refine (letter_is s[0] _ nb HB.out).mono ?_
      rintro e w1 ⟨rfl, rfl⟩
      go_wp2_with fail
      go_loopg [3, 4] s.size (fun g ok i wr => wr = w1 ∧ ∃ (k : Nat) (t : Bool), k + g = s.size ∧ i = .int .i64 k ∧ ok = .bool t ∧ Hid (((s.data.toList.take k).all onn && nb) = t))
      case atStart => exact ⟨rfl, 0, nb, by omega, rfl, rfl, by simp [Hid]⟩
      case round =>
        obtain ⟨rfl, k, t, hk, rfl, rfl, HT⟩ := hrel
        by_cases hlt : k < s.size
        · cases t
          · go_wp2_with fail
            go_roundg (gk - 1)
            case measure => omega
            case rel => exact ⟨rfl, k + 1, false, by omega, by go_num, rfl, by rw [Hid, nameOk_step s k hlt, HT.out]; rfl⟩
          · cases hb : beg s[k] with
            | true =>
              have HP := hide hb
              clear hb
              go_wp2_with fail
              refine (letter_is s[k] _ true HP.out).mono ?_
              rintro e w1 ⟨rfl, rfl⟩
              go_wp2_with fail
              go_roundg (gk - 1)
              case measure => omega
              case rel => exact ⟨rfl, k + 1, true, by omega, by go_num, rfl, by rw [Hid, nameOk_step s k hlt, HT.out, onn, HP.out]; rfl⟩
            | false =>
              have HP := hide hb
              clear hb
              obtain ⟨d, hd⟩ : ∃ d, dig s[k] = d := ⟨_, rfl⟩
              have HD := hide hd
              clear hd
              go_wp2_with fail
              refine (letter_is s[k] _ false HP.out).mono ?_
              rintro e w1 ⟨rfl, rfl⟩
              go_wp2_with fail
              refine (digit_is s[k] _ d HD.out).mono ?_
              rintro e w1 ⟨rfl, rfl⟩
              go_wp2_with fail
              go_roundg (gk - 1)
              case measure => omega
              case rel => exact ⟨rfl, k + 1, d, by omega, by go_num, by simp, by rw [Hid, nameOk_step s k hlt, HT.out, onn, HP.out, HD.out]; simp⟩
        · have HE := hide (show nameE s.data.toList = if t then 0 else 1 by
            rw [HF.out, HN.out, ← HT.out, List.take_of_length_le (by rw [size_toList]; omega)])
          cases t
          · go_wp2_with fail
            go_ret
            exact ⟨ret_int HE.out.symm, rfl⟩
          · go_wp2_with fail
            go_ret
            exact ⟨ret_int HE.out.symm, rfl⟩

end Go.Proofs.YthbnhnnafkkpkaaDoor
