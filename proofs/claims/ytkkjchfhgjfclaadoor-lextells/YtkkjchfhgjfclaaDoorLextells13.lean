import Derived.Test.YtkkjchfhgjfclaaDoorLextells12
import Derived.Test.YtkkjchfhgjfclaaDoorChecked
import Derived.Test.YtkkjchfhgjfclaaDoorLextells01
import Derived.Test.YtkkjchfhgjfclaaDoorLextells05
import Derived.Test.YtkkjchfhgjfclaaDoorLextells07
import Derived.Test.YtkkjchfhgjfclaaDoorLextells08
import Derived.Test.YtkkjchfhgjfclaaDoorLextells03
/- LexBack: the walk. -/
namespace Go.Proofs.YtkkjchfhgjfclaaDoor
open Go.RowKit

theorem print_str (w : World) (v : Value) (l : List Tok) (h : TokSl w v l) (ht : Tab w) (hck : lexCheck l = 0) :
    Calls Tryd.prog 10 #[v] w fun e w' => ∃ b : ByteArray, e = .returned (.tuple #[.string b, .int .i64 0]) ∧ b.data.toList = printF l ∧ Same w w' :=
  (print_ok w v l h ht hck).mono fun e w' ⟨he, hk⟩ => ⟨_, he, by simp, hk⟩

set_option maxRecDepth 20000 in
set_option maxHeartbeats 3200000 in
theorem lexBack_any (w : World) (s : ByteArray) (v : Value) (l : List Tok) (ht : Tab w) (hv : TokSl w v l) :
    Calls Tryd.prog 5 #[.string s, v] w fun e w' => e = .returned (.bool true) ∧ Same w w' := by
  have hll : l.length ≤ 9000000000000 := by
    obtain ⟨_, _, _, h, _⟩ := hv
    exact h
  go_enter Tryd.func5, Tryd.ntmps5
  go_wp2_with fail
  refine (lexBegun_any _ ht).mono ?_
  rintro e w0 ⟨rfl, hK0⟩
  by_cases hck : lexCheck l = 0
  · have HC0 := hide hck
    clear hck
    go_wp2_with fail
    refine (print_str _ v l (hv.same hK0) (tab_keep ht hK0) HC0.out).mono ?_
    rintro e w1 ⟨b1, rfl, hb1, hK1⟩
    have HB1 := hide hb1
    have hz1 := size_toList b1
    rw [hb1] at hz1
    clear hb1
    by_cases hbig : b1.size ≤ 2000
    · have HP1 := hide (lexRead_print HC0.out (by omega))
      clear hz1
      go_wp2_with fail
      refine (read_ok _ b1 l (by rw [HB1.out]; exact HP1.out) hll).mono ?_
      rintro e w2 ⟨v2, rfl, hv2, hK2⟩
      have hs2 := sameTokens_any w2 v2 v l l hv2 (((hv.same hK0).same hK1).same hK2)
      rw [(sameT_iff _ _).2 rfl] at hs2
      have HS2 := hide hs2
      have hK' := tr (tr hK0 hK1) hK2
      clear hs2 hv2 hK0 hK1 hK2
      go_wp2_with fail
      refine HS2.out.mono ?_
      rintro e w3 ⟨rfl, n3, rfl⟩
      have hK := hK'.drewN n3
      clear hK' HS2
      cases h2 : lexRead s.data.toList with
      | error n =>
        have H2 := hide h2
        clear h2
        go_wp2_with fail
        refine (read_bad _ s n H2.out).mono ?_
        rintro e w7 ⟨rfl, hK7, hn⟩
        have hn1 : (n != 0) = true := by simp [hn]
        clear hn
        go_wp2_with fail
        go_ret
        exact ⟨rfl, tr hK hK7⟩
      | ok T =>
        have hT := lexRead_len h2
        have HC := hide (lexRead_right h2)
        have H2 := hide h2
        clear h2
        go_wp2_with fail
        refine (read_ok _ s T H2.out (by omega)).mono ?_
        rintro e w7 ⟨v7, rfl, hv7, hK7⟩
        go_wp2_with fail
        refine (print_str _ v7 T hv7 (tab_keep ht (tr hK hK7)) HC.out).mono ?_
        rintro e w8 ⟨b8, rfl, hb8, hK8⟩
        have HB8 := hide hb8
        have hz8 := size_toList b8
        rw [hb8] at hz8
        clear hb8
        by_cases hbig8 : b8.size ≤ 2000
        · have HP8 := hide (lexRead_print HC.out (by omega))
          clear hz8
          go_wp2_with fail
          refine (read_ok _ b8 T (by rw [HB8.out]; exact HP8.out) (by omega)).mono ?_
          rintro e w9 ⟨v9, rfl, hv9, hK9⟩
          have hs9 := sameTokens_any w9 v9 v7 T T hv9 ((hv7.same hK8).same hK9)
          rw [(sameT_iff _ _).2 rfl] at hs9
          have HS9 := hide hs9
          have hKL := tr (tr (tr hK hK7) hK8) hK9
          clear hs9 hv9 hv7 hK hK7 hK8 hK9
          go_wp2_with fail
          refine HS9.out.mono ?_
          rintro e wa ⟨rfl, na, rfl⟩
          go_wp2_with fail
          go_ret
          exact ⟨rfl, hKL.drewN _⟩
        · clear hz8
          go_wp2_with fail
          go_ret
          exact ⟨rfl, tr (tr hK hK7) hK8⟩
    · have hK := tr hK0 hK1
      clear hz1 hK0 hK1
      cases h2 : lexRead s.data.toList with
      | error n =>
        have H2 := hide h2
        clear h2
        go_wp2_with fail
        refine (read_bad _ s n H2.out).mono ?_
        rintro e w7 ⟨rfl, hK7, hn⟩
        have hn1 : (n != 0) = true := by simp [hn]
        clear hn
        go_wp2_with fail
        go_ret
        exact ⟨rfl, tr hK hK7⟩
      | ok T =>
        have hT := lexRead_len h2
        have HC := hide (lexRead_right h2)
        have H2 := hide h2
        clear h2
        go_wp2_with fail
        refine (read_ok _ s T H2.out (by omega)).mono ?_
        rintro e w7 ⟨v7, rfl, hv7, hK7⟩
        go_wp2_with fail
        refine (print_str _ v7 T hv7 (tab_keep ht (tr hK hK7)) HC.out).mono ?_
        rintro e w8 ⟨b8, rfl, hb8, hK8⟩
        have HB8 := hide hb8
        have hz8 := size_toList b8
        rw [hb8] at hz8
        clear hb8
        by_cases hbig8 : b8.size ≤ 2000
        · have HP8 := hide (lexRead_print HC.out (by omega))
          clear hz8
          go_wp2_with fail
          refine (read_ok _ b8 T (by rw [HB8.out]; exact HP8.out) (by omega)).mono ?_
          rintro e w9 ⟨v9, rfl, hv9, hK9⟩
          have hs9 := sameTokens_any w9 v9 v7 T T hv9 ((hv7.same hK8).same hK9)
          rw [(sameT_iff _ _).2 rfl] at hs9
          have HS9 := hide hs9
          have hKL := tr (tr (tr hK hK7) hK8) hK9
          clear hs9 hv9 hv7 hK hK7 hK8 hK9
          go_wp2_with fail
          refine HS9.out.mono ?_
          rintro e wa ⟨rfl, na, rfl⟩
          go_wp2_with fail
          go_ret
          exact ⟨rfl, hKL.drewN _⟩
        · clear hz8
          go_wp2_with fail
          go_ret
          exact ⟨rfl, tr (tr hK hK7) hK8⟩
  · have HK1 := hide (print_bad w0 v l (hv.same hK0) hck)
    have hno : (lexCheck l == 0) = false := by simp [hck]
    clear hck
    generalize lexCheck l = m0 at HK1 hno
    go_wp2_with fail
    refine HK1.out.mono ?_
    rintro e w1 ⟨rfl, hK1⟩
    have hK := tr hK0 hK1
    clear hK0 hK1 HK1
    cases h2 : lexRead s.data.toList with
    | error n =>
      have H2 := hide h2
      clear h2
      go_wp2_with fail
      refine (read_bad _ s n H2.out).mono ?_
      rintro e w7 ⟨rfl, hK7, hn⟩
      have hn1 : (n != 0) = true := by simp [hn]
      clear hn
      go_wp2_with fail
      go_ret
      exact ⟨rfl, tr hK hK7⟩
    | ok T =>
      have hT := lexRead_len h2
      have HC := hide (lexRead_right h2)
      have H2 := hide h2
      clear h2
      go_wp2_with fail
      refine (read_ok _ s T H2.out (by omega)).mono ?_
      rintro e w7 ⟨v7, rfl, hv7, hK7⟩
      go_wp2_with fail
      refine (print_str _ v7 T hv7 (tab_keep ht (tr hK hK7)) HC.out).mono ?_
      rintro e w8 ⟨b8, rfl, hb8, hK8⟩
      have HB8 := hide hb8
      have hz8 := size_toList b8
      rw [hb8] at hz8
      clear hb8
      by_cases hbig8 : b8.size ≤ 2000
      · have HP8 := hide (lexRead_print HC.out (by omega))
        clear hz8
        go_wp2_with fail
        refine (read_ok _ b8 T (by rw [HB8.out]; exact HP8.out) (by omega)).mono ?_
        rintro e w9 ⟨v9, rfl, hv9, hK9⟩
        have hs9 := sameTokens_any w9 v9 v7 T T hv9 ((hv7.same hK8).same hK9)
        rw [(sameT_iff _ _).2 rfl] at hs9
        have HS9 := hide hs9
        have hKL := tr (tr (tr hK hK7) hK8) hK9
        clear hs9 hv9 hv7 hK hK7 hK8 hK9
        go_wp2_with fail
        refine HS9.out.mono ?_
        rintro e wa ⟨rfl, na, rfl⟩
        go_wp2_with fail
        go_ret
        exact ⟨rfl, hKL.drewN _⟩
      · clear hz8
        go_wp2_with fail
        go_ret
        exact ⟨rfl, tr (tr hK hK7) hK8⟩

end Go.Proofs.YtkkjchfhgjfclaaDoor

/- The reference: between. -/
namespace Go.Proofs.YtkkjchfhgjfclaaDoor
open Go.RowKit

theorem between_any (n a b : Int) (w : World) :
    Calls Tryd.prog 27 #[.int .i64 n, .int .i64 a, .int .i64 b] w fun e w' => e = .returned (.bool (decide (a ≤ n) && decide (n ≤ b))) ∧ w' = w := by
  go_enter Tryd.func27, Tryd.ntmps27
  go_wp2
  all_goals go_ret
  all_goals refine ⟨ret_bool ?_, rfl⟩
  all_goals (rw [Bool.eq_iff_iff]; simp; try omega)

theorem between_is (n a b : Int) (w : World) (t : Bool) (ht : (decide (a ≤ n) && decide (n ≤ b)) = t) :
    Calls Tryd.prog 27 #[.int .i64 n, .int .i64 a, .int .i64 b] w fun e w' => e = .returned (.bool t) ∧ w' = w := by
  subst ht; exact between_any n a b w

end Go.Proofs.YtkkjchfhgjfclaaDoor

/- Walks of the document's own functions, on bytes, names and numbers. -/
namespace Go.Proofs.YtkkjchfhgjfclaaDoor
open Go.RowKit

theorem rDigit_any (c : UInt8) (w : World) :
    Calls Tryd.prog 24 #[.int .u8 c.toNat] w fun e w' => e = .returned (.bool (dig c)) ∧ w' = w := by
  have h1 : (decide ((48 : Int) ≤ (c.toNat : Int)) && decide ((c.toNat : Int) ≤ 57)) = dig c := by rw [Bool.eq_iff_iff]; simp; omega
  have H1 := hide (between_is (c.toNat : Int) 48 57 w _ h1)
  clear h1
  have h256 : (c.toNat : Int) < 256 := by have := c.toNat_lt; omega
  go_enter Tryd.func24, Tryd.ntmps24
  go_wp2_with fail
  refine H1.out.mono ?_
  rintro e w' ⟨rfl, rfl⟩
  go_wp2_with fail
  go_ret
  exact ⟨rfl, rfl⟩

theorem rLetter_any (c : UInt8) (w : World) :
    Calls Tryd.prog 23 #[.int .u8 c.toNat] w fun e w' => e = .returned (.bool (beg c)) ∧ w' = w := by
  obtain ⟨t1, h1⟩ : ∃ t, (decide ((97 : Int) ≤ (c.toNat : Int)) && decide ((c.toNat : Int) ≤ 122)) = t := ⟨_, rfl⟩
  obtain ⟨t2, h2⟩ : ∃ t, (decide ((65 : Int) ≤ (c.toNat : Int)) && decide ((c.toNat : Int) ≤ 90)) = t := ⟨_, rfl⟩
  have key : beg c = (t1 || t2 || ((c.toNat : Int) == 95)) := by rw [← h1, ← h2, Bool.eq_iff_iff]; simp; omega
  have HK := hide key
  have H1 := hide (fun w => between_is (c.toNat : Int) 97 122 w _ h1)
  have H2 := hide (fun w => between_is (c.toNat : Int) 65 90 w _ h2)
  clear h1 h2 key
  have h256 : (c.toNat : Int) < 256 := by have := c.toNat_lt; omega
  cases t1
  · cases t2
    · go_enter Tryd.func23, Tryd.ntmps23
      go_wp2_with fail
      refine (H1.out _).mono ?_
      rintro e w' ⟨rfl, rfl⟩
      go_wp2_with fail
      refine (H2.out _).mono ?_
      rintro e w' ⟨rfl, rfl⟩
      go_wp2_with fail
      go_ret
      exact ⟨ret_bool (by rw [HK.out]; simp), rfl⟩
    · go_enter Tryd.func23, Tryd.ntmps23
      go_wp2_with fail
      refine (H1.out _).mono ?_
      rintro e w' ⟨rfl, rfl⟩
      go_wp2_with fail
      refine (H2.out _).mono ?_
      rintro e w' ⟨rfl, rfl⟩
      go_wp2_with fail
      go_ret
      exact ⟨ret_bool (by rw [HK.out]; simp), rfl⟩
  · go_enter Tryd.func23, Tryd.ntmps23
    go_wp2_with fail
    refine (H1.out _).mono ?_
    rintro e w' ⟨rfl, rfl⟩
    go_wp2_with fail
    go_ret
    exact ⟨ret_bool (by rw [HK.out]; simp), rfl⟩

end Go.Proofs.YtkkjchfhgjfclaaDoor

/- The reference's CheckName. -/
namespace Go.Proofs.YtkkjchfhgjfclaaDoor
open Go.RowKit

theorem nameOk_step (s : ByteArray) (k : Nat) (h : k < s.size) (t : Bool) :
    ((s.data.toList.take (k + 1)).all onn && t) = (((s.data.toList.take k).all onn && t) && onn s[k]) := by
  rw [take_at h, List.all_append]
  simp only [List.all_cons, List.all_nil, Bool.and_true]
  cases (s.data.toList.take k).all onn <;> cases t <;> cases onn s[k] <;> rfl

theorem letter_is (c : UInt8) (w : World) (t : Bool) (ht : beg c = t) :
    Calls Tryd.prog 23 #[.int .u8 c.toNat] w fun e w' => e = .returned (.bool t) ∧ w' = w := by
  rw [← ht]; exact rLetter_any c w
theorem digit_is (c : UInt8) (w : World) (t : Bool) (ht : dig c = t) :
    Calls Tryd.prog 24 #[.int .u8 c.toNat] w fun e w' => e = .returned (.bool t) ∧ w' = w := by
  rw [← ht]; exact rDigit_any c w

def nameE (l : List UInt8) : Int := if 12 < l.length then 2 else if nameOk l then 0 else 1

set_option maxHeartbeats 1600000 in
theorem checkName_any (s : ByteArray) (w : World) :
    Calls Tryd.prog 28 #[.string s] w fun e w' => e = .returned (.int .i64 (nameE s.data.toList)) ∧ w' = w := by
  by_cases hbig : 12 < s.size
  · have HF := hide (show nameE s.data.toList = 2 by unfold nameE; rw [if_pos (by rw [size_toList]; exact hbig)])
    go_enter Tryd.func28, Tryd.ntmps28
    go_wp2_with fail
    go_ret
    exact ⟨ret_int HF.out.symm, rfl⟩
  · have HF := hide (show nameE s.data.toList = if nameOk s.data.toList then 0 else 1 by unfold nameE; rw [if_neg (by rw [size_toList]; exact hbig)])
    by_cases h0 : s.size = 0
    · have he : s.toList.isEmpty = true := by rw [ByteArray.toList_eq, List.isEmpty_iff_length_eq_zero]; simpa using h0
      have HN := hide (show nameE s.data.toList = 1 by
        rw [HF.out, show s.data.toList = [] from List.length_eq_zero_iff.1 (by simpa using h0)]; rfl)
      have hz : s.size ≤ 0 := by omega
      clear h0
      go_enter Tryd.func28, Tryd.ntmps28
      go_wp2_with fail
      go_loopg [3, 4] 1 (fun g ok i wr => wr = w ∧ i = .int .i64 0 ∧ ok = .bool false)
      case atStart => exact ⟨rfl, rfl, rfl⟩
      case round =>
        obtain ⟨rfl, rfl, rfl⟩ := hrel
        go_wp2_with fail
        go_ret
        exact ⟨ret_int HN.out.symm, rfl⟩
    · have he : s.toList.isEmpty = false := by
        cases hx : s.toList.isEmpty with
        | false => rfl
        | true => rw [ByteArray.toList_eq, List.isEmpty_iff_length_eq_zero] at hx; exact absurd (by simpa using hx) h0
      have hp : 0 < s.size := by omega
      obtain ⟨nb, hnb⟩ : ∃ nb, beg s[0] = nb := ⟨_, rfl⟩
      have HB := hide hnb
      have HN := hide (show nameOk s.data.toList = (s.data.toList.all onn && nb) by
        unfold nameOk
        have hd := drop_at hp
        rw [List.drop_zero] at hd
        rw [hd, ← hnb]
        simp)
      clear hnb h0
      go_enter Tryd.func28, Tryd.ntmps28
      go_wp2_with fail
      refine (letter_is s[0] _ nb HB.out).mono ?_
      rintro e w1 ⟨rfl, rfl⟩
      go_wp2_with fail
      go_loopg [3, 4] s.size (fun g ok i wr => wr = w1 ∧ ∃ (k : Nat) (t : Bool), k + g = s.size ∧ i = .int .i64 k ∧ ok = .bool t ∧ Hid (((s.data.toList.take k).all onn && nb) = t))
      case atStart => exact ⟨rfl, 0, nb, by omega, rfl, rfl, by simp [Hid]⟩
      case round =>
        obtain ⟨rfl, k, t, hk, rfl, rfl, HT⟩ := hrel
        by_cases hlt : k < s.size
        · cases t
          · go_wp2_with fail
            go_roundg (gk - 1)
            case measure => omega
            case rel => exact ⟨rfl, k + 1, false, by omega, by go_num, rfl, by rw [Hid, nameOk_step s k hlt, HT.out]; rfl⟩
          · cases hb : beg s[k] with
            | true =>
              have HP := hide hb
              clear hb
              go_wp2_with fail
              refine (letter_is s[k] _ true HP.out).mono ?_
              rintro e w1 ⟨rfl, rfl⟩
              go_wp2_with fail
              go_roundg (gk - 1)
              case measure => omega
              case rel => exact ⟨rfl, k + 1, true, by omega, by go_num, rfl, by rw [Hid, nameOk_step s k hlt, HT.out, onn, HP.out]; rfl⟩
            | false =>
              have HP := hide hb
              clear hb
              obtain ⟨d, hd⟩ : ∃ d, dig s[k] = d := ⟨_, rfl⟩
              have HD := hide hd
              clear hd
              go_wp2_with fail
              refine (letter_is s[k] _ false HP.out).mono ?_
              rintro e w1 ⟨rfl, rfl⟩
              go_wp2_with fail
              refine (digit_is s[k] _ d HD.out).mono ?_
              rintro e w1 ⟨rfl, rfl⟩
              go_wp2_with fail
              go_roundg (gk - 1)
              case measure => omega
              case rel => exact ⟨rfl, k + 1, d, by omega, by go_num, by simp, by rw [Hid, nameOk_step s k hlt, HT.out, onn, HP.out, HD.out]; simp⟩
        · have HE := hide (show nameE s.data.toList = if t then 0 else 1 by
            rw [HF.out, HN.out, ← HT.out, List.take_of_length_le (by rw [size_toList]; omega)])
          cases t
          · go_wp2_with fail
            go_ret
            exact ⟨ret_int HE.out.symm, rfl⟩
          · go_wp2_with fail
            go_ret
            exact ⟨ret_int HE.out.symm, rfl⟩

end Go.Proofs.YtkkjchfhgjfclaaDoor

/- Walks of the document's own functions: isSign, CheckName, Quoted. -/
namespace Go.Proofs.YtkkjchfhgjfclaaDoor
open Go.RowKit

theorem rSign_not (s : ByteArray) (h : s.size ≠ 1) (w : World) :
    Calls Tryd.prog 26 #[.string s] w fun e w' => e = .returned (.bool false) ∧ w' = w := by
  have h1 : ((s.size : Int) == 1) = false := by simp; omega
  clear h
  go_enter Tryd.func26, Tryd.ntmps26
  go_wp2_with fail
  go_ret
  exact ⟨rfl, rfl⟩

theorem sgn_or (c : UInt8) : (c == 123 || c == 125 || c == 40 || c == 41 || c == 58 || c == 91 || c == 93) = sgn c := by
  have h : ∀ n : Fin 256, ((UInt8.ofNat n) == 123 || (UInt8.ofNat n) == 125 || (UInt8.ofNat n) == 40 || (UInt8.ofNat n) == 41 || (UInt8.ofNat n) == 58 || (UInt8.ofNat n) == 91 || (UInt8.ofNat n) == 93) = sgn (UInt8.ofNat n) := by decide +kernel
  have h1 := h ⟨c.toNat, c.toNat_lt⟩
  simpa using h1

theorem rSign_one (c : UInt8) (w : World) :
    Calls Tryd.prog 26 #[.string ⟨#[c]⟩] w fun e w' => e = .returned (.bool (sgn c)) ∧ w' = w := by
  have HS := hide (sgn_or c)
  go_enter Tryd.func26, Tryd.ntmps26
  go_wp2_with fail
  all_goals go_ret
  all_goals refine ⟨ret_bool ?_, rfl⟩
  all_goals (rw [← HS.out]; try simp_all)

/-- a string, if it is one byte -/
def oneSign (l : List UInt8) : Bool := decide (l.length = 1) && sgn (l.head?.getD 0)

theorem rSign_any (s : ByteArray) (w : World) :
    Calls Tryd.prog 26 #[.string s] w fun e w' => e = .returned (.bool (oneSign s.data.toList)) ∧ w' = w := by
  by_cases h : s.size = 1
  · obtain ⟨⟨l⟩⟩ := s
    match l, h with
    | [c], _ => exact rSign_one c w
  · have e : oneSign s.data.toList = false := by
      unfold oneSign
      rw [size_toList]
      simp [h]
    rw [e]
    exact rSign_not s h w

end Go.Proofs.YtkkjchfhgjfclaaDoor

/- Walks of the document's own functions: Quoted, Digits. -/
namespace Go.Proofs.YtkkjchfhgjfclaaDoor
open Go.RowKit

theorem app_bytes (a b : ByteArray) : (a ++ b).data.toList = a.data.toList ++ b.data.toList := by simp

theorem quote_step (s : ByteArray) (k : Nat) (h : k < s.size) : 34 :: (s.data.toList.take (k + 1)).flatMap quoteC = (34 :: (s.data.toList.take k).flatMap quoteC) ++ quoteC s[k] := by rw [take_at h]; simp

theorem extract_one (s : ByteArray) (k : Nat) (h : k < s.size) : (s.extract k (k + 1)).data.toList = [s[k]] := by
  have h1 := drop_at h
  simp only [ByteArray.data_extract, Array.toList_extract, List.extract_eq_take_drop]
  rw [h1, show k + 1 - k = 1 from by omega]
  rfl

set_option maxHeartbeats 1600000 in
theorem rQuoted_any (w : World) (s : ByteArray) (hs : s.size ≤ 2000) :
    Calls Tryd.prog 31 #[.string s] w fun e w' => ∃ b : ByteArray, e = .returned (.string b) ∧ b.data.toList = quoteL s.data.toList ∧ w' = w := by
  go_enter Tryd.func31, Tryd.ntmps31
  go_wp2_with fail
  go_loopg [3, 4] s.size (fun g cur i wr => wr = w ∧ ∃ (k : Nat) (b : ByteArray), k + g = s.size ∧ i = .int .i64 k ∧ cur = .string b ∧ b.size ≤ 2 * k + 1 ∧ Hid (b.data.toList = 34 :: (s.data.toList.take k).flatMap quoteC))
  case atStart => exact ⟨rfl, 0, ⟨#[34]⟩, by omega, rfl, rfl, by decide, by simp [Hid]⟩
  case round =>
    obtain ⟨rfl, k, b, hk, rfl, rfl, hb, HB⟩ := hrel
    by_cases hlt : k < s.size
    · have hq := quote_step s k hlt
      rcases (show s[k].toNat = 34 ∨ s[k].toNat = 92 ∨ s[k].toNat = 10 ∨ (s[k].toNat ≠ 34 ∧ s[k].toNat ≠ 92 ∧ s[k].toNat ≠ 10) from by omega) with h | h | h | h
      · have hc : s[k] = 34 := UInt8.toNat_inj.1 h
        have HQ := hide (show 34 :: (s.data.toList.take (k + 1)).flatMap quoteC = (34 :: (s.data.toList.take k).flatMap quoteC) ++ [92, 34] by rw [hq, hc]; rfl)
        have t1 : ((s[k].toNat : Int) == 34) = true := by simp; omega
        clear hq h hc
        go_wp2_with fail
        go_roundg (gk - 1)
        case measure => omega
        case rel => exact ⟨rfl, k + 1, b ++ ⟨#[92, 34]⟩, by omega, by go_num, rfl, by rw [ByteArray.size_append]; have : (⟨#[92, 34]⟩ : ByteArray).size = 2 := rfl; omega, by rw [Hid, app_bytes, HB.out, HQ.out]⟩
      · have hc : s[k] = 92 := UInt8.toNat_inj.1 h
        have HQ := hide (show 34 :: (s.data.toList.take (k + 1)).flatMap quoteC = (34 :: (s.data.toList.take k).flatMap quoteC) ++ [92, 92] by rw [hq, hc]; rfl)
        have t1 : ((s[k].toNat : Int) == 34) = false := by simp; omega
        have t2 : ((s[k].toNat : Int) == 92) = true := by simp; omega
        clear hq h hc
        go_wp2_with fail
        go_roundg (gk - 1)
        case measure => omega
        case rel => exact ⟨rfl, k + 1, b ++ ⟨#[92, 92]⟩, by omega, by go_num, rfl, by rw [ByteArray.size_append]; have : (⟨#[92, 92]⟩ : ByteArray).size = 2 := rfl; omega, by rw [Hid, app_bytes, HB.out, HQ.out]⟩
      · have hc : s[k] = 10 := UInt8.toNat_inj.1 h
        have HQ := hide (show 34 :: (s.data.toList.take (k + 1)).flatMap quoteC = (34 :: (s.data.toList.take k).flatMap quoteC) ++ [92, 110] by rw [hq, hc]; rfl)
        have t1 : ((s[k].toNat : Int) == 34) = false := by simp; omega
        have t2 : ((s[k].toNat : Int) == 92) = false := by simp; omega
        have t3 : ((s[k].toNat : Int) == 10) = true := by simp; omega
        clear hq h hc
        go_wp2_with fail
        go_roundg (gk - 1)
        case measure => omega
        case rel => exact ⟨rfl, k + 1, b ++ ⟨#[92, 110]⟩, by omega, by go_num, rfl, by rw [ByteArray.size_append]; have : (⟨#[92, 110]⟩ : ByteArray).size = 2 := rfl; omega, by rw [Hid, app_bytes, HB.out, HQ.out]⟩
      · have HQ := hide (show 34 :: (s.data.toList.take (k + 1)).flatMap quoteC = (34 :: (s.data.toList.take k).flatMap quoteC) ++ [s[k]] by rw [hq, quoteC, if_neg (by omega), if_neg (by omega)])
        have t1 : ((s[k].toNat : Int) == 34) = false := by simp; omega
        have t2 : ((s[k].toNat : Int) == 92) = false := by simp; omega
        have t3 : ((s[k].toNat : Int) == 10) = false := by simp; omega
        have HX := hide (extract_one s k hlt)
        have hxs : (s.extract k (k + 1)).size = 1 := by rw [← size_toList, HX.out]; rfl
        clear hq h
        go_wp2_with fail
        go_roundg (gk - 1)
        case measure => omega
        case rel => exact ⟨rfl, k + 1, b ++ s.extract k (k + 1), by omega, by go_num, rfl, by rw [ByteArray.size_append]; omega, by rw [Hid, app_bytes, HB.out, HQ.out, HX.out]⟩
    · go_wp2_with fail
      go_ret
      exact ⟨_, rfl, by rw [app_bytes, HB.out, List.take_of_length_le (by rw [size_toList]; omega)]; rfl, rfl⟩

end Go.Proofs.YtkkjchfhgjfclaaDoor
