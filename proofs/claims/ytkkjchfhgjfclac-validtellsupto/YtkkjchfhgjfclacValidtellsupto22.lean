import Derived.Test.YtkkjchfhgjfclacValidtellsupto21
import Derived.Test.YtkkjchfhgjfclacValidtellsupto09
import Derived.Test.YtkkjchfhgjfclacValidtellsupto08
import Derived.Test.YtkkjchfhgjfclacValidtellsupto04
import Derived.Test.YtkkjchfhgjfclacValidtellsupto10
/- The reference's CheckName. -/
namespace Go.Proofs.Ytkkjchfhgjfclac
open Go.RowKit

theorem nameOk_step (s : ByteArray) (k : Nat) (h : k < s.size) (t : Bool) :
    ((s.data.toList.take (k + 1)).all onn && t) = (((s.data.toList.take k).all onn && t) && onn s[k]) := by
  rw [take_at h, List.all_append]
  simp only [List.all_cons, List.all_nil, Bool.and_true]
  cases (s.data.toList.take k).all onn <;> cases t <;> cases onn s[k] <;> rfl

theorem letter_is (c : UInt8) (w : World) (t : Bool) (ht : beg c = t) :
    Calls Try.prog 88 #[.int .u8 c.toNat] w fun e w' => e = .returned (.bool t) ∧ w' = w := by
  rw [← ht]; exact rLetter_any c w
theorem digit_is (c : UInt8) (w : World) (t : Bool) (ht : dig c = t) :
    Calls Try.prog 89 #[.int .u8 c.toNat] w fun e w' => e = .returned (.bool t) ∧ w' = w := by
  rw [← ht]; exact rDigit_any c w

def nameE (l : List UInt8) : Int := if 12 < l.length then 2 else if nameOk l then 0 else 1

set_option maxHeartbeats 1600000 in
theorem checkName_any (s : ByteArray) (w : World) :
    Calls Try.prog 52 #[.string s] w fun e w' => e = .returned (.int .i64 (nameE s.data.toList)) ∧ w' = w := by
  by_cases hbig : 12 < s.size
  · have HF := hide (show nameE s.data.toList = 2 by unfold nameE; rw [if_pos (by rw [size_toList]; exact hbig)])
    go_enter Try.func52, Try.ntmps52
    go_wp2_with fail
    go_ret
    exact ⟨ret_int HF.out.symm, rfl⟩
  · have HF := hide (show nameE s.data.toList = if nameOk s.data.toList then 0 else 1 by unfold nameE; rw [if_neg (by rw [size_toList]; exact hbig)])
    by_cases h0 : s.size = 0
    · have he : s.toList.isEmpty = true := by rw [ByteArray.toList_eq, List.isEmpty_iff_length_eq_zero]; simpa using h0
      have HN := hide (show nameE s.data.toList = 1 by
        rw [HF.out, show s.data.toList = [] from List.length_eq_zero_iff.1 (by simpa using h0)]; rfl)
      have hz : s.size ≤ 0 := by omega
      clear h0
      go_enter Try.func52, Try.ntmps52
      go_wp2_with fail
      go_loopg [3, 4] 1 (fun g ok i wr => wr = w ∧ i = .int .i64 0 ∧ ok = .bool false)
      case atStart => exact ⟨rfl, rfl, rfl⟩
      case round =>
        obtain ⟨rfl, rfl, rfl⟩ := hrel
        go_wp2_with fail
        go_ret
        exact ⟨ret_int HN.out.symm, rfl⟩
    · have he : s.toList.isEmpty = false := by
        cases hx : s.toList.isEmpty with
        | false => rfl
        | true => rw [ByteArray.toList_eq, List.isEmpty_iff_length_eq_zero] at hx; exact absurd (by simpa using hx) h0
      have hp : 0 < s.size := by omega
      obtain ⟨nb, hnb⟩ : ∃ nb, beg s[0] = nb := ⟨_, rfl⟩
      have HB := hide hnb
      have HN := hide (show nameOk s.data.toList = (s.data.toList.all onn && nb) by
        unfold nameOk
        have hd := drop_at hp
        rw [List.drop_zero] at hd
        rw [hd, ← hnb]
        simp)
      clear hnb h0
      go_enter Try.func52, Try.ntmps52
      go_wp2_with fail
      refine (letter_is s[0] _ nb HB.out).mono ?_
      rintro e w1 ⟨rfl, rfl⟩
      go_wp2_with fail
      go_loopg [3, 4] s.size (fun g ok i wr => wr = w1 ∧ ∃ (k : Nat) (t : Bool), k + g = s.size ∧ i = .int .i64 k ∧ ok = .bool t ∧ Hid (((s.data.toList.take k).all onn && nb) = t))
      case atStart => exact ⟨rfl, 0, nb, by omega, rfl, rfl, by simp [Hid]⟩
      case round =>
        obtain ⟨rfl, k, t, hk, rfl, rfl, HT⟩ := hrel
        by_cases hlt : k < s.size
        · cases t
          · go_wp2_with fail
            go_roundg (gk - 1)
            case measure => omega
            case rel => exact ⟨rfl, k + 1, false, by omega, by go_num, rfl, by rw [Hid, nameOk_step s k hlt, HT.out]; rfl⟩
          · cases hb : beg s[k] with
            | true =>
              have HP := hide hb
              clear hb
              go_wp2_with fail
              refine (letter_is s[k] _ true HP.out).mono ?_
              rintro e w1 ⟨rfl, rfl⟩
              go_wp2_with fail
              go_roundg (gk - 1)
              case measure => omega
              case rel => exact ⟨rfl, k + 1, true, by omega, by go_num, rfl, by rw [Hid, nameOk_step s k hlt, HT.out, onn, HP.out]; rfl⟩
            | false =>
              have HP := hide hb
              clear hb
              obtain ⟨d, hd⟩ : ∃ d, dig s[k] = d := ⟨_, rfl⟩
              have HD := hide hd
              clear hd
              go_wp2_with fail
              refine (letter_is s[k] _ false HP.out).mono ?_
              rintro e w1 ⟨rfl, rfl⟩
              go_wp2_with fail
              refine (digit_is s[k] _ d HD.out).mono ?_
              rintro e w1 ⟨rfl, rfl⟩
              go_wp2_with fail
              go_roundg (gk - 1)
              case measure => omega
              case rel => exact ⟨rfl, k + 1, d, by omega, by go_num, by simp, by rw [Hid, nameOk_step s k hlt, HT.out, onn, HP.out, HD.out]; simp⟩
        · have HE := hide (show nameE s.data.toList = if t then 0 else 1 by
            rw [HF.out, HN.out, ← HT.out, List.take_of_length_le (by rw [size_toList]; omega)])
          cases t
          · go_wp2_with fail
            go_ret
            exact ⟨ret_int HE.out.symm, rfl⟩
          · go_wp2_with fail
            go_ret
            exact ⟨ret_int HE.out.symm, rfl⟩

end Go.Proofs.Ytkkjchfhgjfclac

/- The reference's CheckName, in the laws' words. -/
namespace Go.Proofs.Ytkkjchfhgjfclac
open Go.RowKit

theorem rname_is (l : List UInt8) (w : World) (t : Int) (ht : wrongT (nameT l) = t) :
    Calls Try.prog 52 #[.string ⟨l.toArray⟩] w fun e w' => e = .returned (.int .i64 t) ∧ w' = w := by
  have h : nameE (⟨l.toArray⟩ : ByteArray).data.toList = t := by
    rw [← ht]
    simp [wrongT, nameT, nameE]
    rfl
  rw [← h]
  exact checkName_any _ w

end Go.Proofs.Ytkkjchfhgjfclac

/- The reference's TypeAt, FieldAt. -/
namespace Go.Proofs.Ytkkjchfhgjfclac
open Go.RowKit

set_option maxRecDepth 20000 in
set_option maxHeartbeats 1600000 in
theorem typeAt_any (w : World) (v : Value) (l : List TypeT) (nm0 : List UInt8) (P : Nat → Prop) (h : TypSl P w v l) :
    Calls Try.prog 53 #[v, .string ⟨nm0.toArray⟩] w fun e w' =>
      ∃ x : Int, e = .returned (.int .i64 x) ∧ x = typeN l nm0 ∧ w' = w := by
  obtain ⟨ao, cap, rfl, ⟨hmax, _⟩, _⟩ := id h
  unfold maxLen at hmax
  go_enter Try.func53, Try.ntmps53
  go_wp2_with fail
  go_loopg [5] l.length (fun gg i wr => ∃ j : Nat, j + gg = l.length ∧ i = .int .i64 j ∧ wr = w ∧ Hid (∀ k t, k < j → l[k]? = some t → t.name ≠ nm0))
  case atStart => exact ⟨0, by omega, rfl, rfl, fun k t hk => absurd hk (by omega)⟩
  case round =>
    obtain ⟨j, hj, rfl, rfl, HN⟩ := hrel
    by_cases hlt : j < l.length
    · obtain ⟨b, off, af, nf, cf, rfl, c0, c1, hnf, hfs⟩ := h.at j hlt
      clear hnf hfs
      have HG := hide (show l[j]? = some l[j] from List.getElem?_eq_getElem hlt)
      obtain ⟨a, ha⟩ : ∃ a, a = l[j] := ⟨_, rfl⟩
      rw [← ha] at c0 HG
      clear ha
      by_cases hq : a.name = nm0
      · have hqb : (a.name == nm0) = true := by simpa using hq
        have HQ := hide hq
        clear hq
        go_wp2_with fail
        go_ret
        refine ⟨_, rfl, ?_, rfl⟩
        unfold typeN
        rw [if_pos (show hasT l nm0 = true from List.any_eq_true.2 ⟨a, List.mem_of_getElem? HG.out, decide_eq_true HQ.out⟩)]
        congr 1
        unfold typeIx
        refine (List.findIdx_eq hlt |>.2 ⟨?_, fun k hk => ?_⟩).symm
        · have : l[j] = a := by have := HG.out; rw [List.getElem?_eq_getElem hlt] at this; exact Option.some.inj this
          rw [this]; exact decide_eq_true HQ.out
        · exact decide_eq_false (HN.out k _ hk (List.getElem?_eq_getElem (by omega)))
      · have hqb : (a.name == nm0) = false := by simpa using hq
        have HQ := hide hq
        clear hq
        go_wp2_with fail
        go_roundg (gk - 1)
        case measure => omega
        case rel =>
          refine ⟨j + 1, by omega, by go_num, rfl, fun k t hk ht => ?_⟩
          by_cases e : k = j
          · subst e
            rw [HG.out] at ht
            cases ht
            exact HQ.out
          · exact HN.out k t (by omega) ht
    · go_wp2_with fail
      go_ret
      refine ⟨-1, rfl, ?_, rfl⟩
      unfold typeN
      rw [if_neg]
      intro hh
      obtain ⟨t, ht, e⟩ := List.any_eq_true.1 hh
      obtain ⟨k, hk, rfl⟩ := List.getElem_of_mem ht
      exact absurd (of_decide_eq_true e) (HN.out k _ (by omega) (List.getElem?_eq_getElem hk))

/-- the number of a field, or -1 -/
def fieldN (l : List FieldT) (nm : List UInt8) : Int := if hasF l nm then (fieldIx l nm : Int) else -1

set_option maxRecDepth 20000 in
set_option maxHeartbeats 1600000 in
theorem fieldAt_any (w : World) (v : Value) (l : List FieldT) (nm0 : List UInt8) (P : Nat → Prop) (h : FldSl P w v l) :
    Calls Try.prog 54 #[v, .string ⟨nm0.toArray⟩] w fun e w' =>
      ∃ x : Int, e = .returned (.int .i64 x) ∧ x = fieldN l nm0 ∧ w' = w := by
  obtain ⟨ao, cap, rfl, ⟨hmax, _⟩, _⟩ := id h
  unfold maxLen at hmax
  go_enter Try.func54, Try.ntmps54
  go_wp2_with fail
  go_loopg [5] l.length (fun gg i wr => ∃ j : Nat, j + gg = l.length ∧ i = .int .i64 j ∧ wr = w ∧ Hid (∀ k t, k < j → l[k]? = some t → t.name ≠ nm0))
  case atStart => exact ⟨0, by omega, rfl, rfl, fun k t hk => absurd hk (by omega)⟩
  case round =>
    obtain ⟨j, hj, rfl, rfl, HN⟩ := hrel
    by_cases hlt : j < l.length
    · obtain ⟨b, off, rfl, c0, c1, c2⟩ := h.at j hlt
      have HG := hide (show l[j]? = some l[j] from List.getElem?_eq_getElem hlt)
      obtain ⟨a, ha⟩ : ∃ a, a = l[j] := ⟨_, rfl⟩
      rw [← ha] at c0 c1 c2 HG
      clear ha
      by_cases hq : a.name = nm0
      · have hqb : (a.name == nm0) = true := by simpa using hq
        have HQ := hide hq
        clear hq
        go_wp2_with fail
        go_ret
        refine ⟨_, rfl, ?_, rfl⟩
        unfold fieldN
        rw [if_pos (show hasF l nm0 = true from List.any_eq_true.2 ⟨a, List.mem_of_getElem? HG.out, decide_eq_true HQ.out⟩)]
        congr 1
        unfold fieldIx
        refine (List.findIdx_eq hlt |>.2 ⟨?_, fun k hk => ?_⟩).symm
        · have : l[j] = a := by have := HG.out; rw [List.getElem?_eq_getElem hlt] at this; exact Option.some.inj this
          rw [this]; exact decide_eq_true HQ.out
        · exact decide_eq_false (HN.out k _ hk (List.getElem?_eq_getElem (by omega)))
      · have hqb : (a.name == nm0) = false := by simpa using hq
        have HQ := hide hq
        clear hq
        go_wp2_with fail
        go_roundg (gk - 1)
        case measure => omega
        case rel =>
          refine ⟨j + 1, by omega, by go_num, rfl, fun k t hk ht => ?_⟩
          by_cases e : k = j
          · subst e
            rw [HG.out] at ht
            cases ht
            exact HQ.out
          · exact HN.out k t (by omega) ht
    · go_wp2_with fail
      go_ret
      refine ⟨-1, rfl, ?_, rfl⟩
      unfold fieldN
      rw [if_neg]
      intro hh
      obtain ⟨t, ht, e⟩ := List.any_eq_true.1 hh
      obtain ⟨k, hk, rfl⟩ := List.getElem_of_mem ht
      exact absurd (of_decide_eq_true e) (HN.out k _ (by omega) (List.getElem?_eq_getElem hk))

end Go.Proofs.Ytkkjchfhgjfclac
