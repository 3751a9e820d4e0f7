import Derived.Test.YtkkjchfhgjfclabGreatDoorSchematells30
import Derived.Test.YtkkjchfhgjfclabGreatDoorSchematells07
import Derived.Test.YtkkjchfhgjfclabGreatDoorSchematells04
import Derived.Test.YtkkjchfhgjfclabGreatDoorSchematells35
import Derived.Test.YtkkjchfhgjfclabGreatDoorSchematells10
/- The reference's CheckName, in the laws' words. -/
namespace Go.Proofs.YtkkjchfhgjfclabGreatDoor
open Go.RowKit

theorem rname_is (l : List UInt8) (w : World) (t : Int) (ht : wrongT (nameT l) = t) :
    Calls Tryz.prog 46 #[.string ⟨l.toArray⟩] w fun e w' => e = .returned (.int .i64 t) ∧ w' = w := by
  have h : nameE (⟨l.toArray⟩ : ByteArray).data.toList = t := by
    rw [← ht]
    simp [wrongT, nameT, nameE]
    rfl
  rw [← h]
  exact checkName_any _ w

end Go.Proofs.YtkkjchfhgjfclabGreatDoor

/- The reference's isTok, isWord. -/
namespace Go.Proofs.YtkkjchfhgjfclabGreatDoor
open Go.RowKit

/-- is a name at the head? -/
def isN : List Tok → Bool
  | t :: _ => decide (t.k = 1)
  | [] => false

theorem isS_at {T : List Tok} {i : Nat} (c : UInt8) (h : i < T.length) : isS c (T.drop i) = (decide (T[i].k = 4) && decide (T[i].s = [c])) := by rw [List.drop_eq_getElem_cons h]; rfl
theorem isS_out {T : List Tok} {i : Nat} (c : UInt8) (h : T.length ≤ i) : isS c (T.drop i) = false := by rw [List.drop_eq_nil_of_le h]; rfl
theorem isN_at {T : List Tok} {i : Nat} (h : i < T.length) : isN (T.drop i) = decide (T[i].k = 1) := by rw [List.drop_eq_getElem_cons h]; rfl
theorem isN_out {T : List Tok} {i : Nat} (h : T.length ≤ i) : isN (T.drop i) = false := by rw [List.drop_eq_nil_of_le h]; rfl

set_option maxRecDepth 20000 in
theorem isTok_is (w : World) (v : Value) (T : List Tok) (h : TokSl w v T) (i : Nat) (c : UInt8) (q : Bool) (hq : isS c (T.drop i) = q) :
    Calls Tryz.prog 45 #[v, .int .i64 i, .string ⟨#[c]⟩] w fun e w' => e = .returned (.bool q) ∧ w' = w := by
  obtain ⟨ao, cap, rfl, _, _⟩ := id h
  by_cases hi : i < T.length
  · rw [isS_at c hi] at hq
    obtain ⟨b, off, rfl, c0, c1, c2⟩ := h.at i hi
    obtain ⟨t, ht⟩ : ∃ t, t = T[i] := ⟨_, rfl⟩
    rw [← ht] at hq c0 c1 c2
    clear ht h
    by_cases hk : t.k = 4
    · have hkb : (t.k == 4) = true := by simp [hk]
      have HQ := hide (show decide (t.s = [c]) = q by rw [← hq, decide_eq_true hk, Bool.true_and])
      clear hq hk
      go_enter Tryz.func45, Tryz.ntmps45
      go_wp2_with fail
      go_ret
      exact ⟨ret_bool (by rw [← HQ.out, Bool.eq_iff_iff]; simp), rfl⟩
    · have hkb : (t.k == 4) = false := by simp [hk]
      have HQ := hide (show false = q by rw [← hq, decide_eq_false hk, Bool.false_and])
      clear hq hk
      go_enter Tryz.func45, Tryz.ntmps45
      go_wp2_with fail
      go_ret
      exact ⟨ret_bool HQ.out, rfl⟩
  · have HQ := hide (show false = q by rw [← hq, isS_out c (by omega)])
    clear hq h
    go_enter Tryz.func45, Tryz.ntmps45
    go_wp2_with fail
    go_ret
    exact ⟨ret_bool HQ.out, rfl⟩

set_option maxRecDepth 20000 in
theorem isWord_is (w : World) (v : Value) (T : List Tok) (h : TokSl w v T) (i : Nat) (q : Bool) (hq : isN (T.drop i) = q) :
    Calls Tryz.prog 44 #[v, .int .i64 i] w fun e w' => e = .returned (.bool q) ∧ w' = w := by
  obtain ⟨ao, cap, rfl, _, _⟩ := id h
  by_cases hi : i < T.length
  · rw [isN_at hi] at hq
    obtain ⟨b, off, rfl, c0, c1, c2⟩ := h.at i hi
    obtain ⟨t, ht⟩ : ∃ t, t = T[i] := ⟨_, rfl⟩
    rw [← ht] at hq c0 c1 c2
    clear ht h
    have HQ := hide hq
    clear hq
    go_enter Tryz.func44, Tryz.ntmps44
    go_wp2_with fail
    go_ret
    exact ⟨ret_bool (by rw [← HQ.out, Bool.eq_iff_iff]; simp), rfl⟩
  · have HQ := hide (show false = q by rw [← hq, isN_out (by omega)])
    clear hq h
    go_enter Tryz.func44, Tryz.ntmps44
    go_wp2_with fail
    go_ret
    exact ⟨ret_bool HQ.out, rfl⟩

end Go.Proofs.YtkkjchfhgjfclabGreatDoor

/- Tokens by places. -/
namespace Go.Proofs.YtkkjchfhgjfclabGreatDoor

theorem isN_lt {T : List Tok} {k : Nat} (h : isN (T.drop k) = true) : k < T.length := by
  by_cases hk : k < T.length
  · exact hk
  · rw [isN_out (by omega)] at h; cases h
theorem isS_lt {T : List Tok} {k : Nat} {c : UInt8} (h : isS c (T.drop k) = true) : k < T.length := by
  by_cases hk : k < T.length
  · exact hk
  · rw [isS_out c (by omega)] at h; cases h

theorem drop_cons {T : List Tok} {k : Nat} (h : k < T.length) : T.drop k = T[k] :: T.drop (k + 1) := List.drop_eq_getElem_cons h

theorem isN_cons {a : Tok} {r : List Tok} : isN (a :: r) = decide (a.k = 1) := rfl
theorem isS_cons {c : UInt8} {a : Tok} {r : List Tok} : isS c (a :: r) = (decide (a.k = 4) && decide (a.s = [c])) := rfl

theorem isS_notN {r : List Tok} {c : UInt8} (h : isS c r = true) : isN r = false := by
  cases r with
  | nil => rfl
  | cons a r =>
    rw [isS_cons] at h
    simp only [Bool.and_eq_true, decide_eq_true_eq] at h
    rw [isN_cons, h.1]
    rfl
end Go.Proofs.YtkkjchfhgjfclabGreatDoor

/- The reference's TokensOf, isTok, isWord: short forms. -/
namespace Go.Proofs.YtkkjchfhgjfclabGreatDoor
open Go.RowKit

theorem tokens_is (w : World) (s : ByteArray) (T : List Tok) (h : lexRead s.data.toList = .ok T) (hT : T.length ≤ 9000000000000) :
    Calls Tryz.prog 43 #[.string s] w fun e w' => ∃ ao cap, e = .returned (.tuple #[.slice ao T.length cap, .int .i64 0]) ∧ TokSl w' (.slice ao T.length cap) T ∧ Same w w' := by
  refine (tokensOf_any w s).mono ?_
  rintro e w' (⟨T', v, h1, rfl, h2, h3⟩ | ⟨n, h1, _, rfl, h3⟩)
  · rw [h] at h1
    cases h1
    obtain ⟨ao, cap, rfl⟩ := own_slice h2
    exact ⟨ao, cap, rfl, own_toks h2 hT, h3⟩
  · rw [h] at h1; cases h1
theorem tokens_no (w : World) (s : ByteArray) (n : Int) (h : lexRead s.data.toList = .error n) :
    Calls Tryz.prog 43 #[.string s] w fun e w' => e = .returned (.tuple #[.slice none 0 0, .int .i64 n]) ∧ Same w w' ∧ n ≠ 0 := by
  refine (tokensOf_any w s).mono ?_
  rintro e w' (⟨T', v, h1, rfl, h2, h3⟩ | ⟨n', h1, h2, rfl, h3⟩)
  · rw [h] at h1; cases h1
  · rw [h] at h1
    cases h1
    exact ⟨rfl, h3, h2⟩

theorem isTok_i (w : World) (v : Value) (T : List Tok) (h : TokSl w v T) (x : Int) (i : Nat) (hx : x = (i : Int)) (c : UInt8) (q : Bool) (hq : isS c (T.drop i) = q) :
    Calls Tryz.prog 45 #[v, .int .i64 x, .string ⟨#[c]⟩] w fun e w' => e = .returned (.bool q) ∧ w' = w := by subst hx; exact isTok_is w v T h i c q hq
theorem isWord_i (w : World) (v : Value) (T : List Tok) (h : TokSl w v T) (x : Int) (i : Nat) (hx : x = (i : Int)) (q : Bool) (hq : isN (T.drop i) = q) :
    Calls Tryz.prog 44 #[v, .int .i64 x] w fun e w' => e = .returned (.bool q) ∧ w' = w := by subst hx; exact isWord_is w v T h i q hq

end Go.Proofs.YtkkjchfhgjfclabGreatDoor

/- The reference's TypeAt, FieldAt. -/
namespace Go.Proofs.YtkkjchfhgjfclabGreatDoor
open Go.RowKit

set_option maxRecDepth 20000 in
set_option maxHeartbeats 1600000 in
theorem typeAt_any (w : World) (v : Value) (l : List TypeT) (nm0 : List UInt8) (P : Nat → Prop) (h : TypSl P w v l) :
    Calls Tryz.prog 47 #[v, .string ⟨nm0.toArray⟩] w fun e w' =>
      ∃ x : Int, e = .returned (.int .i64 x) ∧ x = typeN l nm0 ∧ w' = w := by
  obtain ⟨ao, cap, rfl, ⟨hmax, _⟩, _⟩ := id h
  unfold maxLen at hmax
  go_enter Tryz.func47, Tryz.ntmps47
  go_wp2_with fail
  go_loopg [5] l.length (fun gg i wr => ∃ j : Nat, j + gg = l.length ∧ i = .int .i64 j ∧ wr = w ∧ Hid (∀ k t, k < j → l[k]? = some t → t.name ≠ nm0))
  case atStart => exact ⟨0, by omega, rfl, rfl, fun k t hk => absurd hk (by omega)⟩
  case round =>
    obtain ⟨j, hj, rfl, rfl, HN⟩ := hrel
    by_cases hlt : j < l.length
    · obtain ⟨b, off, af, nf, cf, rfl, c0, c1, hnf, hfs⟩ := h.at j hlt
      clear hnf hfs
      have HG := hide (show l[j]? = some l[j] from List.getElem?_eq_getElem hlt)
      obtain ⟨a, ha⟩ : ∃ a, a = l[j] := ⟨_, rfl⟩
      rw [← ha] at c0 HG
      clear ha
      by_cases hq : a.name = nm0
      · have hqb : (a.name == nm0) = true := by simpa using hq
        have HQ := hide hq
        clear hq
        go_wp2_with fail
        go_ret
        refine ⟨_, rfl, ?_, rfl⟩
        unfold typeN
        rw [if_pos (show hasT l nm0 = true from List.any_eq_true.2 ⟨a, List.mem_of_getElem? HG.out, decide_eq_true HQ.out⟩)]
        congr 1
        unfold typeIx
        refine (List.findIdx_eq hlt |>.2 ⟨?_, fun k hk => ?_⟩).symm
        · have : l[j] = a := by have := HG.out; rw [List.getElem?_eq_getElem hlt] at this; exact Option.some.inj this
          rw [this]; exact decide_eq_true HQ.out
        · exact decide_eq_false (HN.out k _ hk (List.getElem?_eq_getElem (by omega)))
      · have hqb : (a.name == nm0) = false := by simpa using hq
        have HQ := hide hq
        clear hq
        go_wp2_with fail
        go_roundg (gk - 1)
        case measure => omega
        case rel =>
          refine ⟨j + 1, by omega, by go_num, rfl, fun k t hk ht => ?_⟩
          by_cases e : k = j
          · subst e
            rw [HG.out] at ht
            cases ht
            exact HQ.out
          · exact HN.out k t (by omega) ht
    · go_wp2_with fail
      go_ret
      refine ⟨-1, rfl, ?_, rfl⟩
      unfold typeN
      rw [if_neg]
      intro hh
      obtain ⟨t, ht, e⟩ := List.any_eq_true.1 hh
      obtain ⟨k, hk, rfl⟩ := List.getElem_of_mem ht
      exact absurd (of_decide_eq_true e) (HN.out k _ (by omega) (List.getElem?_eq_getElem hk))

/-- the number of a field, or -1 -/
def fieldN (l : List FieldT) (nm : List UInt8) : Int := if hasF l nm then (fieldIx l nm : Int) else -1

set_option maxRecDepth 20000 in
set_option maxHeartbeats 1600000 in
theorem fieldAt_any (w : World) (v : Value) (l : List FieldT) (nm0 : List UInt8) (P : Nat → Prop) (h : FldSl P w v l) :
    Calls Tryz.prog 48 #[v, .string ⟨nm0.toArray⟩] w fun e w' =>
      ∃ x : Int, e = .returned (.int .i64 x) ∧ x = fieldN l nm0 ∧ w' = w := by
  obtain ⟨ao, cap, rfl, ⟨hmax, _⟩, _⟩ := id h
  unfold maxLen at hmax
  go_enter Tryz.func48, Tryz.ntmps48
  go_wp2_with fail
  go_loopg [5] l.length (fun gg i wr => ∃ j : Nat, j + gg = l.length ∧ i = .int .i64 j ∧ wr = w ∧ Hid (∀ k t, k < j → l[k]? = some t → t.name ≠ nm0))
  case atStart => exact ⟨0, by omega, rfl, rfl, fun k t hk => absurd hk (by omega)⟩
  case round =>
    obtain ⟨j, hj, rfl, rfl, HN⟩ := hrel
    by_cases hlt : j < l.length
    · obtain ⟨b, off, rfl, c0, c1, c2⟩ := h.at j hlt
      have HG := hide (show l[j]? = some l[j] from List.getElem?_eq_getElem hlt)
      obtain ⟨a, ha⟩ : ∃ a, a = l[j] := ⟨_, rfl⟩
      rw [← ha] at c0 c1 c2 HG
      clear ha
      by_cases hq : a.name = nm0
      · have hqb : (a.name == nm0) = true := by simpa using hq
        have HQ := hide hq
        clear hq
        go_wp2_with fail
        go_ret
        refine ⟨_, rfl, ?_, rfl⟩
        unfold fieldN
        rw [if_pos (show hasF l nm0 = true from List.any_eq_true.2 ⟨a, List.mem_of_getElem? HG.out, decide_eq_true HQ.out⟩)]
        congr 1
        unfold fieldIx
        refine (List.findIdx_eq hlt |>.2 ⟨?_, fun k hk => ?_⟩).symm
        · have : l[j] = a := by have := HG.out; rw [List.getElem?_eq_getElem hlt] at this; exact Option.some.inj this
          rw [this]; exact decide_eq_true HQ.out
        · exact decide_eq_false (HN.out k _ hk (List.getElem?_eq_getElem (by omega)))
      · have hqb : (a.name == nm0) = false := by simpa using hq
        have HQ := hide hq
        clear hq
        go_wp2_with fail
        go_roundg (gk - 1)
        case measure => omega
        case rel =>
          refine ⟨j + 1, by omega, by go_num, rfl, fun k t hk ht => ?_⟩
          by_cases e : k = j
          · subst e
            rw [HG.out] at ht
            cases ht
            exact HQ.out
          · exact HN.out k t (by omega) ht
    · go_wp2_with fail
      go_ret
      refine ⟨-1, rfl, ?_, rfl⟩
      unfold fieldN
      rw [if_neg]
      intro hh
      obtain ⟨t, ht, e⟩ := List.any_eq_true.1 hh
      obtain ⟨k, hk, rfl⟩ := List.getElem_of_mem ht
      exact absurd (of_decide_eq_true e) (HN.out k _ (by omega) (List.getElem?_eq_getElem hk))

end Go.Proofs.YtkkjchfhgjfclabGreatDoor
