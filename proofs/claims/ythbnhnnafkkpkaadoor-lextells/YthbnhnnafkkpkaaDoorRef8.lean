/- How far a text has been read, in plain Lean: for the document's own reader. -/
import Derived.Test.YthbnhnnafkkpkaaDoorLexP
namespace Go.Proofs.YthbnhnnafkkpkaaDoor

/-- T is read, k is next -/
def tRel (s : ByteArray) (k : Nat) (T : List Tok) : Prop :=
  lexRead s.data.toList = (readF (s.size + 1) (s.data.toList.drop k) T.length).map (T ++ ·)

theorem list_size (s : ByteArray) : s.data.toList.length = s.size := by simp

theorem tRel.start (s : ByteArray) (hs : s.size ≤ 2000) : tRel s 0 [] := by
  unfold tRel lexRead
  rw [if_neg (by rw [list_size]; omega), list_size]
  simp only [List.drop_zero, List.length_nil]
  cases readF (s.size + 1) s.data.toList 0 <;> simp [Except.map]

theorem tRel.move {s : ByteArray} {k n : Nat} {T : List Tok} (h : tRel s k T) (hk : k + n ≤ s.size) (hsk : skipN false (s.data.toList.drop k) = n + skipN false (s.data.toList.drop (k + n))) : tRel s (k + n) T := by
  unfold tRel at *
  rw [h]
  have e : s.data.toList.drop k = (s.data.toList.drop k).take n ++ s.data.toList.drop (k + n) := by
    rw [← List.drop_drop, List.take_append_drop]
  have hl : ((s.data.toList.drop k).take n).length = n := by rw [List.length_take, List.length_drop, list_size]; omega
  have e2 := readF_ahead (f := s.size) (p := (s.data.toList.drop k).take n) (l := s.data.toList.drop (k + n)) (m := T.length) (by rw [← e, hl]; exact hsk)
  rw [← e] at e2
  rw [e2]

theorem tRel.blank {s : ByteArray} {k : Nat} {T : List Tok} (h : tRel s k T) (hk : k < s.size) (hc : wh s[k] = true) : tRel s (k + 1) T := by
  refine h.move (by omega) ?_
  rw [drop_at hk, skipN, if_pos hc]; omega

theorem tRel.hash {s : ByteArray} {k : Nat} {T : List Tok} (h : tRel s k T) (hk : k < s.size) (hc : s[k].toNat = 35) : tRel s (k + run nn s k) T := by
  refine h.move (run_le nn s k (by omega)) ?_
  have := skip_hash s[k] (s.data.toList.drop (k + 1)) hc
  rw [← drop_at hk, List.drop_drop] at this
  exact this

theorem tRel.at {s : ByteArray} {k : Nat} {T : List Tok} (h : tRel s k T) (hk : k < s.size) (h1 : wh s[k] = false) (h2 : s[k].toNat ≠ 35) :
    lexRead s.data.toList = (match tokL (s.data.toList.drop k) with
      | .error e => .error e
      | .ok (t, n) => if wrongT t ≠ 0 then .error (wrongT t) else if T.length = 300 then .error 2 else (readF s.size (s.data.toList.drop (k + n)) (T.length + 1)).map (t :: ·) : Except Int (List Tok)).map (T ++ ·) := by
  unfold tRel at h
  rw [h, readF, drop_at hk, skip_stop _ _ h1 h2, List.drop_zero]
  simp only
  rw [← drop_at hk]
  cases ht : tokL (s.data.toList.drop k) with
  | error e => rfl
  | ok y =>
    obtain ⟨t, n⟩ := y
    simp only
    rw [List.drop_drop]

theorem tRel.bad {s : ByteArray} {k : Nat} {T : List Tok} (h : tRel s k T) (hk : k < s.size) (h1 : wh s[k] = false) (h2 : s[k].toNat ≠ 35) (ht : tokL (s.data.toList.drop k) = .error 1) : lexRead s.data.toList = .error 1 := by
  rw [h.at hk h1 h2, ht]; rfl
theorem tRel.wrong {s : ByteArray} {k : Nat} {T : List Tok} {t : Tok} {n : Nat} (h : tRel s k T) (hk : k < s.size) (h1 : wh s[k] = false) (h2 : s[k].toNat ≠ 35) (ht : tokL (s.data.toList.drop k) = .ok (t, n)) (hw : wrongT t ≠ 0) :
    lexRead s.data.toList = .error (wrongT t) := by
  rw [h.at hk h1 h2, ht]
  simp only
  rw [if_pos hw]; rfl
theorem tRel.full {s : ByteArray} {k : Nat} {T : List Tok} {t : Tok} {n : Nat} (h : tRel s k T) (hk : k < s.size) (h1 : wh s[k] = false) (h2 : s[k].toNat ≠ 35) (ht : tokL (s.data.toList.drop k) = .ok (t, n)) (hw : wrongT t = 0) (hT : 300 ≤ T.length) (hT2 : T.length ≤ 300) :
    lexRead s.data.toList = .error 2 := by
  rw [h.at hk h1 h2, ht]
  simp only
  rw [if_neg (by simp [hw]), if_pos (by omega)]; rfl
theorem tRel.step {s : ByteArray} {k : Nat} {T : List Tok} {t : Tok} {n : Nat} (h : tRel s k T) (hk : k < s.size) (h1 : wh s[k] = false) (h2 : s[k].toNat ≠ 35) (ht : tokL (s.data.toList.drop k) = .ok (t, n)) (hw : wrongT t = 0) (hT : T.length < 300) :
    tRel s (k + n) (T ++ [t]) := by
  have hp := tok_pos ht
  have he := h.at hk h1 h2
  rw [ht] at he
  simp only at he
  rw [if_neg (by simp [hw]), if_neg (by omega)] at he
  unfold tRel
  rw [he, List.length_append]
  have hl : (s.data.toList.drop (k + n)).length < s.size := by rw [List.length_drop, list_size]; omega
  rw [readF_any (g := s.size + 1) hl (by omega)]
  simp only [List.length_cons, List.length_nil, Nat.zero_add]
  cases readF (s.size + 1) (s.data.toList.drop (k + n)) (T.length + 1) <;> simp [Except.map]
theorem tRel.ended {s : ByteArray} {k : Nat} {T : List Tok} (h : tRel s k T) (hk : s.size ≤ k) : lexRead s.data.toList = .ok T := by
  unfold tRel at h
  rw [h, drop_end hk]
  simp [readF, skipN, Except.map]

end Go.Proofs.YthbnhnnafkkpkaaDoor
