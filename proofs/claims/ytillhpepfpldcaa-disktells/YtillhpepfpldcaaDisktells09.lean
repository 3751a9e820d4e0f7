import Derived.Test.YtillhpepfpldcaaDisktells08
import Derived.Lib.Atoi
import Derived.Test.YtillhpepfpldcaaDisktells03
import Derived.Test.YtillhpepfpldcaaChecked
import Derived.Test.YtillhpepfpldcaaDisktells01
import Derived.Test.YtillhpepfpldcaaDisktells02
/- Lists of bytes: what the readers' loops need. No program is named here. -/
namespace Go.Proofs.Ytillhpepfpldcaa

abbrev nn (c : UInt8) : Bool := decide (c.toNat ≠ 10)
abbrev plain (c : UInt8) : Bool := decide (c.toNat ≠ 34) && decide (c.toNat ≠ 92) && decide (c.toNat ≠ 10)

theorem skip_white (l : List UInt8) : skipN false l = (l.takeWhile wh).length + skipN false (l.drop (l.takeWhile wh).length) := by
  induction l with
  | nil => simp [skipN]
  | cons c r ih =>
    by_cases h : wh c = true
    · rw [List.takeWhile_cons, if_pos h, skipN, if_pos h, ih]; simp; omega
    · rw [List.takeWhile_cons, if_neg h]; simp

theorem skip_note (l : List UInt8) : skipN true l = (l.takeWhile nn).length + skipN false (l.drop (l.takeWhile nn).length) := by
  induction l with
  | nil => simp [skipN]
  | cons c r ih =>
    by_cases h : c.toNat = 10
    · rw [List.takeWhile_cons, if_neg (by simp [nn, h]), skipN, if_pos h]
      simp only [List.length_nil, List.drop_zero, Nat.zero_add]
      rw [skipN, if_pos (by simp [wh, h])]
    · rw [List.takeWhile_cons, if_pos (by simp [nn, h]), skipN, if_neg h, ih]; simp; omega

theorem skip_hash (c : UInt8) (r : List UInt8) (h : c.toNat = 35) : skipN false (c :: r) = ((c :: r).takeWhile nn).length + skipN false ((c :: r).drop ((c :: r).takeWhile nn).length) := by
  rw [List.takeWhile_cons, if_pos (by simp [nn, h]), skipN, if_neg (by simp [wh, h]), if_pos h, skip_note]; simp; omega

theorem skip_stop (c : UInt8) (r : List UInt8) (h1 : wh c = false) (h2 : c.toNat ≠ 35) : skipN false (c :: r) = 0 := by
  rw [skipN, if_neg (by simp [h1]), if_neg h2]

theorem skip_le (b : Bool) (l : List UInt8) : skipN b l ≤ l.length := by
  induction l generalizing b with
  | nil => cases b <;> simp [skipN]
  | cons c r ih => cases b <;> rw [skipN] <;> have h1 := ih true <;> have h2 := ih false <;> (split <;> simp <;> (try split) <;> omega)

theorem stop_at (p : UInt8 → Bool) (l : List UInt8) (c : UInt8) (r : List UInt8) (h : l.drop (l.takeWhile p).length = c :: r) : p c = false := by
  induction l with
  | nil => simp at h
  | cons d l ih =>
    by_cases hd : p d = true
    · rw [List.takeWhile_cons, if_pos hd] at h
      exact ih (by simpa using h)
    · rw [List.takeWhile_cons, if_neg hd] at h
      simp at h
      rw [← h.1]; simpa using hd

/-- so many bytes from place k on are passed -/
def run (p : UInt8 → Bool) (s : ByteArray) (k : Nat) : Nat := ((s.data.toList.drop k).takeWhile p).length

theorem drop_at {s : ByteArray} {k : Nat} (h : k < s.size) : s.data.toList.drop k = s[k] :: s.data.toList.drop (k + 1) := by
  have hk : k < s.data.toList.length := by simpa using h
  rw [List.drop_eq_getElem_cons hk]; rfl
theorem drop_end {s : ByteArray} {k : Nat} (h : s.size ≤ k) : s.data.toList.drop k = [] := List.drop_eq_nil_of_le (by simpa using h)

theorem run_step {p : UInt8 → Bool} {s : ByteArray} {k : Nat} (h : k < s.size) (hp : p s[k] = true) : run p s k = run p s (k + 1) + 1 := by
  unfold run
  rw [drop_at h, List.takeWhile_cons, if_pos hp]
  simp
theorem run_stop {p : UInt8 → Bool} {s : ByteArray} {k : Nat} (h : k < s.size) (hp : p s[k] = false) : run p s k = 0 := by
  unfold run
  rw [drop_at h, List.takeWhile_cons, if_neg (by simp [hp])]
  simp
theorem run_end {p : UInt8 → Bool} {s : ByteArray} {k : Nat} (h : s.size ≤ k) : run p s k = 0 := by
  unfold run
  rw [drop_end h]
  simp
theorem run_le (p : UInt8 → Bool) (s : ByteArray) (k : Nat) (hk : k ≤ s.size) : k + run p s k ≤ s.size := by
  unfold run
  have h1 := List.IsPrefix.length_le (List.takeWhile_prefix p (l := s.data.toList.drop k))
  simp at h1
  have : s.data.size = s.size := rfl
  omega
theorem run_at {p : UInt8 → Bool} {s : ByteArray} {k : Nat} (h : k + run p s k < s.size) : p s[k + run p s k] = false := by
  by_cases hk : k < s.size
  · have h2 : (s.data.toList.drop k).drop (run p s k) = s[k + run p s k] :: s.data.toList.drop (k + run p s k + 1) := by rw [List.drop_drop]; exact drop_at h
    exact stop_at p _ _ _ h2
  · omega

/-- the place behind all that is nothing -/
def blank (s : ByteArray) (k : Nat) : Nat := k + skipN false (s.data.toList.drop k)
theorem blank_le {s : ByteArray} {k : Nat} (h : k ≤ s.size) : blank s k ≤ s.size := by
  unfold blank
  have := skip_le false (s.data.toList.drop k)
  simp at this
  have : s.data.size = s.size := rfl
  omega
theorem blank_white (s : ByteArray) (k : Nat) : blank s k = blank s (k + run wh s k) := by
  unfold blank run
  conv => lhs; rw [skip_white]
  rw [List.drop_drop]; omega
theorem blank_hash {s : ByteArray} {k : Nat} (h : k < s.size) (hc : s[k].toNat = 35) : blank s k = blank s (k + run nn s k) := by
  unfold blank run
  have e := skip_hash s[k] (s.data.toList.drop (k + 1)) hc
  rw [← drop_at h] at e
  conv => lhs; rw [e]
  rw [List.drop_drop]; omega
theorem blank_stop {s : ByteArray} {k : Nat} (h : k < s.size) (h1 : wh s[k] = false) (h2 : s[k].toNat ≠ 35) : blank s k = k := by
  unfold blank
  rw [drop_at h, skip_stop _ _ h1 h2]; rfl
theorem blank_end {s : ByteArray} {k : Nat} (h : s.size ≤ k) : blank s k = k := by
  unfold blank
  rw [drop_end h]; rfl


theorem extract_run (p : UInt8 → Bool) (s : ByteArray) (k : Nat) : s.extract k (k + run p s k) = ⟨((s.data.toList.drop k).takeWhile p).toArray⟩ := by
  apply ByteArray.ext
  apply Array.ext'
  show (s.extract k (k + run p s k)).data.toList = (s.data.toList.drop k).takeWhile p
  rw [ByteArray.data_extract, Array.toList_extract, List.extract_eq_take_drop]
  simp only [Nat.add_sub_cancel_left]
  unfold run
  exact (List.prefix_iff_eq_take.1 (List.takeWhile_prefix p)).symm

theorem digitVal_of {c : UInt8} (h : dig c = true) : Lib.digitVal c = some (c.toNat - 48) := by
  simp at h
  unfold Lib.digitVal
  rw [if_pos h]

theorem decFrom_of (l : List UInt8) (h : l.all dig = true) : ∀ acc : Nat, ∃ n : Nat, Lib.decFrom acc l = some n ∧ (n : Int) = l.foldl (fun a c => 10 * a + ((c.toNat : Int) - 48)) (acc : Int) := by
  induction l with
  | nil => intro acc; exact ⟨acc, rfl, rfl⟩
  | cons c r ih =>
    intro acc
    simp only [List.all_cons, Bool.and_eq_true] at h
    obtain ⟨n, h1, h2⟩ := ih h.2 (acc * 10 + (c.toNat - 48))
    refine ⟨n, ?_, ?_⟩
    · rw [Lib.decFrom, digitVal_of (by simpa using h.1)]; exact h1
    · rw [h2, List.foldl_cons]
      congr 1
      have := h.1
      simp at this
      omega

theorem atoi_of (l : List UInt8) (h : l.all dig = true) (h0 : l ≠ []) : Lib.atoi l = some (valD l) := by
  cases l with
  | nil => exact absurd rfl h0
  | cons c r =>
    obtain ⟨n, h1, h2⟩ := decFrom_of (c :: r) h 0
    have hc : dig c = true := by simp only [List.all_cons, Bool.and_eq_true] at h; simpa using h.1
    simp at hc
    have e1 : (c == 45) = false := by simp; intro e; subst e; simp at hc
    have e2 : (c == 43) = false := by simp; intro e; subst e; simp at hc
    show (if (c == 45) = true then _ else if (c == 43) = true then _ else _) = _
    rw [e1, e2]
    simp only [Bool.false_eq_true, if_false]
    unfold Lib.decNat
    simp only [List.isEmpty_cons, Bool.false_eq_true, if_false, h1, Option.map_some]
    exact congrArg some h2

end Go.Proofs.Ytillhpepfpldcaa

/- The reference: numberAt. -/
namespace Go.Proofs.Ytillhpepfpldcaa
open Go.RowKit

set_option maxHeartbeats 1600000 in
theorem numberAt_any (w : World) (s : ByteArray) (at' k : Nat) (hs : s.size ≤ 140737488355328) (hat : at' ≤ 1000000000000) (hk1 : 1 ≤ k) (hk4 : k ≤ 4) :
    Calls Try.prog 40 #[.string s, .int .i64 at', .int .i64 k] w fun r w' => w' = w ∧
      ((∃ n r', numF k 0 (s.data.toList.drop at') = some (n, r') ∧ r = .returned (.tuple #[.int .i64 (n : Nat), .bool true])) ∨ (numF k 0 (s.data.toList.drop at') = none ∧ r = .returned (.tuple #[.int .i64 0, .bool false]))) := by
  have hsl : s.data.toList.length = s.size := by rw [Array.length_toList]; rfl
  by_cases hlt : (s.size : Int) - (at' : Int) < (k : Int)
  · have HN := hide (show numF k 0 (s.data.toList.drop at') = none by rw [numF_none, List.length_drop, hsl]; omega)
    clear hsl
    go_enter Try.func40, Try.ntmps40
    go_wp2_with fail
    go_ret2
    exact ⟨rfl, .inr ⟨HN.out, rfl⟩⟩
  · clear hsl
    go_enter Try.func40, Try.ntmps40
    go_wp2_with fail
    go_loopg [8, 9] k (fun g nv iv wr => ∃ i n : Nat, i + g = k ∧ iv = .int .i64 i ∧ nv = .int .i64 n ∧ n < 256 ^ i ∧ wr = w ∧ Hid (numF k 0 (s.data.toList.drop at') = numF g n (s.data.toList.drop (at' + i))))
    case atStart => exact ⟨0, 0, by omega, rfl, rfl, by simp, rfl, hide rfl⟩
    case round =>
      obtain ⟨i, n, hi, rfl, rfl, hn, hw, HN⟩ := hrel
      subst hw
      have hn4 : n < 4294967296 := Nat.lt_of_lt_of_le hn (Nat.pow_le_pow_right (n := 256) (by omega) (show i ≤ 4 by omega))
      by_cases hik : i < k
      · obtain ⟨g, hg⟩ : ∃ g, gk = g + 1 := ⟨gk - 1, by omega⟩
        subst hg
        have hb : at' + i < s.size := by omega
        have hc := s[at' + i].toNat_lt
        have HN2 := hide (show numF k 0 (s.data.toList.drop at') = numF g (n * 256 + s[at' + i].toNat) (s.data.toList.drop (at' + (i + 1))) by rw [HN.out, drop_at hb, numF]; rfl)
        have hn2 : n * 256 + s[at' + i].toNat < 256 ^ (i + 1) := by rw [Nat.pow_succ]; omega
        go_wp2_with fail
        go_roundg g
        case measure => omega
        case rel => exact ⟨i + 1, n * 256 + s[at' + i].toNat, by omega, by go_num, by congr 1; omega, hn2, rfl, HN2⟩
      · obtain rfl : gk = 0 := by omega
        go_wp2_with fail
        go_ret2
        exact ⟨rfl, .inl ⟨n, _, HN.out, rfl⟩⟩

end Go.Proofs.Ytillhpepfpldcaa

/- The head of an event, read as one number of four bytes. No program is named here. -/
namespace Go.Proofs.Ytillhpepfpldcaa

theorem len4 : ∀ {l : List UInt8}, 4 ≤ l.length → ∃ a b c d r, l = a :: b :: c :: d :: r
  | a :: b :: c :: d :: r, _ => ⟨a, b, c, d, r, rfl⟩
theorem numF_drop : ∀ {k a n : Nat} {l r : List UInt8}, numF k a l = some (n, r) → r = l.drop k ∧ k ≤ l.length
  | 0, a, n, l, r, h => by simp only [numF, Option.some.injEq, Prod.mk.injEq] at h; obtain ⟨_, rfl⟩ := h; exact ⟨rfl, Nat.zero_le _⟩
  | k + 1, a, n, [], r, h => by simp [numF] at h
  | k + 1, a, n, c :: l, r, h => by
    rw [numF] at h
    obtain ⟨h1, h2⟩ := numF_drop h
    exact ⟨by rw [h1]; rfl, by simp; omega⟩
theorem numF_lt {k n : Nat} {l r : List UInt8} (h : numF k 0 l = some (n, r)) : n < 256 ^ k := (numF_inv0 h).1

theorem readE_short {l : List UInt8} (h : numF 4 0 l = none) : readE l = none := by
  have hl := numF_none.1 h
  unfold readE
  cases h1 : numF 1 0 l with
  | none => rfl
  | some x =>
    obtain ⟨k, l1⟩ := x
    obtain ⟨e1, _⟩ := numF_drop h1
    simp only
    split
    · rfl
    · cases h2 : numF 1 0 l1 with
      | none => rfl
      | some y =>
        obtain ⟨ty, l2⟩ := y
        obtain ⟨e2, _⟩ := numF_drop h2
        simp only
        have : numF 2 0 l2 = none := numF_none.2 (by rw [e2, e1, List.length_drop, List.length_drop]; omega)
        rw [this]

theorem readE_head {l r : List UInt8} {h : Nat} (h4 : numF 4 0 l = some (h, r)) : h < 4294967296 ∧
    readE l = if evKind ((h / 16777216 : Nat) : Int) = false then none else readTail (h / 16777216) (h / 65536 % 256) (h % 65536) r := by
  obtain ⟨_, hl⟩ := numF_drop h4
  obtain ⟨a, b, c, d, r', rfl⟩ := len4 hl
  simp only [numF, Option.some.injEq, Prod.mk.injEq] at h4
  obtain ⟨hh, rfl⟩ := h4
  have ha := a.toNat_lt
  have hb := b.toNat_lt
  have hc := c.toNat_lt
  have hd := d.toNat_lt
  have e1 : h / 16777216 = a.toNat := by omega
  have e2 : h / 65536 % 256 = b.toNat := by omega
  have e3 : h % 65536 = c.toNat * 256 + d.toNat := by omega
  refine ⟨by omega, ?_⟩
  rw [e1, e2, e3]
  unfold readE
  simp only [numF, Nat.zero_mul, Nat.zero_add]

end Go.Proofs.Ytillhpepfpldcaa

/- parts.IsIndex, parts.IsId. -/
namespace Go.Proofs.Ytillhpepfpldcaa
open Go.RowKit

def isIxI (i m : Int) : Bool := decide (0 ≤ i) && decide (i < m)
theorem isIx_I (i : Int) (n : Nat) : isIx i n = isIxI i n := rfl

theorem pIsIndex (i m : Int) (w : World) :
    Calls Try.prog 76 #[.int .i64 i, .int .i64 m] w fun e w' => e = .returned (.bool (isIxI i m)) ∧ w' = w := by
  go_enter Try.func76, Try.ntmps76
  go_wp2
  all_goals go_ret
  all_goals refine ⟨ret_bool ?_, rfl⟩
  all_goals (unfold isIxI; rw [Bool.eq_iff_iff]; simp; try omega)

theorem pIsId (i : Int) (w : World) :
    Calls Try.prog 77 #[.int .i64 i] w fun e w' => e = .returned (.bool (isIdT i)) ∧ w' = w := by
  go_enter Try.func77, Try.ntmps77
  go_wp2
  all_goals go_ret
  all_goals refine ⟨ret_bool ?_, rfl⟩
  all_goals (unfold isIdT; rw [Bool.eq_iff_iff]; simp; try omega)

end Go.Proofs.Ytillhpepfpldcaa

/- parts.IsInt. -/
namespace Go.Proofs.Ytillhpepfpldcaa
open Go.RowKit

def pIntB (n : Int) : Bool := decide (-999999999 ≤ n) && decide (n ≤ 999999999)

theorem pIsInt (n : Int) (w : World) :
    Calls Try.prog 78 #[.int .i64 n] w fun e w' => e = .returned (.bool (pIntB n)) ∧ w' = w := by
  go_enter Try.func78, Try.ntmps78
  go_wp2
  all_goals go_ret
  all_goals refine ⟨ret_bool ?_, rfl⟩
  all_goals (unfold pIntB; rw [Bool.eq_iff_iff]; simp; try omega)

theorem pIntB_yes {n : Int} (h1 : -999999999 ≤ n) (h2 : n ≤ 999999999) : pIntB n = true := by unfold pIntB; simp [h1, h2]
theorem pIntB_no {n : Int} (h : n < -999999999 ∨ 999999999 < n) : pIntB n = false := by unfold pIntB; simp; omega

end Go.Proofs.Ytillhpepfpldcaa

/- batch.wrong, batch.Check. -/
namespace Go.Proofs.Ytillhpepfpldcaa
open Go.RowKit

theorem pIntB_eq (n : Int) : pIntB n = (decide (-999999999 ≤ n) && decide (n ≤ 999999999)) := rfl

set_option maxHeartbeats 800000 in
theorem inRange_any (e : EventT) (w : World) :
    Calls Try.prog 61 #[evV e] w fun r w' => r = .returned (.bool (rangeE e)) ∧ Same w w' := by
  obtain ⟨k, ty, i, f, n, t⟩ := e
  go_enter Try.func61, Try.ntmps61
  go_wp2_with (first
    | (go_at_call 76; refine (pIsIndex _ _ _).mono ?_; rintro e w' ⟨rfl, rfl⟩)
    | (go_at_call 77; refine (pIsId _ _).mono ?_; rintro e w' ⟨rfl, rfl⟩)
    | (go_at_call 78; refine (pIsInt _ _).mono ?_; rintro e w' ⟨rfl, rfl⟩))
  all_goals go_ret
  all_goals refine ⟨ret_bool ?_, (by repeat' (first | assumption | exact Kept.refl _ _ | refine Kept.drewN ?_ _ | refine Kept.drew ?_ | refine Kept.alloc ?_ _ | refine Kept.setB ?_ _ _))⟩
  all_goals (unfold rangeE; rw [← pIntB_eq, isIx_I, isIx_I]; simp_all)

set_option maxHeartbeats 800000 in
theorem wrong_ev (e : EventT) (w : World) :
    Calls Try.prog 44 #[evV e] w fun r w' => r = .returned (.int .i64 (wrongE e)) ∧ Same w w' := by
  have HS := hide (fun wx => pShape e wx)
  have HR := hide (fun wx => inRange_any e wx)
  by_cases h0 : shapeE e = 0
  · have h0' : (shapeE e != 0) = false := by simp [h0]
    cases hr : rangeE e with
    | false =>
      have HF := hide (show wrongE e = 3 by unfold wrongE; rw [if_neg (by simp [h0]), if_pos hr])
      have HRf := hide hr
      clear h0 hr
      obtain ⟨k, ty, i, f, n, t⟩ := e
      go_enter Try.func44, Try.ntmps44
      go_wp2_with fail
      refine (HS.out _).mono ?_
      rintro r w1 ⟨rfl, hK1⟩
      have hg := new_kept (w := w) hK1 (fun f => f)
      obtain ⟨z0, z1, z2, z3, z4, z5, _⟩ := cells6 hg
      go_wp2_with fail
      refine (HR.out _).mono ?_
      rintro r w2 ⟨rfl, hK2⟩
      rw [HRf.out]
      go_wp2_with fail
      go_ret
      exact ⟨ret_int HF.out.symm, (hK1.trans hK2 (fun _ _ f => f)).unA⟩
    | true =>
      have HRf := hide hr
      by_cases hl : 40 < e.text.length
      · have HF := hide (show wrongE e = 2 by unfold wrongE; rw [if_neg (by simp [h0]), if_neg (by simp [hr]), if_pos hl])
        clear h0 hr
        obtain ⟨k, ty, i, f, n, t⟩ := e
        simp only at hl
        have hl' : ¬ (⟨t.toArray⟩ : ByteArray).size ≤ 40 := by show ¬ t.toArray.size ≤ 40; rw [List.size_toArray]; omega
        go_enter Try.func44, Try.ntmps44
        go_wp2_with fail
        refine (HS.out _).mono ?_
        rintro r w1 ⟨rfl, hK1⟩
        have hg := new_kept (w := w) hK1 (fun f => f)
        obtain ⟨z0, z1, z2, z3, z4, z5, _⟩ := cells6 hg
        go_wp2_with fail
        refine (HR.out _).mono ?_
        rintro r w2 ⟨rfl, hK2⟩
        rw [HRf.out]
        have hg2 := new_kept (w := w) (hK1.trans hK2 (fun _ _ f => f)) (fun f => f)
        obtain ⟨y0, y1, y2, y3, y4, y5, _⟩ := cells6 hg2
        go_wp2_with fail
        go_ret
        exact ⟨ret_int HF.out.symm, (hK1.trans hK2 (fun _ _ f => f)).unA⟩
      · have HF := hide (show wrongE e = 0 by unfold wrongE; rw [if_neg (by simp [h0]), if_neg (by simp [hr]), if_neg hl])
        clear h0 hr
        obtain ⟨k, ty, i, f, n, t⟩ := e
        simp only at hl
        have hl' : (⟨t.toArray⟩ : ByteArray).size ≤ 40 := by show t.toArray.size ≤ 40; rw [List.size_toArray]; omega
        go_enter Try.func44, Try.ntmps44
        go_wp2_with fail
        refine (HS.out _).mono ?_
        rintro r w1 ⟨rfl, hK1⟩
        have hg := new_kept (w := w) hK1 (fun f => f)
        obtain ⟨z0, z1, z2, z3, z4, z5, _⟩ := cells6 hg
        go_wp2_with fail
        refine (HR.out _).mono ?_
        rintro r w2 ⟨rfl, hK2⟩
        rw [HRf.out]
        have hg2 := new_kept (w := w) (hK1.trans hK2 (fun _ _ f => f)) (fun f => f)
        obtain ⟨y0, y1, y2, y3, y4, y5, _⟩ := cells6 hg2
        go_wp2_with fail
        go_ret
        exact ⟨ret_int HF.out.symm, (hK1.trans hK2 (fun _ _ f => f)).unA⟩
  · have h0' : (shapeE e != 0) = true := by simp [h0]
    have HF := hide (show wrongE e = shapeE e by unfold wrongE; rw [if_pos h0])
    clear h0
    obtain ⟨k, ty, i, f, n, t⟩ := e
    go_enter Try.func44, Try.ntmps44
    go_wp2_with fail
    refine (HS.out _).mono ?_
    rintro r w1 ⟨rfl, hK1⟩
    go_wp2_with fail
    go_ret
    exact ⟨ret_int HF.out.symm, hK1.unA⟩

def badE (e : EventT) : Bool := decide (wrongE e ≠ 0)

theorem check1_ev (e : EventT) (w : World) :
    Calls Try.prog 43 #[evV e] w fun r w' => r = .returned (.bool (badE e)) ∧ Same w w' := by
  have HW := hide (fun wx => wrong_ev e wx)
  have HB := hide (show (wrongE e != 0) = badE e by unfold badE; rw [Bool.eq_iff_iff]; simp)
  obtain ⟨k, ty, i, f, n, t⟩ := e
  go_enter Try.func43, Try.ntmps43
  go_wp2_with fail
  refine (HW.out _).mono ?_
  rintro r w1 ⟨rfl, hK1⟩
  go_wp2_with fail
  go_ret
  exact ⟨ret_bool HB.out, hK1.unA⟩

theorem enters_c1 (args : Array Value) (w : World) : (callFunc 43 args).run Try.prog w = .ok (.enter 43 args) w := by kernel_rfl

theorem wrongEs_first (l : List EventT) : wrongEs l = if l.any badE then wrongE (firstE badE l) else 0 := by
  induction l with
  | nil => rfl
  | cons e r ih =>
    rw [wrongEs]
    by_cases h : wrongE e = 0
    · have hb : badE e = false := by unfold badE; simp [h]
      rw [if_neg (by simp [h]), ih]
      simp only [List.any_cons, hb, Bool.false_or, firstE, List.find?_cons]
    · have hb : badE e = true := by unfold badE; simp [h]
      rw [if_pos h]
      simp only [List.any_cons, hb, Bool.true_or, if_true, firstE, List.find?_cons, Option.getD_some]

set_option maxHeartbeats 1600000 in
theorem checkBa_any (P : Nat → Prop) (b : BatchT) (v : Value) (w : World) (h : EvSl P w v b.events) :
    Calls Try.prog 14 #[baV b.number v] w fun r w' => r = .returned (.int .i64 (checkBa b)) ∧ Same w w' := by
  obtain ⟨num, l⟩ := b
  simp only at h ⊢
  have HFi := hide (fun wx hK => firstE_any 43 badE enters_c1 check1_ev P wx v l (h.same hK))
  obtain ⟨ao, cap, rfl⟩ := h.form
  obtain ⟨_, hl, hcap⟩ := h.len
  clear h
  by_cases h1 : num < 1 ∨ 65535 < num
  · have HF := hide (show checkBa ⟨num, l⟩ = 3 by unfold checkBa; rw [if_pos h1])
    rcases Decidable.em (num < 1) with h2 | h2
    · clear h1
      go_enter Try.func14, Try.ntmps14
      go_wp2_with fail
      go_ret
      exact ⟨ret_int HF.out.symm, (by repeat' (first | assumption | exact Kept.refl _ _ | refine Kept.drewN ?_ _ | refine Kept.drew ?_ | refine Kept.alloc ?_ _ | refine Kept.setB ?_ _ _))⟩
    · have h3 : 65535 < num := by omega
      have h2' : ¬ num ≤ 65535 := by omega
      clear h1
      go_enter Try.func14, Try.ntmps14
      go_wp2_with fail
      go_ret
      exact ⟨ret_int HF.out.symm, (by repeat' (first | assumption | exact Kept.refl _ _ | refine Kept.drewN ?_ _ | refine Kept.drew ?_ | refine Kept.alloc ?_ _ | refine Kept.setB ?_ _ _))⟩
  · have h2 : ¬ num < 1 := by omega
    have h3 : num ≤ 65535 := by omega
    by_cases h4 : l.length = 0
    · have HF := hide (show checkBa ⟨num, l⟩ = 1 by unfold checkBa; rw [if_neg h1, if_pos h4])
      have h4' : ((l.length : Int) == 0) = true := by simp; exact List.length_eq_zero_iff.1 h4
      clear h1 h4
      go_enter Try.func14, Try.ntmps14
      go_wp2_with fail
      go_ret
      exact ⟨ret_int HF.out.symm, (by repeat' (first | assumption | exact Kept.refl _ _ | refine Kept.drewN ?_ _ | refine Kept.drew ?_ | refine Kept.alloc ?_ _ | refine Kept.setB ?_ _ _))⟩
    · have h4' : ((l.length : Int) == 0) = false := by rw [beq_eq_false_iff_ne]; omega
      by_cases h5 : 8 < l.length
      · have HF := hide (show checkBa ⟨num, l⟩ = 2 by unfold checkBa; rw [if_neg h1, if_neg h4, if_pos h5])
        clear h1 h4
        go_enter Try.func14, Try.ntmps14
        go_wp2_with fail
        go_ret
        exact ⟨ret_int HF.out.symm, (by repeat' (first | assumption | exact Kept.refl _ _ | refine Kept.drewN ?_ _ | refine Kept.drew ?_ | refine Kept.alloc ?_ _ | refine Kept.setB ?_ _ _))⟩
      · have hF : checkBa ⟨num, l⟩ = wrongEs l := by unfold checkBa; rw [if_neg h1, if_neg h4, if_neg h5]
        rw [wrongEs_first] at hF
        clear h1 h4
        cases hb : l.any badE with
        | false =>
          rw [hb] at hF
          have HF := hide hF
          have HB := hide hb
          clear hF hb
          obtain ⟨x0, x1, x2, x3, x4, x5⟩ := firstE badE l
          go_enter Try.func14, Try.ntmps14
          go_wp2_with fail
          refine (HFi.out _ (by repeat' (first | assumption | exact Kept.refl _ _ | refine Kept.drewN ?_ _ | refine Kept.drew ?_ | refine Kept.alloc ?_ _ | refine Kept.setB ?_ _ _))).mono ?_
          rintro r w1 ⟨rfl, hK1⟩
          rw [HB.out]
          go_wp2_with fail
          go_ret
          exact ⟨ret_int HF.out.symm, hK1.unA.alloc _⟩
        | true =>
          rw [hb] at hF
          have HF := hide hF
          have HB := hide hb
          have HW := hide (fun wx => wrong_ev (firstE badE l) wx)
          clear hF hb
          generalize firstE badE l = x at *
          obtain ⟨x0, x1, x2, x3, x4, x5⟩ := x
          go_enter Try.func14, Try.ntmps14
          go_wp2_with fail
          refine (HFi.out _ (by repeat' (first | assumption | exact Kept.refl _ _ | refine Kept.drewN ?_ _ | refine Kept.drew ?_ | refine Kept.alloc ?_ _ | refine Kept.setB ?_ _ _))).mono ?_
          rintro r w1 ⟨rfl, hK1⟩
          rw [HB.out]
          go_wp2_with fail
          refine (HW.out _).mono ?_
          rintro r w2 ⟨rfl, hK2⟩
          go_wp2_with fail
          go_ret
          exact ⟨ret_int HF.out.symm, (hK1.unA.alloc _).trans hK2 (fun _ _ f => f)⟩

end Go.Proofs.Ytillhpepfpldcaa
