import Derived.Test.YtkkjchfhgjfclaaDoorLexback03
import Derived.Lib.Atoi
import Derived.Test.YtkkjchfhgjfclaaDoorLexback01
import Derived.Test.YtkkjchfhgjfclaaDoorChecked
/- Lists of bytes: what the readers' loops need. No program is named here. -/
namespace Go.Proofs.YtkkjchfhgjfclaaDoor

abbrev nn (c : UInt8) : Bool := decide (c.toNat ≠ 10)
abbrev plain (c : UInt8) : Bool := decide (c.toNat ≠ 34) && decide (c.toNat ≠ 92) && decide (c.toNat ≠ 10)

theorem skip_white (l : List UInt8) : skipN false l = (l.takeWhile wh).length + skipN false (l.drop (l.takeWhile wh).length) := by
  induction l with
  | nil => simp [skipN]
  | cons c r ih =>
    by_cases h : wh c = true
    · rw [List.takeWhile_cons, if_pos h, skipN, if_pos h, ih]; simp; omega
    · rw [List.takeWhile_cons, if_neg h]; simp

theorem skip_note (l : List UInt8) : skipN true l = (l.takeWhile nn).length + skipN false (l.drop (l.takeWhile nn).length) := by
  induction l with
  | nil => simp [skipN]
  | cons c r ih =>
    by_cases h : c.toNat = 10
    · rw [List.takeWhile_cons, if_neg (by simp [nn, h]), skipN, if_pos h]
      simp only [List.length_nil, List.drop_zero, Nat.zero_add]
      rw [skipN, if_pos (by simp [wh, h])]
    · rw [List.takeWhile_cons, if_pos (by simp [nn, h]), skipN, if_neg h, ih]; simp; omega

theorem skip_hash (c : UInt8) (r : List UInt8) (h : c.toNat = 35) : skipN false (c :: r) = ((c :: r).takeWhile nn).length + skipN false ((c :: r).drop ((c :: r).takeWhile nn).length) := by
  rw [List.takeWhile_cons, if_pos (by simp [nn, h]), skipN, if_neg (by simp [wh, h]), if_pos h, skip_note]; simp; omega

theorem skip_stop (c : UInt8) (r : List UInt8) (h1 : wh c = false) (h2 : c.toNat ≠ 35) : skipN false (c :: r) = 0 := by
  rw [skipN, if_neg (by simp [h1]), if_neg h2]

theorem skip_le (b : Bool) (l : List UInt8) : skipN b l ≤ l.length := by
  induction l generalizing b with
  | nil => cases b <;> simp [skipN]
  | cons c r ih => cases b <;> rw [skipN] <;> have h1 := ih true <;> have h2 := ih false <;> (split <;> simp <;> (try split) <;> omega)

theorem stop_at (p : UInt8 → Bool) (l : List UInt8) (c : UInt8) (r : List UInt8) (h : l.drop (l.takeWhile p).length = c :: r) : p c = false := by
  induction l with
  | nil => simp at h
  | cons d l ih =>
    by_cases hd : p d = true
    · rw [List.takeWhile_cons, if_pos hd] at h
      exact ih (by simpa using h)
    · rw [List.takeWhile_cons, if_neg hd] at h
      simp at h
      rw [← h.1]; simpa using hd

/-- so many bytes from place k on are passed -/
def run (p : UInt8 → Bool) (s : ByteArray) (k : Nat) : Nat := ((s.data.toList.drop k).takeWhile p).length

theorem drop_at {s : ByteArray} {k : Nat} (h : k < s.size) : s.data.toList.drop k = s[k] :: s.data.toList.drop (k + 1) := by
  have hk : k < s.data.toList.length := by simpa using h
  rw [List.drop_eq_getElem_cons hk]; rfl
theorem drop_end {s : ByteArray} {k : Nat} (h : s.size ≤ k) : s.data.toList.drop k = [] := List.drop_eq_nil_of_le (by simpa using h)

theorem run_step {p : UInt8 → Bool} {s : ByteArray} {k : Nat} (h : k < s.size) (hp : p s[k] = true) : run p s k = run p s (k + 1) + 1 := by
  unfold run
  rw [drop_at h, List.takeWhile_cons, if_pos hp]
  simp
theorem run_stop {p : UInt8 → Bool} {s : ByteArray} {k : Nat} (h : k < s.size) (hp : p s[k] = false) : run p s k = 0 := by
  unfold run
  rw [drop_at h, List.takeWhile_cons, if_neg (by simp [hp])]
  simp
theorem run_end {p : UInt8 → Bool} {s : ByteArray} {k : Nat} (h : s.size ≤ k) : run p s k = 0 := by
  unfold run
  rw [drop_end h]
  simp
theorem run_le (p : UInt8 → Bool) (s : ByteArray) (k : Nat) (hk : k ≤ s.size) : k + run p s k ≤ s.size := by
  unfold run
  have h1 := List.IsPrefix.length_le (List.takeWhile_prefix p (l := s.data.toList.drop k))
  simp at h1
  have : s.data.size = s.size := rfl
  omega
theorem run_at {p : UInt8 → Bool} {s : ByteArray} {k : Nat} (h : k + run p s k < s.size) : p s[k + run p s k] = false := by
  by_cases hk : k < s.size
  · have h2 : (s.data.toList.drop k).drop (run p s k) = s[k + run p s k] :: s.data.toList.drop (k + run p s k + 1) := by rw [List.drop_drop]; exact drop_at h
    exact stop_at p _ _ _ h2
  · omega

/-- the place behind all that is nothing -/
def blank (s : ByteArray) (k : Nat) : Nat := k + skipN false (s.data.toList.drop k)
theorem blank_le {s : ByteArray} {k : Nat} (h : k ≤ s.size) : blank s k ≤ s.size := by
  unfold blank
  have := skip_le false (s.data.toList.drop k)
  simp at this
  have : s.data.size = s.size := rfl
  omega
theorem blank_white (s : ByteArray) (k : Nat) : blank s k = blank s (k + run wh s k) := by
  unfold blank run
  conv => lhs; rw [skip_white]
  rw [List.drop_drop]; omega
theorem blank_hash {s : ByteArray} {k : Nat} (h : k < s.size) (hc : s[k].toNat = 35) : blank s k = blank s (k + run nn s k) := by
  unfold blank run
  have e := skip_hash s[k] (s.data.toList.drop (k + 1)) hc
  rw [← drop_at h] at e
  conv => lhs; rw [e]
  rw [List.drop_drop]; omega
theorem blank_stop {s : ByteArray} {k : Nat} (h : k < s.size) (h1 : wh s[k] = false) (h2 : s[k].toNat ≠ 35) : blank s k = k := by
  unfold blank
  rw [drop_at h, skip_stop _ _ h1 h2]; rfl
theorem blank_end {s : ByteArray} {k : Nat} (h : s.size ≤ k) : blank s k = k := by
  unfold blank
  rw [drop_end h]; rfl


theorem extract_run (p : UInt8 → Bool) (s : ByteArray) (k : Nat) : s.extract k (k + run p s k) = ⟨((s.data.toList.drop k).takeWhile p).toArray⟩ := by
  apply ByteArray.ext
  apply Array.ext'
  show (s.extract k (k + run p s k)).data.toList = (s.data.toList.drop k).takeWhile p
  rw [ByteArray.data_extract, Array.toList_extract, List.extract_eq_take_drop]
  simp only [Nat.add_sub_cancel_left]
  unfold run
  exact (List.prefix_iff_eq_take.1 (List.takeWhile_prefix p)).symm

theorem digitVal_of {c : UInt8} (h : dig c = true) : Lib.digitVal c = some (c.toNat - 48) := by
  simp at h
  unfold Lib.digitVal
  rw [if_pos h]

theorem decFrom_of (l : List UInt8) (h : l.all dig = true) : ∀ acc : Nat, ∃ n : Nat, Lib.decFrom acc l = some n ∧ (n : Int) = l.foldl (fun a c => 10 * a + ((c.toNat : Int) - 48)) (acc : Int) := by
  induction l with
  | nil => intro acc; exact ⟨acc, rfl, rfl⟩
  | cons c r ih =>
    intro acc
    simp only [List.all_cons, Bool.and_eq_true] at h
    obtain ⟨n, h1, h2⟩ := ih h.2 (acc * 10 + (c.toNat - 48))
    refine ⟨n, ?_, ?_⟩
    · rw [Lib.decFrom, digitVal_of (by simpa using h.1)]; exact h1
    · rw [h2, List.foldl_cons]
      congr 1
      have := h.1
      simp at this
      omega

theorem atoi_of (l : List UInt8) (h : l.all dig = true) (h0 : l ≠ []) : Lib.atoi l = some (valD l) := by
  cases l with
  | nil => exact absurd rfl h0
  | cons c r =>
    obtain ⟨n, h1, h2⟩ := decFrom_of (c :: r) h 0
    have hc : dig c = true := by simp only [List.all_cons, Bool.and_eq_true] at h; simpa using h.1
    simp at hc
    have e1 : (c == 45) = false := by simp; intro e; subst e; simp at hc
    have e2 : (c == 43) = false := by simp; intro e; subst e; simp at hc
    show (if (c == 45) = true then _ else if (c == 43) = true then _ else _) = _
    rw [e1, e2]
    simp only [Bool.false_eq_true, if_false]
    unfold Lib.decNat
    simp only [List.isEmpty_cons, Bool.false_eq_true, if_false, h1, Option.map_some]
    exact congrArg some h2

end Go.Proofs.YtkkjchfhgjfclaaDoor

/- parse.Text: Pass. -/
namespace Go.Proofs.YtkkjchfhgjfclaaDoor
open Go.RowKit

theorem drop_takeWhile (p : UInt8 → Bool) (l : List UInt8) : l.drop (l.takeWhile p).length = l.dropWhile p := by
  induction l with
  | nil => rfl
  | cons c r ih =>
    by_cases h : p c = true
    · rw [List.takeWhile_cons, if_pos h, List.dropWhile_cons, if_pos h]; simpa using ih
    · rw [List.takeWhile_cons, if_neg h, List.dropWhile_cons, if_neg h]; rfl

theorem pass_text {s : ByteArray} {l : List UInt8} (hs : s = ⟨l.toArray⟩) (p : UInt8 → Bool) (k : Nat) (hk : run p s 0 = k) : s.extract 0 k = ⟨(l.takeWhile p).toArray⟩ := by
  have e := extract_run p s 0
  rw [Nat.zero_add, hk] at e
  rw [e, hs]; rfl
theorem pass_rest {s : ByteArray} {l : List UInt8} (hs : s = ⟨l.toArray⟩) (p : UInt8 → Bool) (k n : Nat) (hn : n = s.size) (hk : run p s 0 = k) : s.extract k n = ⟨(l.dropWhile p).toArray⟩ := by
  subst hn hs
  rw [bytes_extract, bytes_size, ← drop_takeWhile p l]
  have e : (l.takeWhile p).length = k := hk
  rw [e]
  congr 2
  exact List.take_of_length_le (by simp)

set_option maxHeartbeats 800000 in
theorem tPass (f : FuncId) (p : UInt8 → Bool) (hcf : ∀ (args : Array Value) (w : World), (callFunc f args).run Tryd.prog w = .ok (.enter f args) w) (hf : Hid (∀ (c : UInt8) (w : World), Calls Tryd.prog f #[.int .u8 c.toNat] w fun e w' => e = .returned (.bool (p c)) ∧ w' = w))
    (w : World) (b : Nat) (l : List UInt8) (h : Txt w b l) (hl : l.length ≤ 1000000000000) :
    Calls Tryd.prog 44 #[.pointer (some ⟨b, 0, none⟩), .func (.func f) #[] #[]] w fun e w' =>
      e = .returned (.string ⟨(l.takeWhile p).toArray⟩) ∧ Txt w' b (l.dropWhile p) ∧ Kept (· = b) w w' := by
  obtain ⟨s, hs⟩ : ∃ s : ByteArray, s = ⟨l.toArray⟩ := ⟨_, rfl⟩
  have c0 := h.c0
  have f0 := h.f 0
  rw [← hs] at c0
  have hsz : s.size ≤ 1000000000000 := by rw [hs, bytes_size]; exact hl
  have HS := hide hs
  clear hs hl
  go_enter Tryd.func44, Tryd.ntmps44
  go_wp2_with fail
  go_loopg [5] s.size (fun g nv wr => ∃ k : Nat, k + g = s.size ∧ nv = .int .i64 k ∧ wr = w ∧ Hid (run p s 0 = k + run p s k))
  case atStart => exact ⟨0, by omega, rfl, rfl, by simp [Hid]⟩
  case round =>
    obtain ⟨k, hk, rfl, hw, HR⟩ := hrel
    subst hw
    by_cases hlt : k < s.size
    · cases hp : p s[k] with
      | true =>
        have HP : Hid (p s[k] = true) := hp
        clear hp
        go_wp2_with fail
        refine (hf.out s[k] _).mono ?_
        rintro e w1 ⟨rfl, rfl⟩
        rw [HP.out]
        go_wp2
        go_roundg (gk - 1)
        case measure => omega
        case rel => exact ⟨k + 1, by omega, by go_num, rfl, by rw [HR.out, run_step hlt HP.out]; exact hide (by omega)⟩
      | false =>
        have HP : Hid (p s[k] = false) := hp
        clear hp
        go_wp2_with fail
        refine (hf.out s[k] _).mono ?_
        rintro e w1 ⟨rfl, rfl⟩
        rw [HP.out]
        go_wp2
        go_ret
        have hk2 : run p s 0 = k := by rw [HR.out, run_stop hlt HP.out]; rfl
        refine ⟨ret_str (pass_text HS.out p k hk2), ?_, (by repeat' (first | assumption | exact Kept.refl _ _ | refine Kept.drewN ?_ _ | refine Kept.drew ?_ | refine Kept.alloc ?_ _ | refine Kept.setB ?_ _ _))⟩
        rw [pass_rest HS.out p k _ rfl hk2]
        exact h.set _
    · go_wp2_with fail
      go_ret
      have hk2 : run p s 0 = k := by rw [HR.out, run_end (by omega)]; rfl
      refine ⟨ret_str (pass_text HS.out p k hk2), ?_, (by repeat' (first | assumption | exact Kept.refl _ _ | refine Kept.drewN ?_ _ | refine Kept.drew ?_ | refine Kept.alloc ?_ _ | refine Kept.setB ?_ _ _))⟩
      rw [pass_rest HS.out p k _ rfl hk2]
      exact h.set _

end Go.Proofs.YtkkjchfhgjfclaaDoor

/- Digits, in plain Lean. -/
namespace Go.Proofs.YtkkjchfhgjfclaaDoor


theorem get0 (c : UInt8) (r : List UInt8) (h : 0 < (⟨(c :: r).toArray⟩ : ByteArray).size) : (⟨(c :: r).toArray⟩ : ByteArray)[0] = c := rfl

theorem digits_len (l : List UInt8) (m : Bool) (h : isNum m l = true) : l ≠ [] ∧ l.length ≤ 9 := by
  unfold isNum at h
  simp at h
  exact ⟨h.1.1, h.1.2⟩

theorem takeWhile_all (p : UInt8 → Bool) (l : List UInt8) : (l.takeWhile p).all p = true := by
  induction l with
  | nil => rfl
  | cons c r ih =>
    rw [List.takeWhile_cons]
    split
    · rename_i h; simp only [List.all_cons, h, ih, Bool.and_self]
    · rfl

theorem valD_bound (l : List UInt8) (h : l.all dig = true) (h9 : l.length ≤ 9) : 0 ≤ valD l ∧ valD l ≤ 999999999 := by
  have key : ∀ (l : List UInt8) (a : Int), l.all dig = true → 0 ≤ a → 0 ≤ l.foldl (fun a c => 10 * a + ((c.toNat : Int) - 48)) a ∧ l.foldl (fun a c => 10 * a + ((c.toNat : Int) - 48)) a + 1 ≤ (a + 1) * 10 ^ l.length := by
    intro l
    induction l with
    | nil => intro a _ ha; simp; omega
    | cons c r ih =>
      intro a h ha
      simp only [List.all_cons, Bool.and_eq_true] at h
      have hc := h.1
      simp at hc
      obtain ⟨h1, h2⟩ := ih (10 * a + ((c.toNat : Int) - 48)) h.2 (by omega)
      refine ⟨h1, Int.le_trans h2 ?_⟩
      rw [List.length_cons, Int.pow_succ]
      have e : (a + 1) * (10 ^ r.length * 10) = ((a + 1) * 10) * 10 ^ r.length := by rw [Int.mul_comm (10 ^ r.length) 10, ← Int.mul_assoc]
      rw [e]
      exact Int.mul_le_mul_of_nonneg_right (by omega) (by exact Int.pow_nonneg (by omega))
  obtain ⟨h1, h2⟩ := key l 0 h (Int.le_refl _)
  refine ⟨h1, ?_⟩
  have h3 : (10 : Int) ^ l.length ≤ 10 ^ 9 := by
    have := Nat.pow_le_pow_right (n := 10) (by omega) h9
    exact_mod_cast this
  have h4 : (10 : Int) ^ 9 = 1000000000 := by decide
  unfold valD
  omega

end Go.Proofs.YtkkjchfhgjfclaaDoor

/- parse.IsDigit. -/
namespace Go.Proofs.YtkkjchfhgjfclaaDoor
open Go.RowKit

theorem isDigit_any (c : UInt8) (w : World) :
    Calls Tryd.prog 52 #[.int .u8 c.toNat] w fun e w' => e = .returned (.bool (dig c)) ∧ w' = w := by
  go_enter Tryd.func52, Tryd.ntmps52
  go_wp2
  all_goals go_ret
  all_goals refine ⟨ret_bool ?_, rfl⟩
  all_goals (rw [Bool.eq_iff_iff]; simp; try omega)

end Go.Proofs.YtkkjchfhgjfclaaDoor

/- parse.Text: Number. -/
namespace Go.Proofs.YtkkjchfhgjfclaaDoor
open Go.RowKit

theorem same_bytesWorld (w : World) (e : TypeId) (t : ByteArray) : Same w (Lib.bytesWorld w e t) := by
  unfold Lib.bytesWorld
  exact same_freeze ((Kept.refl _ w).drew.alloc _) (Nat.le_refl _)

theorem enters_dig (args : Array Value) (w : World) : (callFunc 52 args).run Tryd.prog w = .ok (.enter 52 args) w := by kernel_rfl

theorem tIsNumber (m : Bool) (l : List UInt8) (w : World) :
    Calls Tryd.prog 65 #[.bool m, .string ⟨l.toArray⟩] w fun e w' => e = .returned (.bool (isNum m l)) ∧ w' = w := by
  cases m
  all_goals
    cases l with
    | nil =>
      go_enter Tryd.func65, Tryd.ntmps65
      go_wp2
      go_ret
      exact ⟨rfl, rfl⟩
    | cons c r =>
      go_enter Tryd.func65, Tryd.ntmps65
      go_wp2
      all_goals go_ret
      all_goals refine ⟨ret_bool ?_, rfl⟩
      all_goals unfold isNum
      all_goals simp only [List.head?_cons, Option.getD_some, List.isEmpty_cons, List.length_cons, Bool.false_or]
      all_goals simp [get0] at *
      all_goals (try omega)
      all_goals (have hcc : ((c.toNat : Int) = 48 ∧ c.toNat = 48) ∨ (¬ (c.toNat : Int) = 48 ∧ ¬ c.toNat = 48) := by omega)
      all_goals (have hll : r.length ≤ 8 := by omega)
      all_goals (rcases hcc with ⟨_, _⟩ | ⟨_, _⟩ <;> simp_all)

/-- is there a minus, and what is left behind it -/
def minusL (l : List UInt8) : Bool := [45].isPrefixOf l
/-- the digits of a number -/
def digsL (l : List UInt8) : List UInt8 := (cutL [45] l).takeWhile dig
def leftL (l : List UInt8) : List UInt8 := (cutL [45] l).dropWhile dig
def signed (m : Bool) (n : Int) : Int := if m then -n else n

set_option maxHeartbeats 800000 in
theorem tNumber (w : World) (b : Nat) (l : List UInt8) (h : Txt w b l) (hl : l.length ≤ 1000000000000) :
    Calls Tryd.prog 53 #[.pointer (some ⟨b, 0, none⟩)] w fun e w' =>
      (isNum (minusL l) (digsL l) = true ∧ e = .returned (.int .i64 (signed (minusL l) (valD (digsL l)))) ∧ Txt w' b (leftL l) ∧ Kept (· = b) w w')
      ∨ (isNum (minusL l) (digsL l) = false ∧ e = fault 1 ∧ Kept (· = b) w w') := by
  have HS := hide (tSkip w b l [45] h)
  obtain ⟨m, hm⟩ : ∃ m, m = minusL l := ⟨_, rfl⟩
  obtain ⟨l1, hl1⟩ : ∃ l1, l1 = cutL [45] l := ⟨_, rfl⟩
  have hlen : l1.length ≤ 1000000000000 := by rw [hl1, cutL]; split <;> (try rw [List.length_drop]) <;> omega
  obtain ⟨ds, hds⟩ : ∃ ds, ds = l1.takeWhile dig := ⟨_, rfl⟩
  have hall : ds.all dig = true := by rw [hds]; exact takeWhile_all dig l1
  rw [show digsL l = ds by rw [hds, hl1]; rfl, show leftL l = l1.dropWhile dig by rw [hl1]; rfl, ← hm]
  rw [show [45].isPrefixOf l = m from hm.symm, ← hl1] at HS
  have HD := hide hds
  clear hm hl1 hds
  cases hn : isNum m ds with
  | true =>
    obtain ⟨hne, hl9⟩ := digits_len _ m hn
    have HA := hide (atoi_of _ hall hne)
    have hb := valD_bound _ hall hl9
    have HN := hide hn
    clear hn hne hall
    go_enter Tryd.func53, Tryd.ntmps53
    go_wp2_with fail
    refine HS.out.mono ?_
    rintro e w1 ⟨rfl, h1, hK1⟩
    go_wp2_with fail
    refine (tPass 52 dig enters_dig isDigit_any _ b l1 h1 hlen).mono ?_
    rintro e w2 ⟨rfl, h2, hK2⟩
    rw [← HD.out]
    go_wp2_with fail
    refine (tIsNumber _ _ _).mono ?_
    rintro e w3 ⟨rfl, rfl⟩
    rw [HN.out]
    go_wp2_with fail
    refine (Tryd.strconv_Atoi _ _ (by rw [bytes_size]; omega) HA.out _).mono ?_
    rintro e w4 ⟨rfl, tt, rfl⟩
    have hK3 : Same w3 (Lib.bytesWorld w3 5 tt) := same_bytesWorld _ _ _
    have h3 := h2.keep hK3 (fun f => f)
    generalize Lib.bytesWorld w3 5 tt = w4 at *
    have hK4 : Kept (· = b) w w4 := (hK1.trans hK2 (fun _ _ h => h)).trans hK3 (fun _ _ f => f.elim)
    clear hK1 hK2 hK3
    cases m
    all_goals
      go_wp2
      go_ret
      exact .inl ⟨trivial, rfl, h3, hK4⟩
  | false =>
    have HN := hide hn
    clear hn hall
    go_enter Tryd.func53, Tryd.ntmps53
    go_wp2_with fail
    refine HS.out.mono ?_
    rintro e w1 ⟨rfl, h1, hK1⟩
    go_wp2_with fail
    refine (tPass 52 dig enters_dig isDigit_any _ b l1 h1 hlen).mono ?_
    rintro e w2 ⟨rfl, h2, hK2⟩
    rw [← HD.out]
    go_wp2_with fail
    refine (tIsNumber _ _ _).mono ?_
    rintro e w3 ⟨rfl, rfl⟩
    rw [HN.out]
    go_wp2_with fail
    exact ⟨rfl, .inr ⟨trivial, rfl, hK1.trans hK2 (fun _ _ h => h)⟩⟩

end Go.Proofs.YtkkjchfhgjfclaaDoor
