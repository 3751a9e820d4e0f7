import Derived.Test.YtkkjchfhgjfclaaGreatDoorQuerytellsupto01
import Derived.Lib.Atoi
import Derived.Test.YtkkjchfhgjfclaaGreatDoorChecked
import Derived.Lib.Bytealg
/- Lists of bytes: what the readers' loops need. No program is named here. -/
namespace Go.Proofs.YtkkjchfhgjfclaaGreatDoor

abbrev nn (c : UInt8) : Bool := decide (c.toNat ≠ 10)
abbrev plain (c : UInt8) : Bool := decide (c.toNat ≠ 34) && decide (c.toNat ≠ 92) && decide (c.toNat ≠ 10)

theorem skip_white (l : List UInt8) : skipN false l = (l.takeWhile wh).length + skipN false (l.drop (l.takeWhile wh).length) := by
  induction l with
  | nil => simp [skipN]
  | cons c r ih =>
    by_cases h : wh c = true
    · rw [List.takeWhile_cons, if_pos h, skipN, if_pos h, ih]; simp; omega
    · rw [List.takeWhile_cons, if_neg h]; simp

theorem skip_note (l : List UInt8) : skipN true l = (l.takeWhile nn).length + skipN false (l.drop (l.takeWhile nn).length) := by
  induction l with
  | nil => simp [skipN]
  | cons c r ih =>
    by_cases h : c.toNat = 10
    · rw [List.takeWhile_cons, if_neg (by simp [nn, h]), skipN, if_pos h]
      simp only [List.length_nil, List.drop_zero, Nat.zero_add]
      rw [skipN, if_pos (by simp [wh, h])]
    · rw [List.takeWhile_cons, if_pos (by simp [nn, h]), skipN, if_neg h, ih]; simp; omega

theorem skip_hash (c : UInt8) (r : List UInt8) (h : c.toNat = 35) : skipN false (c :: r) = ((c :: r).takeWhile nn).length + skipN false ((c :: r).drop ((c :: r).takeWhile nn).length) := by
  rw [List.takeWhile_cons, if_pos (by simp [nn, h]), skipN, if_neg (by simp [wh, h]), if_pos h, skip_note]; simp; omega

theorem skip_stop (c : UInt8) (r : List UInt8) (h1 : wh c = false) (h2 : c.toNat ≠ 35) : skipN false (c :: r) = 0 := by
  rw [skipN, if_neg (by simp [h1]), if_neg h2]

theorem skip_le (b : Bool) (l : List UInt8) : skipN b l ≤ l.length := by
  induction l generalizing b with
  | nil => cases b <;> simp [skipN]
  | cons c r ih => cases b <;> rw [skipN] <;> have h1 := ih true <;> have h2 := ih false <;> (split <;> simp <;> (try split) <;> omega)

theorem stop_at (p : UInt8 → Bool) (l : List UInt8) (c : UInt8) (r : List UInt8) (h : l.drop (l.takeWhile p).length = c :: r) : p c = false := by
  induction l with
  | nil => simp at h
  | cons d l ih =>
    by_cases hd : p d = true
    · rw [List.takeWhile_cons, if_pos hd] at h
      exact ih (by simpa using h)
    · rw [List.takeWhile_cons, if_neg hd] at h
      simp at h
      rw [← h.1]; simpa using hd

/-- so many bytes from place k on are passed -/
def run (p : UInt8 → Bool) (s : ByteArray) (k : Nat) : Nat := ((s.data.toList.drop k).takeWhile p).length

theorem drop_at {s : ByteArray} {k : Nat} (h : k < s.size) : s.data.toList.drop k = s[k] :: s.data.toList.drop (k + 1) := by
  have hk : k < s.data.toList.length := by simpa using h
  rw [List.drop_eq_getElem_cons hk]; rfl
theorem drop_end {s : ByteArray} {k : Nat} (h : s.size ≤ k) : s.data.toList.drop k = [] := List.drop_eq_nil_of_le (by simpa using h)

theorem run_step {p : UInt8 → Bool} {s : ByteArray} {k : Nat} (h : k < s.size) (hp : p s[k] = true) : run p s k = run p s (k + 1) + 1 := by
  unfold run
  rw [drop_at h, List.takeWhile_cons, if_pos hp]
  simp
theorem run_stop {p : UInt8 → Bool} {s : ByteArray} {k : Nat} (h : k < s.size) (hp : p s[k] = false) : run p s k = 0 := by
  unfold run
  rw [drop_at h, List.takeWhile_cons, if_neg (by simp [hp])]
  simp
theorem run_end {p : UInt8 → Bool} {s : ByteArray} {k : Nat} (h : s.size ≤ k) : run p s k = 0 := by
  unfold run
  rw [drop_end h]
  simp
theorem run_le (p : UInt8 → Bool) (s : ByteArray) (k : Nat) (hk : k ≤ s.size) : k + run p s k ≤ s.size := by
  unfold run
  have h1 := List.IsPrefix.length_le (List.takeWhile_prefix p (l := s.data.toList.drop k))
  simp at h1
  have : s.data.size = s.size := rfl
  omega
theorem run_at {p : UInt8 → Bool} {s : ByteArray} {k : Nat} (h : k + run p s k < s.size) : p s[k + run p s k] = false := by
  by_cases hk : k < s.size
  · have h2 : (s.data.toList.drop k).drop (run p s k) = s[k + run p s k] :: s.data.toList.drop (k + run p s k + 1) := by rw [List.drop_drop]; exact drop_at h
    exact stop_at p _ _ _ h2
  · omega

/-- the place behind all that is nothing -/
def blank (s : ByteArray) (k : Nat) : Nat := k + skipN false (s.data.toList.drop k)
theorem blank_le {s : ByteArray} {k : Nat} (h : k ≤ s.size) : blank s k ≤ s.size := by
  unfold blank
  have := skip_le false (s.data.toList.drop k)
  simp at this
  have : s.data.size = s.size := rfl
  omega
theorem blank_white (s : ByteArray) (k : Nat) : blank s k = blank s (k + run wh s k) := by
  unfold blank run
  conv => lhs; rw [skip_white]
  rw [List.drop_drop]; omega
theorem blank_hash {s : ByteArray} {k : Nat} (h : k < s.size) (hc : s[k].toNat = 35) : blank s k = blank s (k + run nn s k) := by
  unfold blank run
  have e := skip_hash s[k] (s.data.toList.drop (k + 1)) hc
  rw [← drop_at h] at e
  conv => lhs; rw [e]
  rw [List.drop_drop]; omega
theorem blank_stop {s : ByteArray} {k : Nat} (h : k < s.size) (h1 : wh s[k] = false) (h2 : s[k].toNat ≠ 35) : blank s k = k := by
  unfold blank
  rw [drop_at h, skip_stop _ _ h1 h2]; rfl
theorem blank_end {s : ByteArray} {k : Nat} (h : s.size ≤ k) : blank s k = k := by
  unfold blank
  rw [drop_end h]; rfl


theorem extract_run (p : UInt8 → Bool) (s : ByteArray) (k : Nat) : s.extract k (k + run p s k) = ⟨((s.data.toList.drop k).takeWhile p).toArray⟩ := by
  apply ByteArray.ext
  apply Array.ext'
  show (s.extract k (k + run p s k)).data.toList = (s.data.toList.drop k).takeWhile p
  rw [ByteArray.data_extract, Array.toList_extract, List.extract_eq_take_drop]
  simp only [Nat.add_sub_cancel_left]
  unfold run
  exact (List.prefix_iff_eq_take.1 (List.takeWhile_prefix p)).symm

theorem digitVal_of {c : UInt8} (h : dig c = true) : Lib.digitVal c = some (c.toNat - 48) := by
  simp at h
  unfold Lib.digitVal
  rw [if_pos h]

theorem decFrom_of (l : List UInt8) (h : l.all dig = true) : ∀ acc : Nat, ∃ n : Nat, Lib.decFrom acc l = some n ∧ (n : Int) = l.foldl (fun a c => 10 * a + ((c.toNat : Int) - 48)) (acc : Int) := by
  induction l with
  | nil => intro acc; exact ⟨acc, rfl, rfl⟩
  | cons c r ih =>
    intro acc
    simp only [List.all_cons, Bool.and_eq_true] at h
    obtain ⟨n, h1, h2⟩ := ih h.2 (acc * 10 + (c.toNat - 48))
    refine ⟨n, ?_, ?_⟩
    · rw [Lib.decFrom, digitVal_of (by simpa using h.1)]; exact h1
    · rw [h2, List.foldl_cons]
      congr 1
      have := h.1
      simp at this
      omega

theorem atoi_of (l : List UInt8) (h : l.all dig = true) (h0 : l ≠ []) : Lib.atoi l = some (valD l) := by
  cases l with
  | nil => exact absurd rfl h0
  | cons c r =>
    obtain ⟨n, h1, h2⟩ := decFrom_of (c :: r) h 0
    have hc : dig c = true := by simp only [List.all_cons, Bool.and_eq_true] at h; simpa using h.1
    simp at hc
    have e1 : (c == 45) = false := by simp; intro e; subst e; simp at hc
    have e2 : (c == 43) = false := by simp; intro e; subst e; simp at hc
    show (if (c == 45) = true then _ else if (c == 43) = true then _ else _) = _
    rw [e1, e2]
    simp only [Bool.false_eq_true, if_false]
    unfold Lib.decNat
    simp only [List.isEmpty_cons, Bool.false_eq_true, if_false, h1, Option.map_some]
    exact congrArg some h2

end Go.Proofs.YtkkjchfhgjfclaaGreatDoor

/- parse.IsDigit. -/
namespace Go.Proofs.YtkkjchfhgjfclaaGreatDoor
open Go.RowKit

theorem isDigit_any (c : UInt8) (w : World) :
    Calls Tryz.prog 88 #[.int .u8 c.toNat] w fun e w' => e = .returned (.bool (dig c)) ∧ w' = w := by
  go_enter Tryz.func88, Tryz.ntmps88
  go_wp2
  all_goals go_ret
  all_goals refine ⟨ret_bool ?_, rfl⟩
  all_goals (rw [Bool.eq_iff_iff]; simp; try omega)

end Go.Proofs.YtkkjchfhgjfclaaGreatDoor

/- Walks of lex's functions on bytes: those that Check meets. -/
namespace Go.Proofs.YtkkjchfhgjfclaaGreatDoor
open Go.RowKit

theorem begins_any (c : UInt8) (w : World) :
    Calls Tryz.prog 85 #[.int .u8 c.toNat] w fun e w' => e = .returned (.bool (beg c)) ∧ w' = w := by
  go_enter Tryz.func85, Tryz.ntmps85
  go_wp2
  all_goals go_ret
  all_goals refine ⟨ret_bool ?_, rfl⟩
  all_goals (rw [Bool.eq_iff_iff]; simp; try omega)

def begX (c : UInt8) : Bool := beg c
def digX (c : UInt8) : Bool := dig c

theorem goesOn_any (c : UInt8) (w : World) :
    Calls Tryz.prog 87 #[.int .u8 c.toNat] w fun e w' => e = .returned (.bool (onn c)) ∧ w' = w := by
  have hb : ∀ w, Calls Tryz.prog 85 #[.int .u8 c.toNat] w fun e w' => e = .returned (.bool (begX c)) ∧ w' = w := fun w => begins_any c w
  have hd : ∀ w, Calls Tryz.prog 88 #[.int .u8 c.toNat] w fun e w' => e = .returned (.bool (digX c)) ∧ w' = w := fun w => isDigit_any c w
  have Hb := hide (hb)
  have Hd := hide (hd)
  clear hb hd
  have key : ∀ b d : Bool, begX c = b → digX c = d → onn c = (b || d) := by intro b d h1 h2; rw [← h1, ← h2]; rfl
  have Key := hide (key)
  clear key
  cases h1 : begX c <;> cases h2 : digX c
  all_goals
    have hk := Key.out _ _ h1 h2
    have HK := hide (hk)
    clear hk
    go_enter Tryz.func87, Tryz.ntmps87
    go_wp2_with (first
      | (go_at_call 85; refine (Hb.out _).mono ?_; rintro e w' ⟨rfl, rfl⟩)
      | (go_at_call 88; refine (Hd.out _).mono ?_; rintro e w' ⟨rfl, rfl⟩))
    all_goals go_ret
    all_goals exact ⟨ret_bool (by rw [HK.out]; rfl), rfl⟩

theorem indexByte_sgn (c : UInt8) : decide (0 ≤ Lib.indexByte [123, 125, 40, 41, 58, 91, 93] c) = sgn c := by
  have h : ∀ n : Fin 256, decide (0 ≤ Lib.indexByte [123, 125, 40, 41, 58, 91, 93] (UInt8.ofNat n)) = sgn (UInt8.ofNat n) := by decide +kernel
  have h1 := h ⟨c.toNat, c.toNat_lt⟩
  simpa using h1

set_option maxRecDepth 100000 in
theorem indexByte_any (s : ByteArray) (c : UInt8) (w : World) :
    Calls Tryz.prog 122 #[.string s, .int .u8 c.toNat] w fun e w' => e = .returned (.int .i64 (Lib.indexByte s.data.toList c)) ∧ w' = w := by
  go_enter Tryz.func122, Tryz.ntmps122
  go_wp2
  rw [run_callFunc_extern Tryz.func131 (by kernel_rfl) (by kernel_rfl) (by kernel_rfl) (e := Extern.BytealgIndexByte.indexByte) (by kernel_rfl), Lib.run_indexByteString]
  simp only [Result.andThen]
  rw [Oper.upon_value]
  go_wp2
  go_ret
  exact ⟨ret_int (by congr 1), rfl⟩

theorem isSign_any (c : UInt8) (w : World) :
    Calls Tryz.prog 93 #[.int .u8 c.toNat] w fun e w' => e = .returned (.bool (sgn c)) ∧ w' = w := by
  go_enter Tryz.func93, Tryz.ntmps93
  go_wp2_with (first
    | (go_at_call 111; go_in)
    | (go_at_call 122; refine (indexByte_any _ c _).mono ?_; rintro e w' ⟨rfl, rfl⟩))
  all_goals go_ret
  all_goals refine ⟨ret_bool ?_, rfl⟩
  all_goals (rw [← indexByte_sgn c]; try rfl)

theorem size_toList (s : ByteArray) : s.data.toList.length = s.size := by rw [Array.length_toList]; rfl
theorem take_at {s : ByteArray} {k : Nat} (h : k < s.size) : s.data.toList.take (k + 1) = s.data.toList.take k ++ [s[k]] := by
  rw [List.take_succ_eq_append_getElem (by rw [size_toList]; exact h)]; rfl


end Go.Proofs.YtkkjchfhgjfclaaGreatDoor

/- Walks of lex: isName, wrong. -/
namespace Go.Proofs.YtkkjchfhgjfclaaGreatDoor
open Go.RowKit

theorem all_at (p : UInt8 → Bool) (s : ByteArray) : s.data.toList.all p = true ↔ ∀ k (h : k < s.size), p s[k] = true := by
  rw [List.all_eq_true]
  constructor
  · intro h k hk
    exact h _ (List.getElem_mem (l := s.data.toList) (by simpa using hk))
  · intro h x hx
    obtain ⟨k, hk, rfl⟩ := List.getElem_of_mem hx
    exact h k (by simpa using hk)

set_option maxHeartbeats 400000 in
theorem isName_any (s : ByteArray) (w : World) (hs : s.size ≤ 2000) :
    Calls Tryz.prog 112 #[.string s] w fun e w' => e = .returned (.bool (nameOk s.data.toList)) ∧ w' = w := by
  go_enter Tryz.func112, Tryz.ntmps112
  go_wp2_with fail
  go_loopg [6] s.size (fun g i wr => wr = w ∧ ∃ k : Nat, k + g = s.size ∧ i = .int .i64 k ∧ Hid (∀ j (h : j < k), ∃ h2 : j < s.size, onn s[j] = true))
  case atStart => exact ⟨rfl, 0, by omega, rfl, fun j h => absurd h (by omega)⟩
  case round =>
    obtain ⟨rfl, k, hk, rfl, HA⟩ := hrel
    by_cases hlt : k < s.size
    · go_wp2_with fail
      refine (goesOn_any s[k] _).mono ?_
      rintro e w1 ⟨rfl, rfl⟩
      cases hp : onn s[k] with
      | true =>
        have HP := hide hp
        clear hp
        go_wp2_with fail
        go_roundg (gk - 1)
        case measure => omega
        case rel =>
          refine ⟨rfl, k + 1, by omega, by go_num, fun j hj => ?_⟩
          by_cases e : j = k
          · subst e; exact ⟨hlt, HP.out⟩
          · exact HA.out j (by omega)
      | false =>
        have HP := hide hp
        clear hp
        go_wp2_with fail
        go_ret
        refine ⟨ret_bool ?_, rfl⟩
        unfold nameOk
        have : s.data.toList.all onn = false := by
          cases hx : s.data.toList.all onn with
          | false => rfl
          | true => have := (all_at onn s).1 hx k hlt; rw [HP.out] at this; cases this
        rw [this]; rfl
    · have hall : s.data.toList.all onn = true := (all_at onn s).2 (fun j hj => (HA.out j (by omega)).2)
      have HL := hide hall
      clear hall
      by_cases h0 : s.size = 0
      · have he : s.toList.isEmpty = true := by rw [ByteArray.toList_eq, List.isEmpty_iff_length_eq_zero]; simpa using h0
        go_wp2_with fail
        go_ret
        refine ⟨ret_bool ?_, rfl⟩
        have : s.data.toList = [] := List.length_eq_zero_iff.1 (by simpa using h0)
        rw [this]; rfl
      · have he : s.toList.isEmpty = false := by
          cases hx : s.toList.isEmpty with
          | false => rfl
          | true => rw [ByteArray.toList_eq, List.isEmpty_iff_length_eq_zero] at hx; exact absurd (by simpa using hx) h0
        have hp0 : 0 < s.size := by omega
        have HB := hide (begins_any s[0])
        go_wp2_with fail
        refine (HB.out _).mono ?_
        rintro e w1 ⟨rfl, rfl⟩
        have hfin : nameOk s.data.toList = beg s[0] := by
          unfold nameOk
          rw [HL.out]
          have : s.data.toList = s[0] :: s.data.toList.drop 1 := by have := drop_at (k := 0) hp0; simpa using this
          rw [this]; simp
        have HF := hide hfin
        clear hfin
        cases hb : beg s[0]
        all_goals
          have HX := hide hb
          clear hb
          go_wp2_with fail
          go_ret
          exact ⟨ret_bool (by rw [HF.out, HX.out]), rfl⟩

end Go.Proofs.YtkkjchfhgjfclaaGreatDoor

/- parts.IsInt. -/
namespace Go.Proofs.YtkkjchfhgjfclaaGreatDoor
open Go.RowKit

def pIntB (n : Int) : Bool := decide (-999999999 ≤ n) && decide (n ≤ 999999999)

theorem pIsInt (n : Int) (w : World) :
    Calls Tryz.prog 113 #[.int .i64 n] w fun e w' => e = .returned (.bool (pIntB n)) ∧ w' = w := by
  go_enter Tryz.func113, Tryz.ntmps113
  go_wp2
  all_goals go_ret
  all_goals refine ⟨ret_bool ?_, rfl⟩
  all_goals (unfold pIntB; rw [Bool.eq_iff_iff]; simp; try omega)

theorem pIntB_yes {n : Int} (h1 : -999999999 ≤ n) (h2 : n ≤ 999999999) : pIntB n = true := by unfold pIntB; simp [h1, h2]
theorem pIntB_no {n : Int} (h : n < -999999999 ∨ 999999999 < n) : pIntB n = false := by unfold pIntB; simp; omega

end Go.Proofs.YtkkjchfhgjfclaaGreatDoor
