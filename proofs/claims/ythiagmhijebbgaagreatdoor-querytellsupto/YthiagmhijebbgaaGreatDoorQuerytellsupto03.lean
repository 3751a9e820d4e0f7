import Derived.Test.YthiagmhijebbgaaGreatDoorQuerytellsupto01
import Derived.Lib.Atoi
import Derived.Test.YthiagmhijebbgaaGreatDoorChecked
import Derived.Lib.Bytealg
import Derived.Defers
import Derived.Recover
/- Lists of bytes: what the readers' loops need. No program is named here. -/
namespace Go.Proofs.YthiagmhijebbgaaGreatDoor

abbrev nn (c : UInt8) : Bool := decide (c.toNat ≠ 10)
abbrev plain (c : UInt8) : Bool := decide (c.toNat ≠ 34) && decide (c.toNat ≠ 92) && decide (c.toNat ≠ 10)

theorem skip_white (l : List UInt8) : skipN false l = (l.takeWhile wh).length + skipN false (l.drop (l.takeWhile wh).length) := by
  induction l with
  | nil => simp [skipN]
  | cons c r ih =>
    by_cases h : wh c = true
    · rw [List.takeWhile_cons, if_pos h, skipN, if_pos h, ih]; simp; omega
    · rw [List.takeWhile_cons, if_neg h]; simp

theorem skip_note (l : List UInt8) : skipN true l = (l.takeWhile nn).length + skipN false (l.drop (l.takeWhile nn).length) := by
  induction l with
  | nil => simp [skipN]
  | cons c r ih =>
    by_cases h : c.toNat = 10
    · rw [List.takeWhile_cons, if_neg (by simp [nn, h]), skipN, if_pos h]
      simp only [List.length_nil, List.drop_zero, Nat.zero_add]
      rw [skipN, if_pos (by simp [wh, h])]
    · rw [List.takeWhile_cons, if_pos (by simp [nn, h]), skipN, if_neg h, ih]; simp; omega

theorem skip_hash (c : UInt8) (r : List UInt8) (h : c.toNat = 35) : skipN false (c :: r) = ((c :: r).takeWhile nn).length + skipN false ((c :: r).drop ((c :: r).takeWhile nn).length) := by
  rw [List.takeWhile_cons, if_pos (by simp [nn, h]), skipN, if_neg (by simp [wh, h]), if_pos h, skip_note]; simp; omega

theorem skip_stop (c : UInt8) (r : List UInt8) (h1 : wh c = false) (h2 : c.toNat ≠ 35) : skipN false (c :: r) = 0 := by
  rw [skipN, if_neg (by simp [h1]), if_neg h2]

theorem skip_le (b : Bool) (l : List UInt8) : skipN b l ≤ l.length := by
  induction l generalizing b with
  | nil => cases b <;> simp [skipN]
  | cons c r ih => cases b <;> rw [skipN] <;> have h1 := ih true <;> have h2 := ih false <;> (split <;> simp <;> (try split) <;> omega)

theorem stop_at (p : UInt8 → Bool) (l : List UInt8) (c : UInt8) (r : List UInt8) (h : l.drop (l.takeWhile p).length = c :: r) : p c = false := by
  induction l with
  | nil => simp at h
  | cons d l ih =>
    by_cases hd : p d = true
    · rw [List.takeWhile_cons, if_pos hd] at h
      exact ih (by simpa using h)
    · rw [List.takeWhile_cons, if_neg hd] at h
      simp at h
      rw [← h.1]; simpa using hd

/-- so many bytes from place k on are passed -/
def run (p : UInt8 → Bool) (s : ByteArray) (k : Nat) : Nat := ((s.data.toList.drop k).takeWhile p).length

theorem drop_at {s : ByteArray} {k : Nat} (h : k < s.size) : s.data.toList.drop k = s[k] :: s.data.toList.drop (k + 1) := by
  have hk : k < s.data.toList.length := by simpa using h
  rw [List.drop_eq_getElem_cons hk]; rfl
theorem drop_end {s : ByteArray} {k : Nat} (h : s.size ≤ k) : s.data.toList.drop k = [] := List.drop_eq_nil_of_le (by simpa using h)

theorem run_step {p : UInt8 → Bool} {s : ByteArray} {k : Nat} (h : k < s.size) (hp : p s[k] = true) : run p s k = run p s (k + 1) + 1 := by
  unfold run
  rw [drop_at h, List.takeWhile_cons, if_pos hp]
  simp
theorem run_stop {p : UInt8 → Bool} {s : ByteArray} {k : Nat} (h : k < s.size) (hp : p s[k] = false) : run p s k = 0 := by
  unfold run
  rw [drop_at h, List.takeWhile_cons, if_neg (by simp [hp])]
  simp
theorem run_end {p : UInt8 → Bool} {s : ByteArray} {k : Nat} (h : s.size ≤ k) : run p s k = 0 := by
  unfold run
  rw [drop_end h]
  simp
theorem run_le (p : UInt8 → Bool) (s : ByteArray) (k : Nat) (hk : k ≤ s.size) : k + run p s k ≤ s.size := by
  unfold run
  have h1 := List.IsPrefix.length_le (List.takeWhile_prefix p (l := s.data.toList.drop k))
  simp at h1
  have : s.data.size = s.size := rfl
  omega
theorem run_at {p : UInt8 → Bool} {s : ByteArray} {k : Nat} (h : k + run p s k < s.size) : p s[k + run p s k] = false := by
  by_cases hk : k < s.size
  · have h2 : (s.data.toList.drop k).drop (run p s k) = s[k + run p s k] :: s.data.toList.drop (k + run p s k + 1) := by rw [List.drop_drop]; exact drop_at h
    exact stop_at p _ _ _ h2
  · omega

/-- the place behind all that is nothing -/
def blank (s : ByteArray) (k : Nat) : Nat := k + skipN false (s.data.toList.drop k)
theorem blank_le {s : ByteArray} {k : Nat} (h : k ≤ s.size) : blank s k ≤ s.size := by
  unfold blank
  have := skip_le false (s.data.toList.drop k)
  simp at this
  have : s.data.size = s.size := rfl
  omega
theorem blank_white (s : ByteArray) (k : Nat) : blank s k = blank s (k + run wh s k) := by
  unfold blank run
  conv => lhs; rw [skip_white]
  rw [List.drop_drop]; omega
theorem blank_hash {s : ByteArray} {k : Nat} (h : k < s.size) (hc : s[k].toNat = 35) : blank s k = blank s (k + run nn s k) := by
  unfold blank run
  have e := skip_hash s[k] (s.data.toList.drop (k + 1)) hc
  rw [← drop_at h] at e
  conv => lhs; rw [e]
  rw [List.drop_drop]; omega
theorem blank_stop {s : ByteArray} {k : Nat} (h : k < s.size) (h1 : wh s[k] = false) (h2 : s[k].toNat ≠ 35) : blank s k = k := by
  unfold blank
  rw [drop_at h, skip_stop _ _ h1 h2]; rfl
theorem blank_end {s : ByteArray} {k : Nat} (h : s.size ≤ k) : blank s k = k := by
  unfold blank
  rw [drop_end h]; rfl


theorem extract_run (p : UInt8 → Bool) (s : ByteArray) (k : Nat) : s.extract k (k + run p s k) = ⟨((s.data.toList.drop k).takeWhile p).toArray⟩ := by
  apply ByteArray.ext
  apply Array.ext'
  show (s.extract k (k + run p s k)).data.toList = (s.data.toList.drop k).takeWhile p
  rw [ByteArray.data_extract, Array.toList_extract, List.extract_eq_take_drop]
  simp only [Nat.add_sub_cancel_left]
  unfold run
  exact (List.prefix_iff_eq_take.1 (List.takeWhile_prefix p)).symm

theorem digitVal_of {c : UInt8} (h : dig c = true) : Lib.digitVal c = some (c.toNat - 48) := by
  simp at h
  unfold Lib.digitVal
  rw [if_pos h]

theorem decFrom_of (l : List UInt8) (h : l.all dig = true) : ∀ acc : Nat, ∃ n : Nat, Lib.decFrom acc l = some n ∧ (n : Int) = l.foldl (fun a c => 10 * a + ((c.toNat : Int) - 48)) (acc : Int) := by
  induction l with
  | nil => intro acc; exact ⟨acc, rfl, rfl⟩
  | cons c r ih =>
    intro acc
    simp only [List.all_cons, Bool.and_eq_true] at h
    obtain ⟨n, h1, h2⟩ := ih h.2 (acc * 10 + (c.toNat - 48))
    refine ⟨n, ?_, ?_⟩
    · rw [Lib.decFrom, digitVal_of (by simpa using h.1)]; exact h1
    · rw [h2, List.foldl_cons]
      congr 1
      have := h.1
      simp at this
      omega

theorem atoi_of (l : List UInt8) (h : l.all dig = true) (h0 : l ≠ []) : Lib.atoi l = some (valD l) := by
  cases l with
  | nil => exact absurd rfl h0
  | cons c r =>
    obtain ⟨n, h1, h2⟩ := decFrom_of (c :: r) h 0
    have hc : dig c = true := by simp only [List.all_cons, Bool.and_eq_true] at h; simpa using h.1
    simp at hc
    have e1 : (c == 45) = false := by simp; intro e; subst e; simp at hc
    have e2 : (c == 43) = false := by simp; intro e; subst e; simp at hc
    show (if (c == 45) = true then _ else if (c == 43) = true then _ else _) = _
    rw [e1, e2]
    simp only [Bool.false_eq_true, if_false]
    unfold Lib.decNat
    simp only [List.isEmpty_cons, Bool.false_eq_true, if_false, h1, Option.map_some]
    exact congrArg some h2

end Go.Proofs.YthiagmhijebbgaaGreatDoor

/- Walks of lex's functions on bytes and on one token. -/
namespace Go.Proofs.YthiagmhijebbgaaGreatDoor
open Go.RowKit

theorem isDigit_any (c : UInt8) (w : World) :
    Calls Tryz.prog 85 #[.int .u8 c.toNat] w fun e w' => e = .returned (.bool (dig c)) ∧ w' = w := by
  go_enter Tryz.func85, Tryz.ntmps85
  go_wp2
  all_goals go_ret
  all_goals refine ⟨ret_bool ?_, rfl⟩
  all_goals (rw [Bool.eq_iff_iff]; simp; try omega)

theorem begins_any (c : UInt8) (w : World) :
    Calls Tryz.prog 82 #[.int .u8 c.toNat] w fun e w' => e = .returned (.bool (beg c)) ∧ w' = w := by
  go_enter Tryz.func82, Tryz.ntmps82
  go_wp2
  all_goals go_ret
  all_goals refine ⟨ret_bool ?_, rfl⟩
  all_goals (rw [Bool.eq_iff_iff]; simp; try omega)

def begX (c : UInt8) : Bool := beg c
def digX (c : UInt8) : Bool := dig c

theorem goesOn_any (c : UInt8) (w : World) :
    Calls Tryz.prog 84 #[.int .u8 c.toNat] w fun e w' => e = .returned (.bool (onn c)) ∧ w' = w := by
  have hb : ∀ w, Calls Tryz.prog 82 #[.int .u8 c.toNat] w fun e w' => e = .returned (.bool (begX c)) ∧ w' = w := fun w => begins_any c w
  have hd : ∀ w, Calls Tryz.prog 85 #[.int .u8 c.toNat] w fun e w' => e = .returned (.bool (digX c)) ∧ w' = w := fun w => isDigit_any c w
  have Hb := hide (hb)
  have Hd := hide (hd)
  clear hb hd
  have key : ∀ b d : Bool, begX c = b → digX c = d → onn c = (b || d) := by intro b d h1 h2; rw [← h1, ← h2]; rfl
  have Key := hide (key)
  clear key
  cases h1 : begX c <;> cases h2 : digX c
  all_goals
    have hk := Key.out _ _ h1 h2
    have HK := hide (hk)
    clear hk
    go_enter Tryz.func84, Tryz.ntmps84
    go_wp2_with (first
      | (go_at_call 82; refine (Hb.out _).mono ?_; rintro e w' ⟨rfl, rfl⟩)
      | (go_at_call 85; refine (Hd.out _).mono ?_; rintro e w' ⟨rfl, rfl⟩))
    all_goals go_ret
    all_goals exact ⟨ret_bool (by rw [HK.out]; rfl), rfl⟩

theorem blank1_any (c : UInt8) (w : World) :
    Calls Tryz.prog 80 #[.int .u8 c.toNat] w fun e w' => e = .returned (.bool (wh c)) ∧ w' = w := by
  go_enter Tryz.func80, Tryz.ntmps80
  go_wp2
  all_goals go_ret
  all_goals refine ⟨ret_bool ?_, rfl⟩
  all_goals (rw [Bool.eq_iff_iff]; simp_all; try omega)

theorem blank2_any (c : UInt8) (w : World) :
    Calls Tryz.prog 81 #[.int .u8 c.toNat] w fun e w' => e = .returned (.bool (nn c)) ∧ w' = w := by
  go_enter Tryz.func81, Tryz.ntmps81
  go_wp2
  all_goals go_ret
  all_goals refine ⟨ret_bool ?_, rfl⟩
  all_goals (rw [Bool.eq_iff_iff]; simp_all; try omega)

theorem words1_any (c : UInt8) (w : World) :
    Calls Tryz.prog 103 #[.int .u8 c.toNat] w fun e w' => e = .returned (.bool (plain c)) ∧ w' = w := by
  go_enter Tryz.func103, Tryz.ntmps103
  go_wp2
  all_goals go_ret
  all_goals refine ⟨ret_bool ?_, rfl⟩
  all_goals (rw [Bool.eq_iff_iff]; simp_all; try omega)

theorem indexByte_sgn (c : UInt8) : decide (0 ≤ Lib.indexByte [123, 125, 40, 41, 58, 91, 93] c) = sgn c := by
  have h : ∀ n : Fin 256, decide (0 ≤ Lib.indexByte [123, 125, 40, 41, 58, 91, 93] (UInt8.ofNat n)) = sgn (UInt8.ofNat n) := by decide +kernel
  have h1 := h ⟨c.toNat, c.toNat_lt⟩
  simpa using h1

set_option maxRecDepth 100000 in
theorem indexByte_any (s : ByteArray) (c : UInt8) (w : World) :
    Calls Tryz.prog 115 #[.string s, .int .u8 c.toNat] w fun e w' => e = .returned (.int .i64 (Lib.indexByte s.data.toList c)) ∧ w' = w := by
  go_enter Tryz.func115, Tryz.ntmps115
  go_wp2
  rw [run_callFunc_extern Tryz.func123 (by kernel_rfl) (by kernel_rfl) (by kernel_rfl) (e := Extern.BytealgIndexByte.indexByte) (by kernel_rfl), Lib.run_indexByteString]
  simp only [Result.andThen]
  rw [Oper.upon_value]
  go_wp2
  go_ret
  exact ⟨ret_int (by congr 1), rfl⟩

theorem isSign_any (c : UInt8) (w : World) :
    Calls Tryz.prog 88 #[.int .u8 c.toNat] w fun e w' => e = .returned (.bool (sgn c)) ∧ w' = w := by
  go_enter Tryz.func88, Tryz.ntmps88
  go_wp2_with (first
    | (go_at_call 106; go_in)
    | (go_at_call 115; refine (indexByte_any _ c _).mono ?_; rintro e w' ⟨rfl, rfl⟩))
  all_goals go_ret
  all_goals refine ⟨ret_bool ?_, rfl⟩
  all_goals (rw [← indexByte_sgn c]; try rfl)

end Go.Proofs.YthiagmhijebbgaaGreatDoor

namespace Go.Proofs.YthiagmhijebbgaaGreatDoor
open Go.RowKit

/-- A reader lies in block b: its text, its place, its tokens. -/
def Rdr (w : World) (b : Nat) (s : ByteArray) (k : Nat) (v : Value) : Prop := w.heap[b]? = some (.cells #[.string s, .int .i64 k, v] 69 (0, 0))

theorem Rdr.c0 {w : World} {b k : Nat} {s : ByteArray} {v : Value} (h : Rdr w b s k v) : w.cell? ⟨b, 0, none⟩ = some (.string s) := by
  unfold Rdr at h; simp [World.cell?, h]
theorem Rdr.c1 {w : World} {b k : Nat} {s : ByteArray} {v : Value} (h : Rdr w b s k v) : w.cell? ⟨b, 1, none⟩ = some (.int .i64 k) := by
  unfold Rdr at h; simp [World.cell?, h]
theorem Rdr.c2 {w : World} {b k : Nat} {s : ByteArray} {v : Value} (h : Rdr w b s k v) : w.cell? ⟨b, 2, none⟩ = some v := by
  unfold Rdr at h; simp [World.cell?, h]
theorem Rdr.f {w : World} {b k : Nat} {s : ByteArray} {v : Value} (h : Rdr w b s k v) (o : Nat) : w.frozen? ⟨b, o, none⟩ = false := by
  unfold Rdr at h; simp [World.frozen?, h]

theorem ended_any (w : World) (b k : Nat) (s : ByteArray) (v : Value) (t : Bool) (ht : ((k : Int) == (s.size : Int)) = t) (h : Rdr w b s k v) :
    Calls Tryz.prog 60 #[.pointer (some ⟨b, 0, none⟩)] w fun e w' => e = .returned (.bool t) ∧ ∃ n, w' = w.drewN n := by
  have HT := hide (ht)
  clear ht
  have c0 := h.c0
  have c1 := h.c1
  go_enter Tryz.func60, Tryz.ntmps60
  go_wp2_with fail
  go_quiet (fail)
  go_wp2
  go_ret
  exact ⟨ret_bool HT.out, _, rfl⟩


theorem Rdr.set {w : World} {b k : Nat} {s : ByteArray} {v : Value} (h : Rdr w b s k v) (j : Nat) : Rdr (w.setCell ⟨b, 1, none⟩ (.int .i64 j)) b s j v := by
  unfold Rdr at *
  simp [World.setCell, Array.getElem?_modify, h]

set_option maxHeartbeats 800000 in
theorem pass_any (f : FuncId) (p : UInt8 → Bool) (hcf : ∀ (args : Array Value) (w : World), (callFunc f args).run Tryz.prog w = .ok (.enter f args) w) (hf : Hid (∀ (c : UInt8) (w : World), Calls Tryz.prog f #[.int .u8 c.toNat] w fun e w' => e = .returned (.bool (p c)) ∧ w' = w))
    (w : World) (b k : Nat) (s : ByteArray) (v : Value) (h : Rdr w b s k v) (hk : k ≤ s.size) (hs : s.size ≤ 2000) :
    Calls Tryz.prog 79 #[.pointer (some ⟨b, 0, none⟩), .func (.func f) #[] #[]] w fun e w' =>
      e = .returned (.string ⟨((s.data.toList.drop k).takeWhile p).toArray⟩) ∧ Rdr w' b s (k + run p s k) v ∧ Kept (· = b) w w' := by
  have c0 := h.c0
  have c1 := h.c1
  go_enter Tryz.func79, Tryz.ntmps79
  go_wp2_with fail
  go_loopg [] (s.size - k) (fun g wr => ∃ j : Nat, j + g = s.size ∧ k ≤ j ∧ Rdr wr b s j v ∧ Kept (· = b) w wr ∧ k + run p s k = j + run p s j)
  case atStart => exact ⟨k, by omega, Nat.le_refl _, h, Kept.refl _ _, rfl⟩
  case round =>
    obtain ⟨j, hj, hkj, hR, hK, hrun⟩ := hrel
    have HR : Hid (k + run p s k = j + run p s j) := hrun
    clear hrun c0 c1
    have c0 := hR.c0
    have c1 := hR.c1
    have f1 := hR.f 1
    by_cases hlt : j < s.size
    · have he : ((j : Int) == (s.size : Int)) = false := by simp; omega
      cases hp : p s[j] with
      | true =>
        have HP : Hid (p s[j] = true) := hp
        clear hp
        go_wp2_with fail
        go_quiet (first
          | (go_at_call 60; refine Calls.quiet_of (ended_any _ b j s v _ he ?_); exact hR)
          | exact Calls.quiet_of_same ((hf.out s[j] _).mono fun e w' h => ⟨h.1.trans (by rw [HP.out]), h.2⟩))
        go_wp2
        go_roundg (gk - 1)
        case measure => omega
        case rel => exact ⟨j + 1, by omega, by omega, hR.set (j + 1), (by repeat' (first | assumption | exact Kept.refl _ _ | refine Kept.drewN ?_ _ | refine Kept.drew ?_ | refine Kept.alloc ?_ _ | refine Kept.setB ?_ _ _)), by rw [HR.out, run_step hlt HP.out]; omega⟩
      | false =>
        have HP : Hid (p s[j] = false) := hp
        clear hp
        go_wp2_with fail
        go_quiet (first
          | (go_at_call 60; refine Calls.quiet_of (ended_any _ b j s v _ he ?_); exact hR)
          | exact Calls.quiet_of_same ((hf.out s[j] _).mono fun e w' h => ⟨h.1.trans (by rw [HP.out]), h.2⟩))
        go_wp2_with fail
        go_quiet (fail)
        go_wp2
        go_ret
        exact ⟨ret_str (by rw [← extract_run, HR.out, run_stop hlt HP.out]; rfl), by rw [HR.out, run_stop hlt HP.out]; exact hR, (by repeat' (first | assumption | exact Kept.refl _ _ | refine Kept.drewN ?_ _ | refine Kept.drew ?_ | refine Kept.alloc ?_ _ | refine Kept.setB ?_ _ _))⟩
    · have he : ((j : Int) == (s.size : Int)) = true := by simp; omega
      go_wp2_with fail
      go_quiet ((go_at_call 60; refine Calls.quiet_of (ended_any _ b j s v _ he ?_); exact hR))
      go_wp2_with fail
      go_quiet (fail)
      go_wp2
      go_ret
      exact ⟨ret_str (by rw [← extract_run, HR.out, run_end (by omega)]; rfl), by rw [HR.out, run_end (by omega)]; exact hR, (by repeat' (first | assumption | exact Kept.refl _ _ | refine Kept.drewN ?_ _ | refine Kept.drew ?_ | refine Kept.alloc ?_ _ | refine Kept.setB ?_ _ _))⟩

end Go.Proofs.YthiagmhijebbgaaGreatDoor

/- parse.Caught: what is panicked with is answered. -/
namespace Go.Proofs.YthiagmhijebbgaaGreatDoor
open Go.RowKit

/-- what is panicked with -/
abbrev fault (n : Int) : Ending := .panicked [{ v := .iface 70 (.int .i64 n), recovered := false }]

theorem catch_fault (p : Addr) (x n : Int) (older : List PanicEntry) (w : World) (hc : w.cell? p = some (.int .i64 x)) (hz : w.frozen? p = false) :
    CallsD Tryz.prog 37 #[.pointer (some p)] (.panicking ({ v := .iface 70 (.int .i64 n), recovered := false } :: older)) w fun e u' w' =>
      e = .returned (.tuple #[]) ∧ u' = .panicking ({ v := .iface 70 (.int .i64 n), recovered := true } :: older) ∧ w' = w.setCell p (.int .i64 n) := by
  have hta : ∀ w, (Instr.typeAssert (.iface 70 (.int .i64 n)) 20 70 true).run Tryz.prog w = .ok (.tuple #[.int .i64 n, .bool true]) w := fun _ => by kernel_rfl
  refine callsD_of_wpS Tryz.func37 rfl fun c₀ cs hu => ?_
  apply wpS_seq
  apply wpS_region
  simp [wpOpsS, go_sem, recoverD, hu, Tryz.ntmps37, Exit.thenS]
  refine wpS_of_wp ?_
  rw [show (#[Value.pointer (some p)] ++ ((Array.replicate 15 undef).setIfInBounds 3 (Value.iface 70 (.int .i64 n))).setIfInBounds 0 (Value.iface 70 (.int .i64 n))) = #[.pointer (some p), .iface 70 (.int .i64 n), undef, undef, .iface 70 (.int .i64 n), undef, undef, undef, undef, undef, undef, undef, undef, undef, undef, undef] from rfl]
  go_wp2_with fail
  simp [bodyPostS, results, Tryz.results37]


theorem catch_idle (p : Addr) (w : World) :
    CallsD Tryz.prog 37 #[.pointer (some p)] .returning w fun e u' w' => e = .returned (.tuple #[]) ∧ u' = .returning ∧ w' = w := by
  refine callsD_of_wpS Tryz.func37 rfl fun c₀ cs hu => ?_
  apply wpS_seq
  apply wpS_region
  simp [wpOpsS, go_sem, recoverD, hu, Tryz.ntmps37, Exit.thenS]
  refine wpS_of_wp ?_
  rw [show (#[Value.pointer (some p)] ++ ((Array.replicate 15 undef).setIfInBounds 3 Value.nilIface).setIfInBounds 0 Value.nilIface) = #[.pointer (some p), .nilIface, undef, undef, .nilIface, undef, undef, undef, undef, undef, undef, undef, undef, undef, undef, undef] from rfl]
  go_wp2_with fail
  cases c₀
  simp_all [bodyPostS, results, Tryz.results37]

/-- Caught, of a method value: what it gave up with, or 0. -/
theorem caught_method (f : FuncId) (x : Value) (w : World) (X : Nat → Prop) (hX : ∀ i, X i → i < w.heap.size) (R : World → Prop) (S : Int → World → Prop)
    (hcf : ∀ (args : Array Value) (w : World), (callFunc f args).run Tryz.prog w = .ok (.enter f args) w)
    (hW : Hid (Calls Tryz.prog f #[x] (w.alloc (.cells #[.int .i64 0] 24)) fun e w' =>
      (e = .returned (.tuple #[]) ∧ R w' ∧ Kept X (w.alloc (.cells #[.int .i64 0] 24)) w') ∨ (∃ n, e = fault n ∧ S n w' ∧ Kept X (w.alloc (.cells #[.int .i64 0] 24)) w'))) :
    Calls Tryz.prog 18 #[.func (.func f) #[x] #[]] w fun e w' =>
      (∃ w1, e = .returned (.int .i64 0) ∧ R w1 ∧ Kept X (w.alloc (.cells #[.int .i64 0] 24)) w1 ∧ w' = w1.setCell ⟨w.heap.size, 0, none⟩ (.int .i64 0))
      ∨ (∃ n w1, e = .returned (.int .i64 n) ∧ S n w1 ∧ Kept X (w.alloc (.cells #[.int .i64 0] 24)) w1 ∧ w' = w1.setCell ⟨w.heap.size, 0, none⟩ (.int .i64 n)) := by
  have hmf : ∀ (fn : Fn) (first cap : Array Value) (w : World), (Instr.makeFunc fn first cap).run Tryz.prog w = .ok (.func fn first cap) w := fun _ _ _ _ => rfl
  go_enter_defers Tryz.func18, Tryz.ntmps18
  go_wp2_with fail
  refine hW.out.mono ?_
  rintro e w1 (⟨rfl, hR, hK⟩ | ⟨n, rfl, hS, hK⟩)
  · have hg := new_kept (w := w) hK (fun h => Nat.lt_irrefl _ (hX _ h))
    have c0 : w1.cell? ⟨w.heap.size, 0, none⟩ = some (.int .i64 0) := by simp [World.cell?, hg]
    have f0 : w1.frozen? ⟨w.heap.size, 0, none⟩ = false := by simp [World.frozen?, hg]
    go_wp2_with fail
    refine leaves_cons (f := 37) (args := #[.pointer (some ⟨w.heap.size, 0, none⟩)]) (by simp) (by simp [go_sem]) ?_
    refine (catch_idle ⟨w.heap.size, 0, none⟩ _).mono ?_
    rintro e u' w'' ⟨rfl, rfl, rfl⟩
    have c1 := World.cell?_setCell_same w1 ⟨w.heap.size, 0, none⟩ (.int .i64 0) c0
    simp only [Leaves, settle, results, Tryz.results18]
    exact ⟨.int .i64 0, by simp [go_sem, c1], .inl ⟨w1, rfl, hR, hK, rfl⟩⟩
  · have hg := new_kept (w := w) hK (fun h => Nat.lt_irrefl _ (hX _ h))
    have c0 : w1.cell? ⟨w.heap.size, 0, none⟩ = some (.int .i64 0) := by simp [World.cell?, hg]
    have f0 : w1.frozen? ⟨w.heap.size, 0, none⟩ = false := by simp [World.frozen?, hg]
    go_wp2_with fail
    refine leaves_cons (f := 37) (args := #[.pointer (some ⟨w.heap.size, 0, none⟩)]) (by simp) (by simp [go_sem]) ?_
    refine (catch_fault ⟨w.heap.size, 0, none⟩ 0 n [] _ c0 f0).mono ?_
    rintro e u' w'' ⟨rfl, rfl, rfl⟩
    have c1 := World.cell?_setCell_same w1 ⟨w.heap.size, 0, none⟩ (.int .i64 n) c0
    simp only []
    rw [show settle (FrameMode.panicking [{ v := Value.iface 70 (.int .i64 n), recovered := true }]) = FrameMode.returning from rfl]
    simp only [Leaves, results, Tryz.results18]
    exact ⟨.int .i64 n, by simp [go_sem, c1], .inr ⟨n, w1, rfl, hS, hK, rfl⟩⟩

end Go.Proofs.YthiagmhijebbgaaGreatDoor
