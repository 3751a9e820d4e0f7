import Derived.Test.YthiagmhijebbgaaDoorChecked
import Derived.Test.YthiagmhijebbgaaDoorLexblank01
import Derived.Lib.Bytealg
import Derived.Defers
import Derived.Recover
/- Walks of lex's functions on bytes and on one token. -/
namespace Go.Proofs.YthiagmhijebbgaaDoor
open Go.RowKit

theorem isDigit_any (c : UInt8) (w : World) :
    Calls Tryd.prog 49 #[.int .u8 c.toNat] w fun e w' => e = .returned (.bool (dig c)) ∧ w' = w := by
  go_enter Tryd.func49, Tryd.ntmps49
  go_wp2
  all_goals go_ret
  all_goals refine ⟨ret_bool ?_, rfl⟩
  all_goals (rw [Bool.eq_iff_iff]; simp; try omega)

theorem begins_any (c : UInt8) (w : World) :
    Calls Tryd.prog 46 #[.int .u8 c.toNat] w fun e w' => e = .returned (.bool (beg c)) ∧ w' = w := by
  go_enter Tryd.func46, Tryd.ntmps46
  go_wp2
  all_goals go_ret
  all_goals refine ⟨ret_bool ?_, rfl⟩
  all_goals (rw [Bool.eq_iff_iff]; simp; try omega)

def begX (c : UInt8) : Bool := beg c
def digX (c : UInt8) : Bool := dig c

theorem goesOn_any (c : UInt8) (w : World) :
    Calls Tryd.prog 48 #[.int .u8 c.toNat] w fun e w' => e = .returned (.bool (onn c)) ∧ w' = w := by
  have hb : ∀ w, Calls Tryd.prog 46 #[.int .u8 c.toNat] w fun e w' => e = .returned (.bool (begX c)) ∧ w' = w := fun w => begins_any c w
  have hd : ∀ w, Calls Tryd.prog 49 #[.int .u8 c.toNat] w fun e w' => e = .returned (.bool (digX c)) ∧ w' = w := fun w => isDigit_any c w
  have Hb := hide (hb)
  have Hd := hide (hd)
  clear hb hd
  have key : ∀ b d : Bool, begX c = b → digX c = d → onn c = (b || d) := by intro b d h1 h2; rw [← h1, ← h2]; rfl
  have Key := hide (key)
  clear key
  cases h1 : begX c <;> cases h2 : digX c
  all_goals
    have hk := Key.out _ _ h1 h2
    have HK := hide (hk)
    clear hk
    go_enter Tryd.func48, Tryd.ntmps48
    go_wp2_with (first
      | (go_at_call 46; refine (Hb.out _).mono ?_; rintro e w' ⟨rfl, rfl⟩)
      | (go_at_call 49; refine (Hd.out _).mono ?_; rintro e w' ⟨rfl, rfl⟩))
    all_goals go_ret
    all_goals exact ⟨ret_bool (by rw [HK.out]; rfl), rfl⟩

theorem blank1_any (c : UInt8) (w : World) :
    Calls Tryd.prog 44 #[.int .u8 c.toNat] w fun e w' => e = .returned (.bool (wh c)) ∧ w' = w := by
  go_enter Tryd.func44, Tryd.ntmps44
  go_wp2
  all_goals go_ret
  all_goals refine ⟨ret_bool ?_, rfl⟩
  all_goals (rw [Bool.eq_iff_iff]; simp_all; try omega)

theorem blank2_any (c : UInt8) (w : World) :
    Calls Tryd.prog 45 #[.int .u8 c.toNat] w fun e w' => e = .returned (.bool (nn c)) ∧ w' = w := by
  go_enter Tryd.func45, Tryd.ntmps45
  go_wp2
  all_goals go_ret
  all_goals refine ⟨ret_bool ?_, rfl⟩
  all_goals (rw [Bool.eq_iff_iff]; simp_all; try omega)

theorem words1_any (c : UInt8) (w : World) :
    Calls Tryd.prog 59 #[.int .u8 c.toNat] w fun e w' => e = .returned (.bool (plain c)) ∧ w' = w := by
  go_enter Tryd.func59, Tryd.ntmps59
  go_wp2
  all_goals go_ret
  all_goals refine ⟨ret_bool ?_, rfl⟩
  all_goals (rw [Bool.eq_iff_iff]; simp_all; try omega)

theorem indexByte_sgn (c : UInt8) : decide (0 ≤ Lib.indexByte [123, 125, 40, 41, 58, 91, 93] c) = sgn c := by
  have h : ∀ n : Fin 256, decide (0 ≤ Lib.indexByte [123, 125, 40, 41, 58, 91, 93] (UInt8.ofNat n)) = sgn (UInt8.ofNat n) := by decide +kernel
  have h1 := h ⟨c.toNat, c.toNat_lt⟩
  simpa using h1

set_option maxRecDepth 100000 in
theorem indexByte_any (s : ByteArray) (c : UInt8) (w : World) :
    Calls Tryd.prog 66 #[.string s, .int .u8 c.toNat] w fun e w' => e = .returned (.int .i64 (Lib.indexByte s.data.toList c)) ∧ w' = w := by
  go_enter Tryd.func66, Tryd.ntmps66
  go_wp2
  rw [run_callFunc_extern Tryd.func76 (by kernel_rfl) (by kernel_rfl) (by kernel_rfl) (e := Extern.BytealgIndexByte.indexByte) (by kernel_rfl), Lib.run_indexByteString]
  simp only [Result.andThen]
  rw [Oper.upon_value]
  go_wp2
  go_ret
  exact ⟨ret_int (by congr 1), rfl⟩

theorem isSign_any (c : UInt8) (w : World) :
    Calls Tryd.prog 52 #[.int .u8 c.toNat] w fun e w' => e = .returned (.bool (sgn c)) ∧ w' = w := by
  go_enter Tryd.func52, Tryd.ntmps52
  go_wp2_with (first
    | (go_at_call 62; go_in)
    | (go_at_call 66; refine (indexByte_any _ c _).mono ?_; rintro e w' ⟨rfl, rfl⟩))
  all_goals go_ret
  all_goals refine ⟨ret_bool ?_, rfl⟩
  all_goals (rw [← indexByte_sgn c]; try rfl)

end Go.Proofs.YthiagmhijebbgaaDoor

namespace Go.Proofs.YthiagmhijebbgaaDoor
open Go.RowKit

/-- A reader lies in block b: its text, its place, its tokens. -/
def Rdr (w : World) (b : Nat) (s : ByteArray) (k : Nat) (v : Value) : Prop := w.heap[b]? = some (.cells #[.string s, .int .i64 k, v] 35 (0, 0))

theorem Rdr.c0 {w : World} {b k : Nat} {s : ByteArray} {v : Value} (h : Rdr w b s k v) : w.cell? ⟨b, 0, none⟩ = some (.string s) := by
  unfold Rdr at h; simp [World.cell?, h]
theorem Rdr.c1 {w : World} {b k : Nat} {s : ByteArray} {v : Value} (h : Rdr w b s k v) : w.cell? ⟨b, 1, none⟩ = some (.int .i64 k) := by
  unfold Rdr at h; simp [World.cell?, h]
theorem Rdr.c2 {w : World} {b k : Nat} {s : ByteArray} {v : Value} (h : Rdr w b s k v) : w.cell? ⟨b, 2, none⟩ = some v := by
  unfold Rdr at h; simp [World.cell?, h]
theorem Rdr.f {w : World} {b k : Nat} {s : ByteArray} {v : Value} (h : Rdr w b s k v) (o : Nat) : w.frozen? ⟨b, o, none⟩ = false := by
  unfold Rdr at h; simp [World.frozen?, h]

theorem ended_any (w : World) (b k : Nat) (s : ByteArray) (v : Value) (t : Bool) (ht : ((k : Int) == (s.size : Int)) = t) (h : Rdr w b s k v) :
    Calls Tryd.prog 34 #[.pointer (some ⟨b, 0, none⟩)] w fun e w' => e = .returned (.bool t) ∧ ∃ n, w' = w.drewN n := by
  have HT := hide (ht)
  clear ht
  have c0 := h.c0
  have c1 := h.c1
  go_enter Tryd.func34, Tryd.ntmps34
  go_wp2_with fail
  go_quiet (fail)
  go_wp2
  go_ret
  exact ⟨ret_bool HT.out, _, rfl⟩


theorem Rdr.set {w : World} {b k : Nat} {s : ByteArray} {v : Value} (h : Rdr w b s k v) (j : Nat) : Rdr (w.setCell ⟨b, 1, none⟩ (.int .i64 j)) b s j v := by
  unfold Rdr at *
  simp [World.setCell, Array.getElem?_modify, h]

set_option maxHeartbeats 800000 in
theorem pass_any (f : FuncId) (p : UInt8 → Bool) (hcf : ∀ (args : Array Value) (w : World), (callFunc f args).run Tryd.prog w = .ok (.enter f args) w) (hf : Hid (∀ (c : UInt8) (w : World), Calls Tryd.prog f #[.int .u8 c.toNat] w fun e w' => e = .returned (.bool (p c)) ∧ w' = w))
    (w : World) (b k : Nat) (s : ByteArray) (v : Value) (h : Rdr w b s k v) (hk : k ≤ s.size) (hs : s.size ≤ 2000) :
    Calls Tryd.prog 43 #[.pointer (some ⟨b, 0, none⟩), .func (.func f) #[] #[]] w fun e w' =>
      e = .returned (.string ⟨((s.data.toList.drop k).takeWhile p).toArray⟩) ∧ Rdr w' b s (k + run p s k) v ∧ Kept (· = b) w w' := by
  have c0 := h.c0
  have c1 := h.c1
  go_enter Tryd.func43, Tryd.ntmps43
  go_wp2_with fail
  go_loopg [] (s.size - k) (fun g wr => ∃ j : Nat, j + g = s.size ∧ k ≤ j ∧ Rdr wr b s j v ∧ Kept (· = b) w wr ∧ k + run p s k = j + run p s j)
  case atStart => exact ⟨k, by omega, Nat.le_refl _, h, Kept.refl _ _, rfl⟩
  case round =>
    obtain ⟨j, hj, hkj, hR, hK, hrun⟩ := hrel
    have HR : Hid (k + run p s k = j + run p s j) := hrun
    clear hrun c0 c1
    have c0 := hR.c0
    have c1 := hR.c1
    have f1 := hR.f 1
    by_cases hlt : j < s.size
    · have he : ((j : Int) == (s.size : Int)) = false := by simp; omega
      cases hp : p s[j] with
      | true =>
        have HP : Hid (p s[j] = true) := hp
        clear hp
        go_wp2_with fail
        go_quiet (first
          | (go_at_call 34; refine Calls.quiet_of (ended_any _ b j s v _ he ?_); exact hR)
          | exact Calls.quiet_of_same ((hf.out s[j] _).mono fun e w' h => ⟨h.1.trans (by rw [HP.out]), h.2⟩))
        go_wp2
        go_roundg (gk - 1)
        case measure => omega
        case rel => exact ⟨j + 1, by omega, by omega, hR.set (j + 1), (by repeat' (first | assumption | exact Kept.refl _ _ | refine Kept.drewN ?_ _ | refine Kept.drew ?_ | refine Kept.alloc ?_ _ | refine Kept.setB ?_ _ _)), by rw [HR.out, run_step hlt HP.out]; omega⟩
      | false =>
        have HP : Hid (p s[j] = false) := hp
        clear hp
        go_wp2_with fail
        go_quiet (first
          | (go_at_call 34; refine Calls.quiet_of (ended_any _ b j s v _ he ?_); exact hR)
          | exact Calls.quiet_of_same ((hf.out s[j] _).mono fun e w' h => ⟨h.1.trans (by rw [HP.out]), h.2⟩))
        go_wp2_with fail
        go_quiet (fail)
        go_wp2
        go_ret
        exact ⟨ret_str (by rw [← extract_run, HR.out, run_stop hlt HP.out]; rfl), by rw [HR.out, run_stop hlt HP.out]; exact hR, (by repeat' (first | assumption | exact Kept.refl _ _ | refine Kept.drewN ?_ _ | refine Kept.drew ?_ | refine Kept.alloc ?_ _ | refine Kept.setB ?_ _ _))⟩
    · have he : ((j : Int) == (s.size : Int)) = true := by simp; omega
      go_wp2_with fail
      go_quiet ((go_at_call 34; refine Calls.quiet_of (ended_any _ b j s v _ he ?_); exact hR))
      go_wp2_with fail
      go_quiet (fail)
      go_wp2
      go_ret
      exact ⟨ret_str (by rw [← extract_run, HR.out, run_end (by omega)]; rfl), by rw [HR.out, run_end (by omega)]; exact hR, (by repeat' (first | assumption | exact Kept.refl _ _ | refine Kept.drewN ?_ _ | refine Kept.drew ?_ | refine Kept.alloc ?_ _ | refine Kept.setB ?_ _ _))⟩

end Go.Proofs.YthiagmhijebbgaaDoor

/- parse.Caught: what is panicked with is answered. -/
namespace Go.Proofs.YthiagmhijebbgaaDoor
open Go.RowKit

/-- what is panicked with -/
abbrev fault (n : Int) : Ending := .panicked [{ v := .iface 61 (.int .i64 n), recovered := false }]

theorem catch_fault (p : Addr) (x n : Int) (older : List PanicEntry) (w : World) (hc : w.cell? p = some (.int .i64 x)) (hz : w.frozen? p = false) :
    CallsD Tryd.prog 32 #[.pointer (some p)] (.panicking ({ v := .iface 61 (.int .i64 n), recovered := false } :: older)) w fun e u' w' =>
      e = .returned (.tuple #[]) ∧ u' = .panicking ({ v := .iface 61 (.int .i64 n), recovered := true } :: older) ∧ w' = w.setCell p (.int .i64 n) := by
  have hta : ∀ w, (Instr.typeAssert (.iface 61 (.int .i64 n)) 20 61 true).run Tryd.prog w = .ok (.tuple #[.int .i64 n, .bool true]) w := fun _ => by kernel_rfl
  refine callsD_of_wpS Tryd.func32 rfl fun c₀ cs hu => ?_
  apply wpS_seq
  apply wpS_region
  simp [wpOpsS, go_sem, recoverD, hu, Tryd.ntmps32, Exit.thenS]
  refine wpS_of_wp ?_
  rw [show (#[Value.pointer (some p)] ++ ((Array.replicate 15 undef).setIfInBounds 3 (Value.iface 61 (.int .i64 n))).setIfInBounds 0 (Value.iface 61 (.int .i64 n))) = #[.pointer (some p), .iface 61 (.int .i64 n), undef, undef, .iface 61 (.int .i64 n), undef, undef, undef, undef, undef, undef, undef, undef, undef, undef, undef] from rfl]
  go_wp2_with fail
  simp [bodyPostS, results, Tryd.results32]


theorem catch_idle (p : Addr) (w : World) :
    CallsD Tryd.prog 32 #[.pointer (some p)] .returning w fun e u' w' => e = .returned (.tuple #[]) ∧ u' = .returning ∧ w' = w := by
  refine callsD_of_wpS Tryd.func32 rfl fun c₀ cs hu => ?_
  apply wpS_seq
  apply wpS_region
  simp [wpOpsS, go_sem, recoverD, hu, Tryd.ntmps32, Exit.thenS]
  refine wpS_of_wp ?_
  rw [show (#[Value.pointer (some p)] ++ ((Array.replicate 15 undef).setIfInBounds 3 Value.nilIface).setIfInBounds 0 Value.nilIface) = #[.pointer (some p), .nilIface, undef, undef, .nilIface, undef, undef, undef, undef, undef, undef, undef, undef, undef, undef, undef] from rfl]
  go_wp2_with fail
  cases c₀
  simp_all [bodyPostS, results, Tryd.results32]

/-- Caught, of a method value: what it gave up with, or 0. -/
theorem caught_method (f : FuncId) (x : Value) (w : World) (X : Nat → Prop) (hX : ∀ i, X i → i < w.heap.size) (R : World → Prop) (S : Int → World → Prop)
    (hcf : ∀ (args : Array Value) (w : World), (callFunc f args).run Tryd.prog w = .ok (.enter f args) w)
    (hW : Hid (Calls Tryd.prog f #[x] (w.alloc (.cells #[.int .i64 0] 23)) fun e w' =>
      (e = .returned (.tuple #[]) ∧ R w' ∧ Kept X (w.alloc (.cells #[.int .i64 0] 23)) w') ∨ (∃ n, e = fault n ∧ S n w' ∧ Kept X (w.alloc (.cells #[.int .i64 0] 23)) w'))) :
    Calls Tryd.prog 15 #[.func (.func f) #[x] #[]] w fun e w' =>
      (∃ w1, e = .returned (.int .i64 0) ∧ R w1 ∧ Kept X (w.alloc (.cells #[.int .i64 0] 23)) w1 ∧ w' = w1.setCell ⟨w.heap.size, 0, none⟩ (.int .i64 0))
      ∨ (∃ n w1, e = .returned (.int .i64 n) ∧ S n w1 ∧ Kept X (w.alloc (.cells #[.int .i64 0] 23)) w1 ∧ w' = w1.setCell ⟨w.heap.size, 0, none⟩ (.int .i64 n)) := by
  have hmf : ∀ (fn : Fn) (first cap : Array Value) (w : World), (Instr.makeFunc fn first cap).run Tryd.prog w = .ok (.func fn first cap) w := fun _ _ _ _ => rfl
  go_enter_defers Tryd.func15, Tryd.ntmps15
  go_wp2_with fail
  refine hW.out.mono ?_
  rintro e w1 (⟨rfl, hR, hK⟩ | ⟨n, rfl, hS, hK⟩)
  · have hg := new_kept (w := w) hK (fun h => Nat.lt_irrefl _ (hX _ h))
    have c0 : w1.cell? ⟨w.heap.size, 0, none⟩ = some (.int .i64 0) := by simp [World.cell?, hg]
    have f0 : w1.frozen? ⟨w.heap.size, 0, none⟩ = false := by simp [World.frozen?, hg]
    go_wp2_with fail
    refine leaves_cons (f := 32) (args := #[.pointer (some ⟨w.heap.size, 0, none⟩)]) (by simp) (by simp [go_sem]) ?_
    refine (catch_idle ⟨w.heap.size, 0, none⟩ _).mono ?_
    rintro e u' w'' ⟨rfl, rfl, rfl⟩
    have c1 := World.cell?_setCell_same w1 ⟨w.heap.size, 0, none⟩ (.int .i64 0) c0
    simp only [Leaves, settle, results, Tryd.results15]
    exact ⟨.int .i64 0, by simp [go_sem, c1], .inl ⟨w1, rfl, hR, hK, rfl⟩⟩
  · have hg := new_kept (w := w) hK (fun h => Nat.lt_irrefl _ (hX _ h))
    have c0 : w1.cell? ⟨w.heap.size, 0, none⟩ = some (.int .i64 0) := by simp [World.cell?, hg]
    have f0 : w1.frozen? ⟨w.heap.size, 0, none⟩ = false := by simp [World.frozen?, hg]
    go_wp2_with fail
    refine leaves_cons (f := 32) (args := #[.pointer (some ⟨w.heap.size, 0, none⟩)]) (by simp) (by simp [go_sem]) ?_
    refine (catch_fault ⟨w.heap.size, 0, none⟩ 0 n [] _ c0 f0).mono ?_
    rintro e u' w'' ⟨rfl, rfl, rfl⟩
    have c1 := World.cell?_setCell_same w1 ⟨w.heap.size, 0, none⟩ (.int .i64 n) c0
    simp only []
    rw [show settle (FrameMode.panicking [{ v := Value.iface 61 (.int .i64 n), recovered := true }]) = FrameMode.returning from rfl]
    simp only [Leaves, results, Tryd.results15]
    exact ⟨.int .i64 n, by simp [go_sem, c1], .inr ⟨n, w1, rfl, hS, hK, rfl⟩⟩

end Go.Proofs.YthiagmhijebbgaaDoor

/- Walks of the reader: passBlank, next, escaped. -/
namespace Go.Proofs.YthiagmhijebbgaaDoor
open Go.RowKit

theorem enters44 (args : Array Value) (w : World) : (callFunc 44 args).run Tryd.prog w = .ok (.enter 44 args) w := by kernel_rfl
theorem enters45 (args : Array Value) (w : World) : (callFunc 45 args).run Tryd.prog w = .ok (.enter 45 args) w := by kernel_rfl
theorem enters59 (args : Array Value) (w : World) : (callFunc 59 args).run Tryd.prog w = .ok (.enter 59 args) w := by kernel_rfl
theorem enters48 (args : Array Value) (w : World) : (callFunc 48 args).run Tryd.prog w = .ok (.enter 48 args) w := by kernel_rfl
theorem enters49 (args : Array Value) (w : World) : (callFunc 49 args).run Tryd.prog w = .ok (.enter 49 args) w := by kernel_rfl

set_option maxHeartbeats 800000 in
theorem passBlank_any (w : World) (b k : Nat) (s : ByteArray) (v : Value) (h : Rdr w b s k v) (hk : k ≤ s.size) (hs : s.size ≤ 2000) :
    Calls Tryd.prog 33 #[.pointer (some ⟨b, 0, none⟩)] w fun e w' =>
      e = .returned (.tuple #[]) ∧ Rdr w' b s (blank s k) v ∧ Kept (· = b) w w' := by
  go_enter Tryd.func33, Tryd.ntmps33
  go_wp2_with fail
  go_loopg [] (s.size - k) (fun g wr => ∃ j : Nat, j + g = s.size ∧ k ≤ j ∧ Rdr wr b s j v ∧ Kept (· = b) w wr ∧ blank s k = blank s j)
  case atStart => exact ⟨k, by omega, Nat.le_refl _, h, Kept.refl _ _, rfl⟩
  case round =>
    obtain ⟨j, hj, hkj, hR, hK, hbl⟩ := hrel
    have HB : Hid (blank s k = blank s j) := hbl
    clear hbl
    have hle := run_le wh s j (by omega)
    go_wp2_with fail
    refine (pass_any 44 wh enters44 blank1_any _ b j s v hR (by omega) hs).mono ?_
    rintro e w1 ⟨rfl, hR1, hK1⟩
    have HW := hide (blank_white s j)
    have hstop := hide (@run_at wh s j)
    have hjj : j ≤ j + run wh s j := Nat.le_add_right _ _
    generalize j + run wh s j = j1 at *
    have hK2 : Kept (· = b) w w1 := hK.trans hK1 (fun _ _ h => h)
    clear hK1 hR hK
    have c0 := hR1.c0
    have c1 := hR1.c1
    by_cases hlt : j1 < s.size
    · have he : ((j1 : Int) == (s.size : Int)) = false := by simp; omega
      by_cases hc : s[j1].toNat = 35
      · have hc' : (((s[j1].toNat : Nat) : Int) != 35) = false := by simp; omega
        have HC : Hid (s[j1].toNat = 35) := hc
        clear hc
        go_wp2_with fail
        go_quiet ((go_at_call 34; refine Calls.quiet_of (ended_any _ b j1 s v _ he ?_); exact hR1))
        go_wp2_with fail
        refine (pass_any 45 nn enters45 blank2_any _ b j1 s v (by exact hR1) (by omega) hs).mono ?_
        rintro e w2 ⟨rfl, hR2, hK3⟩
        have hpos : 0 < run nn s j1 := by rw [run_step hlt (by simp [nn, HC.out])]; omega
        have hle2 := run_le nn s j1 (by omega)
        go_wp2_with fail
        go_roundg (s.size - (j1 + run nn s j1))
        case measure => omega
        case rel => exact ⟨j1 + run nn s j1, by omega, by omega, hR2, (hK2.drewN _).trans hK3 (fun _ _ h => h), by rw [HB.out, HW.out]; exact blank_hash hlt HC.out⟩
      · have hc' : (((s[j1].toNat : Nat) : Int) != 35) = true := by simp; omega
        have HC : Hid (¬ s[j1].toNat = 35) := hc
        clear hc
        go_wp2_with fail
        go_quiet ((go_at_call 34; refine Calls.quiet_of (ended_any _ b j1 s v _ he ?_); exact hR1))
        go_wp2_with fail
        first | go_end0 | refine bodyPost_ret (results_none rfl _ _ _) rfl ?_
        exact ⟨rfl, by rw [HB.out, HW.out, blank_stop hlt (hstop.out hlt) HC.out]; exact hR1, hK2.drewN _⟩
    · have he : ((j1 : Int) == (s.size : Int)) = true := by simp; omega
      go_wp2_with fail
      go_quiet ((go_at_call 34; refine Calls.quiet_of (ended_any _ b j1 s v _ he ?_); exact hR1))
      go_wp2_with fail
      first | go_end0 | refine bodyPost_ret (results_none rfl _ _ _) rfl ?_
      exact ⟨rfl, by rw [HB.out, HW.out, blank_end (by omega)]; exact hR1, hK2.drewN _⟩


theorem next_any (w : World) (b k : Nat) (s : ByteArray) (v : Value) (h : Rdr w b s k v) (hk : k < s.size) (hs : s.size ≤ 2000) :
    Calls Tryd.prog 60 #[.pointer (some ⟨b, 0, none⟩)] w fun e w' =>
      e = .returned (.int .u8 s[k].toNat) ∧ Rdr w' b s (k + 1) v ∧ Kept (· = b) w w' := by
  have c0 := h.c0
  have c1 := h.c1
  have f1 := h.f 1
  have he : ((k : Int) == (s.size : Int)) = false := by simp; omega
  go_enter Tryd.func60, Tryd.ntmps60
  go_wp2_with ((go_at_call 34; refine (ended_any _ b k s v _ he (by exact h)).mono ?_; rintro e w1 ⟨rfl, n1, rfl⟩))
  go_quiet (fail)
  go_wp2
  go_ret
  exact ⟨rfl, h.set (k + 1), (by repeat' (first | assumption | exact Kept.refl _ _ | refine Kept.drewN ?_ _ | refine Kept.drew ?_ | refine Kept.alloc ?_ _ | refine Kept.setB ?_ _ _))⟩

theorem next_end (w : World) (b k : Nat) (s : ByteArray) (v : Value) (h : Rdr w b s k v) (hk : k = s.size) :
    Calls Tryd.prog 60 #[.pointer (some ⟨b, 0, none⟩)] w fun e w' => e = fault 1 ∧ Kept (· = b) w w' := by
  have he : ((k : Int) == (s.size : Int)) = true := by simp; omega
  clear hk
  go_enter Tryd.func60, Tryd.ntmps60
  go_wp2_with ((go_at_call 34; refine (ended_any _ b k s v _ he (by exact h)).mono ?_; rintro e w1 ⟨rfl, n1, rfl⟩))
  exact ⟨rfl, rfl, (by repeat' (first | assumption | exact Kept.refl _ _ | refine Kept.drewN ?_ _ | refine Kept.drew ?_ | refine Kept.alloc ?_ _ | refine Kept.setB ?_ _ _))⟩

end Go.Proofs.YthiagmhijebbgaaDoor
