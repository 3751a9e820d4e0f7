import Derived.Test.YthiagmhijebbgabGreatDoorChecked
import Derived.Test.YthiagmhijebbgabGreatDoorSchematells07
import Derived.Defers
import Derived.Recover
import Derived.Test.YthiagmhijebbgabGreatDoorSchematells08
/- parse.Caught: what is panicked with is answered. -/
namespace Go.Proofs.YthiagmhijebbgabGreatDoor
open Go.RowKit

/-- what is panicked with -/
abbrev fault (n : Int) : Ending := .panicked [{ v := .iface 106 (.int .i64 n), recovered := false }]

theorem catch_fault (p : Addr) (x n : Int) (older : List PanicEntry) (w : World) (hc : w.cell? p = some (.int .i64 x)) (hz : w.frozen? p = false) :
    CallsD Tryz.prog 62 #[.pointer (some p)] (.panicking ({ v := .iface 106 (.int .i64 n), recovered := false } :: older)) w fun e u' w' =>
      e = .returned (.tuple #[]) ∧ u' = .panicking ({ v := .iface 106 (.int .i64 n), recovered := true } :: older) ∧ w' = w.setCell p (.int .i64 n) := by
  have hta : ∀ w, (Instr.typeAssert (.iface 106 (.int .i64 n)) 20 106 true).run Tryz.prog w = .ok (.tuple #[.int .i64 n, .bool true]) w := fun _ => by kernel_rfl
  refine callsD_of_wpS Tryz.func62 rfl fun c₀ cs hu => ?_
  apply wpS_seq
  apply wpS_region
  simp [wpOpsS, go_sem, recoverD, hu, Tryz.ntmps62, Exit.thenS]
  refine wpS_of_wp ?_
  rw [show (#[Value.pointer (some p)] ++ ((Array.replicate 15 undef).setIfInBounds 3 (Value.iface 106 (.int .i64 n))).setIfInBounds 0 (Value.iface 106 (.int .i64 n))) = #[.pointer (some p), .iface 106 (.int .i64 n), undef, undef, .iface 106 (.int .i64 n), undef, undef, undef, undef, undef, undef, undef, undef, undef, undef, undef] from rfl]
  go_wp2_with fail
  simp [bodyPostS, results, Tryz.results62]


theorem catch_idle (p : Addr) (w : World) :
    CallsD Tryz.prog 62 #[.pointer (some p)] .returning w fun e u' w' => e = .returned (.tuple #[]) ∧ u' = .returning ∧ w' = w := by
  refine callsD_of_wpS Tryz.func62 rfl fun c₀ cs hu => ?_
  apply wpS_seq
  apply wpS_region
  simp [wpOpsS, go_sem, recoverD, hu, Tryz.ntmps62, Exit.thenS]
  refine wpS_of_wp ?_
  rw [show (#[Value.pointer (some p)] ++ ((Array.replicate 15 undef).setIfInBounds 3 Value.nilIface).setIfInBounds 0 Value.nilIface) = #[.pointer (some p), .nilIface, undef, undef, .nilIface, undef, undef, undef, undef, undef, undef, undef, undef, undef, undef, undef] from rfl]
  go_wp2_with fail
  cases c₀
  simp_all [bodyPostS, results, Tryz.results62]

/-- Caught, of a method value: what it gave up with, or 0. -/
theorem caught_method (f : FuncId) (x : Value) (w : World) (X : Nat → Prop) (hX : ∀ i, X i → i < w.heap.size) (R : World → Prop) (S : Int → World → Prop)
    (hcf : ∀ (args : Array Value) (w : World), (callFunc f args).run Tryz.prog w = .ok (.enter f args) w)
    (hW : Hid (Calls Tryz.prog f #[x] (w.alloc (.cells #[.int .i64 0] 24)) fun e w' =>
      (e = .returned (.tuple #[]) ∧ R w' ∧ Kept X (w.alloc (.cells #[.int .i64 0] 24)) w') ∨ (∃ n, e = fault n ∧ S n w' ∧ Kept X (w.alloc (.cells #[.int .i64 0] 24)) w'))) :
    Calls Tryz.prog 30 #[.func (.func f) #[x] #[]] w fun e w' =>
      (∃ w1, e = .returned (.int .i64 0) ∧ R w1 ∧ Kept X (w.alloc (.cells #[.int .i64 0] 24)) w1 ∧ w' = w1.setCell ⟨w.heap.size, 0, none⟩ (.int .i64 0))
      ∨ (∃ n w1, e = .returned (.int .i64 n) ∧ S n w1 ∧ Kept X (w.alloc (.cells #[.int .i64 0] 24)) w1 ∧ w' = w1.setCell ⟨w.heap.size, 0, none⟩ (.int .i64 n)) := by
  have hmf : ∀ (fn : Fn) (first cap : Array Value) (w : World), (Instr.makeFunc fn first cap).run Tryz.prog w = .ok (.func fn first cap) w := fun _ _ _ _ => rfl
  go_enter_defers Tryz.func30, Tryz.ntmps30
  go_wp2_with fail
  refine hW.out.mono ?_
  rintro e w1 (⟨rfl, hR, hK⟩ | ⟨n, rfl, hS, hK⟩)
  · have hg := new_kept (w := w) hK (fun h => Nat.lt_irrefl _ (hX _ h))
    have c0 : w1.cell? ⟨w.heap.size, 0, none⟩ = some (.int .i64 0) := by simp [World.cell?, hg]
    have f0 : w1.frozen? ⟨w.heap.size, 0, none⟩ = false := by simp [World.frozen?, hg]
    go_wp2_with fail
    refine leaves_cons (f := 62) (args := #[.pointer (some ⟨w.heap.size, 0, none⟩)]) (by simp) (by simp [go_sem]) ?_
    refine (catch_idle ⟨w.heap.size, 0, none⟩ _).mono ?_
    rintro e u' w'' ⟨rfl, rfl, rfl⟩
    have c1 := World.cell?_setCell_same w1 ⟨w.heap.size, 0, none⟩ (.int .i64 0) c0
    simp only [Leaves, settle, results, Tryz.results30]
    exact ⟨.int .i64 0, by simp [go_sem, c1], .inl ⟨w1, rfl, hR, hK, rfl⟩⟩
  · have hg := new_kept (w := w) hK (fun h => Nat.lt_irrefl _ (hX _ h))
    have c0 : w1.cell? ⟨w.heap.size, 0, none⟩ = some (.int .i64 0) := by simp [World.cell?, hg]
    have f0 : w1.frozen? ⟨w.heap.size, 0, none⟩ = false := by simp [World.frozen?, hg]
    go_wp2_with fail
    refine leaves_cons (f := 62) (args := #[.pointer (some ⟨w.heap.size, 0, none⟩)]) (by simp) (by simp [go_sem]) ?_
    refine (catch_fault ⟨w.heap.size, 0, none⟩ 0 n [] _ c0 f0).mono ?_
    rintro e u' w'' ⟨rfl, rfl, rfl⟩
    have c1 := World.cell?_setCell_same w1 ⟨w.heap.size, 0, none⟩ (.int .i64 n) c0
    simp only []
    rw [show settle (FrameMode.panicking [{ v := Value.iface 106 (.int .i64 n), recovered := true }]) = FrameMode.returning from rfl]
    simp only [Leaves, results, Tryz.results30]
    exact ⟨.int .i64 n, by simp [go_sem, c1], .inr ⟨n, w1, rfl, hS, hK, rfl⟩⟩

end Go.Proofs.YthiagmhijebbgabGreatDoor

/- Walks of the reader: passBlank, next, escaped. -/
namespace Go.Proofs.YthiagmhijebbgabGreatDoor
open Go.RowKit

theorem enters44 (args : Array Value) (w : World) : (callFunc 108 args).run Tryz.prog w = .ok (.enter 108 args) w := by kernel_rfl
theorem enters45 (args : Array Value) (w : World) : (callFunc 109 args).run Tryz.prog w = .ok (.enter 109 args) w := by kernel_rfl
theorem enters59 (args : Array Value) (w : World) : (callFunc 131 args).run Tryz.prog w = .ok (.enter 131 args) w := by kernel_rfl
theorem enters48 (args : Array Value) (w : World) : (callFunc 112 args).run Tryz.prog w = .ok (.enter 112 args) w := by kernel_rfl
theorem enters49 (args : Array Value) (w : World) : (callFunc 113 args).run Tryz.prog w = .ok (.enter 113 args) w := by kernel_rfl

set_option maxHeartbeats 800000 in
theorem passBlank_any (w : World) (b k : Nat) (s : ByteArray) (v : Value) (h : Rdr w b s k v) (hk : k ≤ s.size) (hs : s.size ≤ 2000) :
    Calls Tryz.prog 83 #[.pointer (some ⟨b, 0, none⟩)] w fun e w' =>
      e = .returned (.tuple #[]) ∧ Rdr w' b s (blank s k) v ∧ Kept (· = b) w w' := by
  go_enter Tryz.func83, Tryz.ntmps83
  go_wp2_with fail
  go_loopg [] (s.size - k) (fun g wr => ∃ j : Nat, j + g = s.size ∧ k ≤ j ∧ Rdr wr b s j v ∧ Kept (· = b) w wr ∧ blank s k = blank s j)
  case atStart => exact ⟨k, by omega, Nat.le_refl _, h, Kept.refl _ _, rfl⟩
  case round =>
    obtain ⟨j, hj, hkj, hR, hK, hbl⟩ := hrel
    have HB : Hid (blank s k = blank s j) := hbl
    clear hbl
    have hle := run_le wh s j (by omega)
    go_wp2_with fail
    refine (pass_any 108 wh enters44 blank1_any _ b j s v hR (by omega) hs).mono ?_
    rintro e w1 ⟨rfl, hR1, hK1⟩
    have HW := hide (blank_white s j)
    have hstop := hide (@run_at wh s j)
    have hjj : j ≤ j + run wh s j := Nat.le_add_right _ _
    generalize j + run wh s j = j1 at *
    have hK2 : Kept (· = b) w w1 := hK.trans hK1 (fun _ _ h => h)
    clear hK1 hR hK
    have c0 := hR1.c0
    have c1 := hR1.c1
    by_cases hlt : j1 < s.size
    · have he : ((j1 : Int) == (s.size : Int)) = false := by simp; omega
      by_cases hc : s[j1].toNat = 35
      · have hc' : (((s[j1].toNat : Nat) : Int) != 35) = false := by simp; omega
        have HC : Hid (s[j1].toNat = 35) := hc
        clear hc
        go_wp2_with fail
        go_quiet ((go_at_call 84; refine Calls.quiet_of (ended_any _ b j1 s v _ he ?_); exact hR1))
        go_wp2_with fail
        refine (pass_any 109 nn enters45 blank2_any _ b j1 s v (by exact hR1) (by omega) hs).mono ?_
        rintro e w2 ⟨rfl, hR2, hK3⟩
        have hpos : 0 < run nn s j1 := by rw [run_step hlt (by simp [nn, HC.out])]; omega
        have hle2 := run_le nn s j1 (by omega)
        go_wp2_with fail
        go_roundg (s.size - (j1 + run nn s j1))
        case measure => omega
        case rel => exact ⟨j1 + run nn s j1, by omega, by omega, hR2, (hK2.drewN _).trans hK3 (fun _ _ h => h), by rw [HB.out, HW.out]; exact blank_hash hlt HC.out⟩
      · have hc' : (((s[j1].toNat : Nat) : Int) != 35) = true := by simp; omega
        have HC : Hid (¬ s[j1].toNat = 35) := hc
        clear hc
        go_wp2_with fail
        go_quiet ((go_at_call 84; refine Calls.quiet_of (ended_any _ b j1 s v _ he ?_); exact hR1))
        go_wp2_with fail
        first | go_end0 | refine bodyPost_ret (results_none rfl _ _ _) rfl ?_
        exact ⟨rfl, by rw [HB.out, HW.out, blank_stop hlt (hstop.out hlt) HC.out]; exact hR1, hK2.drewN _⟩
    · have he : ((j1 : Int) == (s.size : Int)) = true := by simp; omega
      go_wp2_with fail
      go_quiet ((go_at_call 84; refine Calls.quiet_of (ended_any _ b j1 s v _ he ?_); exact hR1))
      go_wp2_with fail
      first | go_end0 | refine bodyPost_ret (results_none rfl _ _ _) rfl ?_
      exact ⟨rfl, by rw [HB.out, HW.out, blank_end (by omega)]; exact hR1, hK2.drewN _⟩


theorem next_any (w : World) (b k : Nat) (s : ByteArray) (v : Value) (h : Rdr w b s k v) (hk : k < s.size) (hs : s.size ≤ 2000) :
    Calls Tryz.prog 132 #[.pointer (some ⟨b, 0, none⟩)] w fun e w' =>
      e = .returned (.int .u8 s[k].toNat) ∧ Rdr w' b s (k + 1) v ∧ Kept (· = b) w w' := by
  have c0 := h.c0
  have c1 := h.c1
  have f1 := h.f 1
  have he : ((k : Int) == (s.size : Int)) = false := by simp; omega
  go_enter Tryz.func132, Tryz.ntmps132
  go_wp2_with ((go_at_call 84; refine (ended_any _ b k s v _ he (by exact h)).mono ?_; rintro e w1 ⟨rfl, n1, rfl⟩))
  go_quiet (fail)
  go_wp2
  go_ret
  exact ⟨rfl, h.set (k + 1), (by repeat' (first | assumption | exact Kept.refl _ _ | refine Kept.drewN ?_ _ | refine Kept.drew ?_ | refine Kept.alloc ?_ _ | refine Kept.setB ?_ _ _))⟩

theorem next_end (w : World) (b k : Nat) (s : ByteArray) (v : Value) (h : Rdr w b s k v) (hk : k = s.size) :
    Calls Tryz.prog 132 #[.pointer (some ⟨b, 0, none⟩)] w fun e w' => e = fault 1 ∧ Kept (· = b) w w' := by
  have he : ((k : Int) == (s.size : Int)) = true := by simp; omega
  clear hk
  go_enter Tryz.func132, Tryz.ntmps132
  go_wp2_with ((go_at_call 84; refine (ended_any _ b k s v _ he (by exact h)).mono ?_; rintro e w1 ⟨rfl, n1, rfl⟩))
  exact ⟨rfl, rfl, (by repeat' (first | assumption | exact Kept.refl _ _ | refine Kept.drewN ?_ _ | refine Kept.drew ?_ | refine Kept.alloc ?_ _ | refine Kept.setB ?_ _ _))⟩

end Go.Proofs.YthiagmhijebbgabGreatDoor
