/- Walks of the reader: passBlank, next, escaped. -/
import Derived.Test.YthiagmhijebbgaaGreatDoorQuerytellsupto03
namespace Go.Proofs.YthiagmhijebbgaaGreatDoor
open Go.RowKit

theorem enters44 (args : Array Value) (w : World) : (callFunc 80 args).run Tryz.prog w = .ok (.enter 80 args) w := by kernel_rfl
theorem enters45 (args : Array Value) (w : World) : (callFunc 81 args).run Tryz.prog w = .ok (.enter 81 args) w := by kernel_rfl
theorem enters59 (args : Array Value) (w : World) : (callFunc 103 args).run Tryz.prog w = .ok (.enter 103 args) w := by kernel_rfl
theorem enters48 (args : Array Value) (w : World) : (callFunc 84 args).run Tryz.prog w = .ok (.enter 84 args) w := by kernel_rfl
theorem enters49 (args : Array Value) (w : World) : (callFunc 85 args).run Tryz.prog w = .ok (.enter 85 args) w := by kernel_rfl

set_option maxHeartbeats 800000 in
theorem passBlank_any (w : World) (b k : Nat) (s : ByteArray) (v : Value) (h : Rdr w b s k v) (hk : k ≤ s.size) (hs : s.size ≤ 2000) :
    Calls Tryz.prog 59 #[.pointer (some ⟨b, 0, none⟩)] w fun e w' =>
      e = .returned (.tuple #[]) ∧ Rdr w' b s (blank s k) v ∧ Kept (· = b) w w' := by
  go_enter Tryz.func59, Tryz.ntmps59
  go_wp2_with fail
  go_loopg [] (s.size - k) (fun g wr => ∃ j : Nat, j + g = s.size ∧ k ≤ j ∧ Rdr wr b s j v ∧ Kept (· = b) w wr ∧ blank s k = blank s j)
  case atStart => exact ⟨k, by omega, Nat.le_refl _, h, Kept.refl _ _, rfl⟩
  case round =>
    obtain ⟨j, hj, hkj, hR, hK, hbl⟩ := hrel
    have HB : Hid (blank s k = blank s j) := hbl
    clear hbl
    have hle := run_le wh s j (by omega)
    go_wp2_with fail
    refine (pass_any 80 wh enters44 blank1_any _ b j s v hR (by omega) hs).mono ?_
    rintro e w1 ⟨rfl, hR1, hK1⟩
    have HW := hide (blank_white s j)
    have hstop := hide (@run_at wh s j)
    have hjj : j ≤ j + run wh s j := Nat.le_add_right _ _
    generalize j + run wh s j = j1 at *
    have hK2 : Kept (· = b) w w1 := hK.trans hK1 (fun _ _ h => h)
    clear hK1 hR hK
    have c0 := hR1.c0
    have c1 := hR1.c1
    by_cases hlt : j1 < s.size
    · have he : ((j1 : Int) == (s.size : Int)) = false := by simp; omega
      by_cases hc : s[j1].toNat = 35
      · have hc' : (((s[j1].toNat : Nat) : Int) != 35) = false := by simp; omega
        have HC : Hid (s[j1].toNat = 35) := hc
        clear hc
        go_wp2_with fail
        go_quiet ((go_at_call 60; refine Calls.quiet_of (ended_any _ b j1 s v _ he ?_); exact hR1))
        go_wp2_with fail
        refine (pass_any 81 nn enters45 blank2_any _ b j1 s v (by exact hR1) (by omega) hs).mono ?_
        rintro e w2 ⟨rfl, hR2, hK3⟩
        have hpos : 0 < run nn s j1 := by rw [run_step hlt (by simp [nn, HC.out])]; omega
        have hle2 := run_le nn s j1 (by omega)
        go_wp2_with fail
        go_roundg (s.size - (j1 + run nn s j1))
        case measure => omega
        case rel => exact ⟨j1 + run nn s j1, by omega, by omega, hR2, (hK2.drewN _).trans hK3 (fun _ _ h => h), by rw [HB.out, HW.out]; exact blank_hash hlt HC.out⟩
      · have hc' : (((s[j1].toNat : Nat) : Int) != 35) = true := by simp; omega
        have HC : Hid (¬ s[j1].toNat = 35) := hc
        clear hc
        go_wp2_with fail
        go_quiet ((go_at_call 60; refine Calls.quiet_of (ended_any _ b j1 s v _ he ?_); exact hR1))
        go_wp2_with fail
        first | go_end0 | refine bodyPost_ret (results_none rfl _ _ _) rfl ?_
        exact ⟨rfl, by rw [HB.out, HW.out, blank_stop hlt (hstop.out hlt) HC.out]; exact hR1, hK2.drewN _⟩
    · have he : ((j1 : Int) == (s.size : Int)) = true := by simp; omega
      go_wp2_with fail
      go_quiet ((go_at_call 60; refine Calls.quiet_of (ended_any _ b j1 s v _ he ?_); exact hR1))
      go_wp2_with fail
      first | go_end0 | refine bodyPost_ret (results_none rfl _ _ _) rfl ?_
      exact ⟨rfl, by rw [HB.out, HW.out, blank_end (by omega)]; exact hR1, hK2.drewN _⟩


theorem next_any (w : World) (b k : Nat) (s : ByteArray) (v : Value) (h : Rdr w b s k v) (hk : k < s.size) (hs : s.size ≤ 2000) :
    Calls Tryz.prog 104 #[.pointer (some ⟨b, 0, none⟩)] w fun e w' =>
      e = .returned (.int .u8 s[k].toNat) ∧ Rdr w' b s (k + 1) v ∧ Kept (· = b) w w' := by
  have c0 := h.c0
  have c1 := h.c1
  have f1 := h.f 1
  have he : ((k : Int) == (s.size : Int)) = false := by simp; omega
  go_enter Tryz.func104, Tryz.ntmps104
  go_wp2_with ((go_at_call 60; refine (ended_any _ b k s v _ he (by exact h)).mono ?_; rintro e w1 ⟨rfl, n1, rfl⟩))
  go_quiet (fail)
  go_wp2
  go_ret
  exact ⟨rfl, h.set (k + 1), (by repeat' (first | assumption | exact Kept.refl _ _ | refine Kept.drewN ?_ _ | refine Kept.drew ?_ | refine Kept.alloc ?_ _ | refine Kept.setB ?_ _ _))⟩

theorem next_end (w : World) (b k : Nat) (s : ByteArray) (v : Value) (h : Rdr w b s k v) (hk : k = s.size) :
    Calls Tryz.prog 104 #[.pointer (some ⟨b, 0, none⟩)] w fun e w' => e = fault 1 ∧ Kept (· = b) w w' := by
  have he : ((k : Int) == (s.size : Int)) = true := by simp; omega
  clear hk
  go_enter Tryz.func104, Tryz.ntmps104
  go_wp2_with ((go_at_call 60; refine (ended_any _ b k s v _ he (by exact h)).mono ?_; rintro e w1 ⟨rfl, n1, rfl⟩))
  exact ⟨rfl, rfl, (by repeat' (first | assumption | exact Kept.refl _ _ | refine Kept.drewN ?_ _ | refine Kept.drew ?_ | refine Kept.alloc ?_ _ | refine Kept.setB ?_ _ _))⟩

end Go.Proofs.YthiagmhijebbgaaGreatDoor
