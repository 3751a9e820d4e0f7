import Derived.Test.YtkkjchfhgjfclabGreatDoorChecked
import Derived.Test.YtkkjchfhgjfclabGreatDoorSchematells07
import Derived.Defers
import Derived.Recover
/- parse.Caught: what is panicked with is answered. -/
namespace Go.Proofs.YtkkjchfhgjfclabGreatDoor
open Go.RowKit

/-- what is panicked with -/
abbrev fault (n : Int) : Ending := .panicked [{ v := .iface 108 (.int .i64 n), recovered := false }]

theorem catch_fault (p : Addr) (x n : Int) (older : List PanicEntry) (w : World) (hc : w.cell? p = some (.int .i64 x)) (hz : w.frozen? p = false) :
    CallsD Tryz.prog 63 #[.pointer (some p)] (.panicking ({ v := .iface 108 (.int .i64 n), recovered := false } :: older)) w fun e u' w' =>
      e = .returned (.tuple #[]) ∧ u' = .panicking ({ v := .iface 108 (.int .i64 n), recovered := true } :: older) ∧ w' = w.setCell p (.int .i64 n) := by
  have hta : ∀ w, (Instr.typeAssert (.iface 108 (.int .i64 n)) 20 108 true).run Tryz.prog w = .ok (.tuple #[.int .i64 n, .bool true]) w := fun _ => by kernel_rfl
  refine callsD_of_wpS Tryz.func63 rfl fun c₀ cs hu => ?_
  apply wpS_seq
  apply wpS_region
  simp [wpOpsS, go_sem, recoverD, hu, Tryz.ntmps63, Exit.thenS]
  refine wpS_of_wp ?_
  rw [show (#[Value.pointer (some p)] ++ ((Array.replicate 15 undef).setIfInBounds 3 (Value.iface 108 (.int .i64 n))).setIfInBounds 0 (Value.iface 108 (.int .i64 n))) = #[.pointer (some p), .iface 108 (.int .i64 n), undef, undef, .iface 108 (.int .i64 n), undef, undef, undef, undef, undef, undef, undef, undef, undef, undef, undef] from rfl]
  go_wp2_with fail
  simp [bodyPostS, results, Tryz.results63]


theorem catch_idle (p : Addr) (w : World) :
    CallsD Tryz.prog 63 #[.pointer (some p)] .returning w fun e u' w' => e = .returned (.tuple #[]) ∧ u' = .returning ∧ w' = w := by
  refine callsD_of_wpS Tryz.func63 rfl fun c₀ cs hu => ?_
  apply wpS_seq
  apply wpS_region
  simp [wpOpsS, go_sem, recoverD, hu, Tryz.ntmps63, Exit.thenS]
  refine wpS_of_wp ?_
  rw [show (#[Value.pointer (some p)] ++ ((Array.replicate 15 undef).setIfInBounds 3 Value.nilIface).setIfInBounds 0 Value.nilIface) = #[.pointer (some p), .nilIface, undef, undef, .nilIface, undef, undef, undef, undef, undef, undef, undef, undef, undef, undef, undef] from rfl]
  go_wp2_with fail
  cases c₀
  simp_all [bodyPostS, results, Tryz.results63]

/-- Caught, of a method value: what it gave up with, or 0. -/
theorem caught_method (f : FuncId) (x : Value) (w : World) (X : Nat → Prop) (hX : ∀ i, X i → i < w.heap.size) (R : World → Prop) (S : Int → World → Prop)
    (hcf : ∀ (args : Array Value) (w : World), (callFunc f args).run Tryz.prog w = .ok (.enter f args) w)
    (hW : Hid (Calls Tryz.prog f #[x] (w.alloc (.cells #[.int .i64 0] 24)) fun e w' =>
      (e = .returned (.tuple #[]) ∧ R w' ∧ Kept X (w.alloc (.cells #[.int .i64 0] 24)) w') ∨ (∃ n, e = fault n ∧ S n w' ∧ Kept X (w.alloc (.cells #[.int .i64 0] 24)) w'))) :
    Calls Tryz.prog 30 #[.func (.func f) #[x] #[]] w fun e w' =>
      (∃ w1, e = .returned (.int .i64 0) ∧ R w1 ∧ Kept X (w.alloc (.cells #[.int .i64 0] 24)) w1 ∧ w' = w1.setCell ⟨w.heap.size, 0, none⟩ (.int .i64 0))
      ∨ (∃ n w1, e = .returned (.int .i64 n) ∧ S n w1 ∧ Kept X (w.alloc (.cells #[.int .i64 0] 24)) w1 ∧ w' = w1.setCell ⟨w.heap.size, 0, none⟩ (.int .i64 n)) := by
  have hmf : ∀ (fn : Fn) (first cap : Array Value) (w : World), (Instr.makeFunc fn first cap).run Tryz.prog w = .ok (.func fn first cap) w := fun _ _ _ _ => rfl
  go_enter_defers Tryz.func30, Tryz.ntmps30
  go_wp2_with fail
  refine hW.out.mono ?_
  rintro e w1 (⟨rfl, hR, hK⟩ | ⟨n, rfl, hS, hK⟩)
  · have hg := new_kept (w := w) hK (fun h => Nat.lt_irrefl _ (hX _ h))
    have c0 : w1.cell? ⟨w.heap.size, 0, none⟩ = some (.int .i64 0) := by simp [World.cell?, hg]
    have f0 : w1.frozen? ⟨w.heap.size, 0, none⟩ = false := by simp [World.frozen?, hg]
    go_wp2_with fail
    refine leaves_cons (f := 63) (args := #[.pointer (some ⟨w.heap.size, 0, none⟩)]) (by simp) (by simp [go_sem]) ?_
    refine (catch_idle ⟨w.heap.size, 0, none⟩ _).mono ?_
    rintro e u' w'' ⟨rfl, rfl, rfl⟩
    have c1 := World.cell?_setCell_same w1 ⟨w.heap.size, 0, none⟩ (.int .i64 0) c0
    simp only [Leaves, settle, results, Tryz.results30]
    exact ⟨.int .i64 0, by simp [go_sem, c1], .inl ⟨w1, rfl, hR, hK, rfl⟩⟩
  · have hg := new_kept (w := w) hK (fun h => Nat.lt_irrefl _ (hX _ h))
    have c0 : w1.cell? ⟨w.heap.size, 0, none⟩ = some (.int .i64 0) := by simp [World.cell?, hg]
    have f0 : w1.frozen? ⟨w.heap.size, 0, none⟩ = false := by simp [World.frozen?, hg]
    go_wp2_with fail
    refine leaves_cons (f := 63) (args := #[.pointer (some ⟨w.heap.size, 0, none⟩)]) (by simp) (by simp [go_sem]) ?_
    refine (catch_fault ⟨w.heap.size, 0, none⟩ 0 n [] _ c0 f0).mono ?_
    rintro e u' w'' ⟨rfl, rfl, rfl⟩
    have c1 := World.cell?_setCell_same w1 ⟨w.heap.size, 0, none⟩ (.int .i64 n) c0
    simp only []
    rw [show settle (FrameMode.panicking [{ v := Value.iface 108 (.int .i64 n), recovered := true }]) = FrameMode.returning from rfl]
    simp only [Leaves, results, Tryz.results30]
    exact ⟨.int .i64 n, by simp [go_sem, c1], .inr ⟨n, w1, rfl, hS, hK, rfl⟩⟩

end Go.Proofs.YtkkjchfhgjfclabGreatDoor

/- parse.Text: Ended, Peek, Next, Pass. -/
namespace Go.Proofs.YtkkjchfhgjfclabGreatDoor
open Go.RowKit

/-- A text lies in block b: what is left of it. -/
def Txt (w : World) (b : Nat) (l : List UInt8) : Prop := w.heap[b]? = some (.cells #[.string ⟨l.toArray⟩] 127 (0, 0))

theorem Txt.c0 {w : World} {b : Nat} {l : List UInt8} (h : Txt w b l) : w.cell? ⟨b, 0, none⟩ = some (.string ⟨l.toArray⟩) := by
  unfold Txt at h; simp [World.cell?, h]
theorem Txt.f {w : World} {b : Nat} {l : List UInt8} (h : Txt w b l) (o : Nat) : w.frozen? ⟨b, o, none⟩ = false := by
  unfold Txt at h; simp [World.frozen?, h]
theorem Txt.lt {w : World} {b : Nat} {l : List UInt8} (h : Txt w b l) : b < w.heap.size := World.block_lt_of_cell? w _ h.c0
theorem Txt.set {w : World} {b : Nat} {l : List UInt8} (h : Txt w b l) (m : List UInt8) : Txt (w.setCell ⟨b, 0, none⟩ (.string ⟨m.toArray⟩)) b m := by
  unfold Txt at *
  simp [World.setCell, Array.getElem?_modify, h]
theorem Txt.keep {w w' : World} {b : Nat} {l : List UInt8} (h : Txt w b l) {X : Nat → Prop} (hk : Kept X w w') (hX : ¬ X b) : Txt w' b l := by
  have hb := h.lt
  unfold Txt at *
  rw [hk.block b hb hX]; exact h
theorem Txt.al {w : World} {b : Nat} {l : List UInt8} (h : Txt w b l) (o : Obj) : Txt (w.alloc o) b l := h.keep (X := fun _ => False) ((Kept.refl _ w).alloc o) (fun f => f)

theorem bytes_size (l : List UInt8) : (⟨l.toArray⟩ : ByteArray).size = l.length := by simp [ByteArray.size]
theorem bytes_extract (l : List UInt8) (i j : Nat) : (⟨l.toArray⟩ : ByteArray).extract i j = ⟨((l.drop i).take (j - i)).toArray⟩ := by
  apply ByteArray.ext
  apply Array.ext'
  rw [ByteArray.data_extract, Array.toList_extract, List.extract_eq_take_drop]

theorem tEnded (w : World) (b : Nat) (l : List UInt8) (h : Txt w b l) :
    Calls Tryz.prog 85 #[.pointer (some ⟨b, 0, none⟩)] w fun e w' => e = .returned (.bool l.isEmpty) ∧ w' = w := by
  have c0 := h.c0
  cases l with
  | nil =>
    go_enter Tryz.func85, Tryz.ntmps85
    go_wp2
    go_ret
    exact ⟨rfl, rfl⟩
  | cons c r =>
    have he : (⟨(c :: r).toArray⟩ : ByteArray).toList.isEmpty = false := by rw [ByteArray.toList_eq]; simp
    go_enter Tryz.func85, Tryz.ntmps85
    go_wp2
    go_ret
    exact ⟨rfl, rfl⟩

theorem tPeek (w : World) (b : Nat) (c : UInt8) (r : List UInt8) (h : Txt w b (c :: r)) :
    Calls Tryz.prog 112 #[.pointer (some ⟨b, 0, none⟩)] w fun e w' => e = .returned (.int .u8 c.toNat) ∧ w' = w := by
  have c0 := h.c0
  have hz : 0 < (⟨(c :: r).toArray⟩ : ByteArray).size := by rw [bytes_size]; simp
  go_enter Tryz.func112, Tryz.ntmps112
  go_wp2_with fail
  refine (tEnded _ b _ h).mono ?_
  rintro e w1 ⟨rfl, rfl⟩
  go_wp2
  go_ret
  exact ⟨rfl, rfl⟩

theorem tPeek_end (w : World) (b : Nat) (h : Txt w b []) :
    Calls Tryz.prog 112 #[.pointer (some ⟨b, 0, none⟩)] w fun e w' => e = fault 1 ∧ w' = w := by
  go_enter Tryz.func112, Tryz.ntmps112
  go_wp2_with fail
  refine (tEnded _ b _ h).mono ?_
  rintro e w1 ⟨rfl, rfl⟩
  go_wp2_with fail
  exact ⟨rfl, rfl, rfl⟩

theorem tNext (w : World) (b : Nat) (c : UInt8) (r : List UInt8) (h : Txt w b (c :: r)) :
    Calls Tryz.prog 122 #[.pointer (some ⟨b, 0, none⟩)] w fun e w' => e = .returned (.int .u8 c.toNat) ∧ Txt w' b r ∧ Kept (· = b) w w' := by
  have c0 := h.c0
  have f0 := h.f 0
  have hz : 1 ≤ (⟨(c :: r).toArray⟩ : ByteArray).size := by rw [bytes_size]; simp
  have HX := hide (show (⟨(c :: r).toArray⟩ : ByteArray).extract 1 (r.length + 1) = ⟨r.toArray⟩ by rw [bytes_extract]; simp)
  go_enter Tryz.func122, Tryz.ntmps122
  go_wp2_with fail
  refine (tPeek _ b c r h).mono ?_
  rintro e w1 ⟨rfl, rfl⟩
  go_wp2
  go_ret
  refine ⟨rfl, ?_, (by repeat' (first | assumption | exact Kept.refl _ _ | refine Kept.drewN ?_ _ | refine Kept.drew ?_ | refine Kept.alloc ?_ _ | refine Kept.setB ?_ _ _))⟩
  rw [HX.out]
  exact h.set r

theorem tNext_end (w : World) (b : Nat) (h : Txt w b []) :
    Calls Tryz.prog 122 #[.pointer (some ⟨b, 0, none⟩)] w fun e w' => e = fault 1 ∧ w' = w := by
  go_enter Tryz.func122, Tryz.ntmps122
  go_wp2_with fail
  refine (tPeek_end _ b h).mono ?_
  rintro e w1 ⟨rfl, rfl⟩
  go_wp2_with fail
  exact ⟨rfl, rfl, rfl⟩

end Go.Proofs.YtkkjchfhgjfclabGreatDoor
