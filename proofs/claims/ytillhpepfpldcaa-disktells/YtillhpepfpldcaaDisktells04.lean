import Derived.Test.YtillhpepfpldcaaChecked
import Derived.Test.YtillhpepfpldcaaDisktells01
import Derived.Defers
import Derived.Recover
import Derived.Test.YtillhpepfpldcaaDisktells03
import Derived.Laws.BitsLemmas
/- parse.Caught: what is panicked with is answered. -/
namespace Go.Proofs.Ytillhpepfpldcaa
open Go.RowKit

/-- what is panicked with -/
abbrev fault (n : Int) : Ending := .panicked [{ v := .iface 94 (.int .i64 n), recovered := false }]

theorem catch_fault (p : Addr) (x n : Int) (older : List PanicEntry) (w : World) (hc : w.cell? p = some (.int .i64 x)) (hz : w.frozen? p = false) :
    CallsD Try.prog 56 #[.pointer (some p)] (.panicking ({ v := .iface 94 (.int .i64 n), recovered := false } :: older)) w fun e u' w' =>
      e = .returned (.tuple #[]) ∧ u' = .panicking ({ v := .iface 94 (.int .i64 n), recovered := true } :: older) ∧ w' = w.setCell p (.int .i64 n) := by
  have hta : ∀ w, (Instr.typeAssert (.iface 94 (.int .i64 n)) 20 94 true).run Try.prog w = .ok (.tuple #[.int .i64 n, .bool true]) w := fun _ => by kernel_rfl
  refine callsD_of_wpS Try.func56 rfl fun c₀ cs hu => ?_
  apply wpS_seq
  apply wpS_region
  simp [wpOpsS, go_sem, recoverD, hu, Try.ntmps56, Exit.thenS]
  refine wpS_of_wp ?_
  rw [show (#[Value.pointer (some p)] ++ ((Array.replicate 15 undef).setIfInBounds 3 (Value.iface 94 (.int .i64 n))).setIfInBounds 0 (Value.iface 94 (.int .i64 n))) = #[.pointer (some p), .iface 94 (.int .i64 n), undef, undef, .iface 94 (.int .i64 n), undef, undef, undef, undef, undef, undef, undef, undef, undef, undef, undef] from rfl]
  go_wp2_with fail
  simp [bodyPostS, results, Try.results56]


theorem catch_idle (p : Addr) (w : World) :
    CallsD Try.prog 56 #[.pointer (some p)] .returning w fun e u' w' => e = .returned (.tuple #[]) ∧ u' = .returning ∧ w' = w := by
  refine callsD_of_wpS Try.func56 rfl fun c₀ cs hu => ?_
  apply wpS_seq
  apply wpS_region
  simp [wpOpsS, go_sem, recoverD, hu, Try.ntmps56, Exit.thenS]
  refine wpS_of_wp ?_
  rw [show (#[Value.pointer (some p)] ++ ((Array.replicate 15 undef).setIfInBounds 3 Value.nilIface).setIfInBounds 0 Value.nilIface) = #[.pointer (some p), .nilIface, undef, undef, .nilIface, undef, undef, undef, undef, undef, undef, undef, undef, undef, undef, undef] from rfl]
  go_wp2_with fail
  cases c₀
  simp_all [bodyPostS, results, Try.results56]

/-- Caught, of a method value: what it gave up with, or 0. -/
theorem caught_method (f : FuncId) (x : Value) (w : World) (X : Nat → Prop) (hX : ∀ i, X i → i < w.heap.size) (R : World → Prop) (S : Int → World → Prop)
    (hcf : ∀ (args : Array Value) (w : World), (callFunc f args).run Try.prog w = .ok (.enter f args) w)
    (hW : Hid (Calls Try.prog f #[x] (w.alloc (.cells #[.int .i64 0] 25)) fun e w' =>
      (e = .returned (.tuple #[]) ∧ R w' ∧ Kept X (w.alloc (.cells #[.int .i64 0] 25)) w') ∨ (∃ n, e = fault n ∧ S n w' ∧ Kept X (w.alloc (.cells #[.int .i64 0] 25)) w'))) :
    Calls Try.prog 33 #[.func (.func f) #[x] #[]] w fun e w' =>
      (∃ w1, e = .returned (.int .i64 0) ∧ R w1 ∧ Kept X (w.alloc (.cells #[.int .i64 0] 25)) w1 ∧ w' = w1.setCell ⟨w.heap.size, 0, none⟩ (.int .i64 0))
      ∨ (∃ n w1, e = .returned (.int .i64 n) ∧ S n w1 ∧ Kept X (w.alloc (.cells #[.int .i64 0] 25)) w1 ∧ w' = w1.setCell ⟨w.heap.size, 0, none⟩ (.int .i64 n)) := by
  have hmf : ∀ (fn : Fn) (first cap : Array Value) (w : World), (Instr.makeFunc fn first cap).run Try.prog w = .ok (.func fn first cap) w := fun _ _ _ _ => rfl
  go_enter_defers Try.func33, Try.ntmps33
  go_wp2_with fail
  refine hW.out.mono ?_
  rintro e w1 (⟨rfl, hR, hK⟩ | ⟨n, rfl, hS, hK⟩)
  · have hg := new_kept (w := w) hK (fun h => Nat.lt_irrefl _ (hX _ h))
    have c0 : w1.cell? ⟨w.heap.size, 0, none⟩ = some (.int .i64 0) := by simp [World.cell?, hg]
    have f0 : w1.frozen? ⟨w.heap.size, 0, none⟩ = false := by simp [World.frozen?, hg]
    go_wp2_with fail
    refine leaves_cons (f := 56) (args := #[.pointer (some ⟨w.heap.size, 0, none⟩)]) (by simp) (by simp [go_sem]) ?_
    refine (catch_idle ⟨w.heap.size, 0, none⟩ _).mono ?_
    rintro e u' w'' ⟨rfl, rfl, rfl⟩
    have c1 := World.cell?_setCell_same w1 ⟨w.heap.size, 0, none⟩ (.int .i64 0) c0
    simp only [Leaves, settle, results, Try.results33]
    exact ⟨.int .i64 0, by simp [go_sem, c1], .inl ⟨w1, rfl, hR, hK, rfl⟩⟩
  · have hg := new_kept (w := w) hK (fun h => Nat.lt_irrefl _ (hX _ h))
    have c0 : w1.cell? ⟨w.heap.size, 0, none⟩ = some (.int .i64 0) := by simp [World.cell?, hg]
    have f0 : w1.frozen? ⟨w.heap.size, 0, none⟩ = false := by simp [World.frozen?, hg]
    go_wp2_with fail
    refine leaves_cons (f := 56) (args := #[.pointer (some ⟨w.heap.size, 0, none⟩)]) (by simp) (by simp [go_sem]) ?_
    refine (catch_fault ⟨w.heap.size, 0, none⟩ 0 n [] _ c0 f0).mono ?_
    rintro e u' w'' ⟨rfl, rfl, rfl⟩
    have c1 := World.cell?_setCell_same w1 ⟨w.heap.size, 0, none⟩ (.int .i64 n) c0
    simp only []
    rw [show settle (FrameMode.panicking [{ v := Value.iface 94 (.int .i64 n), recovered := true }]) = FrameMode.returning from rfl]
    simp only [Leaves, results, Try.results33]
    exact ⟨.int .i64 n, by simp [go_sem, c1], .inr ⟨n, w1, rfl, hS, hK, rfl⟩⟩

end Go.Proofs.Ytillhpepfpldcaa

/- parse.Text: Ended, Peek, Next, Pass. -/
namespace Go.Proofs.Ytillhpepfpldcaa
open Go.RowKit

/-- A text lies in block b: what is left of it. -/
def Txt (w : World) (b : Nat) (l : List UInt8) : Prop := w.heap[b]? = some (.cells #[.string ⟨l.toArray⟩] 93 (0, 0))

theorem Txt.c0 {w : World} {b : Nat} {l : List UInt8} (h : Txt w b l) : w.cell? ⟨b, 0, none⟩ = some (.string ⟨l.toArray⟩) := by
  unfold Txt at h; simp [World.cell?, h]
theorem Txt.f {w : World} {b : Nat} {l : List UInt8} (h : Txt w b l) (o : Nat) : w.frozen? ⟨b, o, none⟩ = false := by
  unfold Txt at h; simp [World.frozen?, h]
theorem Txt.lt {w : World} {b : Nat} {l : List UInt8} (h : Txt w b l) : b < w.heap.size := World.block_lt_of_cell? w _ h.c0
theorem Txt.set {w : World} {b : Nat} {l : List UInt8} (h : Txt w b l) (m : List UInt8) : Txt (w.setCell ⟨b, 0, none⟩ (.string ⟨m.toArray⟩)) b m := by
  unfold Txt at *
  simp [World.setCell, Array.getElem?_modify, h]
theorem Txt.keep {w w' : World} {b : Nat} {l : List UInt8} (h : Txt w b l) {X : Nat → Prop} (hk : Kept X w w') (hX : ¬ X b) : Txt w' b l := by
  have hb := h.lt
  unfold Txt at *
  rw [hk.block b hb hX]; exact h
theorem Txt.al {w : World} {b : Nat} {l : List UInt8} (h : Txt w b l) (o : Obj) : Txt (w.alloc o) b l := h.keep (X := fun _ => False) ((Kept.refl _ w).alloc o) (fun f => f)

theorem bytes_size (l : List UInt8) : (⟨l.toArray⟩ : ByteArray).size = l.length := by simp [ByteArray.size]
theorem bytes_extract (l : List UInt8) (i j : Nat) : (⟨l.toArray⟩ : ByteArray).extract i j = ⟨((l.drop i).take (j - i)).toArray⟩ := by
  apply ByteArray.ext
  apply Array.ext'
  rw [ByteArray.data_extract, Array.toList_extract, List.extract_eq_take_drop]

theorem tEnded (w : World) (b : Nat) (l : List UInt8) (h : Txt w b l) :
    Calls Try.prog 75 #[.pointer (some ⟨b, 0, none⟩)] w fun e w' => e = .returned (.bool l.isEmpty) ∧ w' = w := by
  have c0 := h.c0
  cases l with
  | nil =>
    go_enter Try.func75, Try.ntmps75
    go_wp2
    go_ret
    exact ⟨rfl, rfl⟩
  | cons c r =>
    have he : (⟨(c :: r).toArray⟩ : ByteArray).toList.isEmpty = false := by rw [ByteArray.toList_eq]; simp
    go_enter Try.func75, Try.ntmps75
    go_wp2
    go_ret
    exact ⟨rfl, rfl⟩

theorem tPeek (w : World) (b : Nat) (c : UInt8) (r : List UInt8) (h : Txt w b (c :: r)) :
    Calls Try.prog 71 #[.pointer (some ⟨b, 0, none⟩)] w fun e w' => e = .returned (.int .u8 c.toNat) ∧ w' = w := by
  have c0 := h.c0
  have hz : 0 < (⟨(c :: r).toArray⟩ : ByteArray).size := by rw [bytes_size]; simp
  go_enter Try.func71, Try.ntmps71
  go_wp2_with fail
  refine (tEnded _ b _ h).mono ?_
  rintro e w1 ⟨rfl, rfl⟩
  go_wp2
  go_ret
  exact ⟨rfl, rfl⟩

theorem tPeek_end (w : World) (b : Nat) (h : Txt w b []) :
    Calls Try.prog 71 #[.pointer (some ⟨b, 0, none⟩)] w fun e w' => e = fault 1 ∧ w' = w := by
  go_enter Try.func71, Try.ntmps71
  go_wp2_with fail
  refine (tEnded _ b _ h).mono ?_
  rintro e w1 ⟨rfl, rfl⟩
  go_wp2_with fail
  exact ⟨rfl, rfl, rfl⟩

theorem tNext (w : World) (b : Nat) (c : UInt8) (r : List UInt8) (h : Txt w b (c :: r)) :
    Calls Try.prog 55 #[.pointer (some ⟨b, 0, none⟩)] w fun e w' => e = .returned (.int .u8 c.toNat) ∧ Txt w' b r ∧ Kept (· = b) w w' := by
  have c0 := h.c0
  have f0 := h.f 0
  have hz : 1 ≤ (⟨(c :: r).toArray⟩ : ByteArray).size := by rw [bytes_size]; simp
  have HX := hide (show (⟨(c :: r).toArray⟩ : ByteArray).extract 1 (r.length + 1) = ⟨r.toArray⟩ by rw [bytes_extract]; simp)
  go_enter Try.func55, Try.ntmps55
  go_wp2_with fail
  refine (tPeek _ b c r h).mono ?_
  rintro e w1 ⟨rfl, rfl⟩
  go_wp2
  go_ret
  refine ⟨rfl, ?_, (by repeat' (first | assumption | exact Kept.refl _ _ | refine Kept.drewN ?_ _ | refine Kept.drew ?_ | refine Kept.alloc ?_ _ | refine Kept.setB ?_ _ _))⟩
  rw [HX.out]
  exact h.set r

theorem tNext_end (w : World) (b : Nat) (h : Txt w b []) :
    Calls Try.prog 55 #[.pointer (some ⟨b, 0, none⟩)] w fun e w' => e = fault 1 ∧ w' = w := by
  go_enter Try.func55, Try.ntmps55
  go_wp2_with fail
  refine (tPeek_end _ b h).mono ?_
  rintro e w1 ⟨rfl, rfl⟩
  go_wp2_with fail
  exact ⟨rfl, rfl, rfl⟩

end Go.Proofs.Ytillhpepfpldcaa

/- parse.Text: NewText, Take, End. -/
namespace Go.Proofs.Ytillhpepfpldcaa
open Go.RowKit

theorem tTake (w : World) (b : Nat) (l : List UInt8) (n : Nat) (h : Txt w b l) (hn : n ≤ l.length) :
    Calls Try.prog 74 #[.pointer (some ⟨b, 0, none⟩), .int .i64 n] w fun e w' => e = .returned (.string ⟨(l.take n).toArray⟩) ∧ Txt w' b (l.drop n) ∧ Kept (· = b) w w' := by
  have c0 := h.c0
  have f0 := h.f 0
  have hz : n ≤ (⟨l.toArray⟩ : ByteArray).size := by rw [bytes_size]; exact hn
  have HX := hide (show (⟨l.toArray⟩ : ByteArray).extract 0 n = ⟨(l.take n).toArray⟩ by rw [bytes_extract]; simp)
  have HY := hide (show (⟨l.toArray⟩ : ByteArray).extract n l.length = ⟨(l.drop n).toArray⟩ by rw [bytes_extract, List.take_of_length_le (by simp)])
  go_enter Try.func74, Try.ntmps74
  go_wp2
  go_ret
  refine ⟨ret_str HX.out, ?_, (by repeat' (first | assumption | exact Kept.refl _ _ | refine Kept.drewN ?_ _ | refine Kept.drew ?_ | refine Kept.alloc ?_ _ | refine Kept.setB ?_ _ _))⟩
  rw [HY.out]
  exact h.set _

theorem tTake_bad (w : World) (b : Nat) (l : List UInt8) (n : Nat) (h : Txt w b l) (hn : l.length < n) :
    Calls Try.prog 74 #[.pointer (some ⟨b, 0, none⟩), .int .i64 n] w fun e w' => e = fault 1 ∧ w' = w := by
  have c0 := h.c0
  have hz : (⟨l.toArray⟩ : ByteArray).size < n := by rw [bytes_size]; exact hn
  go_enter Try.func74, Try.ntmps74
  go_wp2_with fail
  exact ⟨rfl, rfl, rfl⟩

theorem tEnd (w : World) (b : Nat) (h : Txt w b []) :
    Calls Try.prog 58 #[.pointer (some ⟨b, 0, none⟩)] w fun e w' => e = .returned (.tuple #[]) ∧ w' = w := by
  go_enter Try.func58, Try.ntmps58
  go_wp2_with fail
  refine (tEnded _ b _ h).mono ?_
  rintro e w1 ⟨rfl, rfl⟩
  go_wp2_with fail
  first | go_end0 | refine bodyPost_ret (results_none rfl _ _ _) rfl ?_
  exact ⟨rfl, rfl⟩

theorem tEnd_bad (w : World) (b : Nat) (c : UInt8) (r : List UInt8) (h : Txt w b (c :: r)) :
    Calls Try.prog 58 #[.pointer (some ⟨b, 0, none⟩)] w fun e w' => e = fault 1 ∧ w' = w := by
  go_enter Try.func58, Try.ntmps58
  go_wp2_with fail
  refine (tEnded _ b _ h).mono ?_
  rintro e w1 ⟨rfl, rfl⟩
  go_wp2_with fail
  exact ⟨rfl, rfl, rfl⟩

end Go.Proofs.Ytillhpepfpldcaa

/- batch.readNumber. -/
namespace Go.Proofs.Ytillhpepfpldcaa
open Go.RowKit

theorem wraps_i64 (n : Int) (h₀ : 0 ≤ n) (h₁ : n < 2 ^ 62) : IntKind.i64.wrap n = n := by rw [IntKind.wrap_i64]; omega
theorem or_byte (n : Nat) (c : UInt8) (hn : n < 4294967296) : bits .or .i64 ((n : Int) * 256) c.toNat = ((n * 256 + c.toNat : Nat) : Int) := by
  have hc := c.toNat_lt

  rw [bits_join .i64 62 (by decide) wraps_i64 8 _ _ (by omega) (by omega) (by omega) (by omega) (by omega) (by omega)]
  omega

set_option maxHeartbeats 800000 in
theorem readNumber_any (w : World) (b : Nat) (l : List UInt8) (size : Nat) (h : Txt w b l) (hs : size ≤ 4) :
    Calls Try.prog 31 #[.pointer (some ⟨b, 0, none⟩), .int .i64 size] w fun e w' =>
      (∃ n r, numF size 0 l = some (n, r) ∧ e = .returned (.int .i64 (n : Nat)) ∧ Txt w' b r ∧ Kept (· = b) w w')
      ∨ (numF size 0 l = none ∧ e = fault 1 ∧ Kept (· = b) w w') := by
  go_enter Try.func31, Try.ntmps31
  go_wp2_with fail
  go_loopg [5, 7] size (fun g nv iv wr => ∃ (i n : Nat) (r : List UInt8), i + g = size ∧ iv = .int .i64 i ∧ nv = .int .i64 n ∧ n < 256 ^ i ∧ Txt wr b r ∧ Kept (· = b) w wr ∧ Hid (numF size 0 l = numF g n r))
  case atStart => exact ⟨0, 0, l, by omega, rfl, rfl, by simp, h, Kept.refl _ _, hide rfl⟩
  case round =>
    obtain ⟨i, n, r, hi, rfl, rfl, hn, hT, hK, HN⟩ := hrel
    have hn4 : n < 4294967296 := Nat.lt_of_lt_of_le hn (Nat.pow_le_pow_right (n := 256) (by omega) (show i ≤ 4 by omega))
    by_cases hlt : i < size
    · obtain ⟨g, hg⟩ : ∃ g, gk = g + 1 := ⟨gk - 1, by omega⟩
      subst hg
      cases r with
      | nil =>
        have HX := hide (tNext_end wr b hT)
        go_wp2_with fail
        refine HX.out.mono ?_
        rintro e w1 ⟨rfl, rfl⟩
        go_wp2_with fail
        exact ⟨rfl, .inr ⟨by rw [HN.out]; rfl, rfl, hK⟩⟩
      | cons c r =>
        have HX := hide (tNext wr b c r hT)
        go_wp2_with fail
        refine HX.out.mono ?_
        rintro e w1 ⟨rfl, h1, hK1⟩
        have HO := hide (or_byte n c hn4)
        have hc := c.toNat_lt
        have hn2 : n * 256 + c.toNat < 256 ^ (i + 1) := by rw [Nat.pow_succ]; omega
        have HN2 : Hid (numF size 0 l = numF g (n * 256 + c.toNat) r) := HN.out.trans rfl
        go_wp2_with fail
        rw [HO.out]
        go_roundg g
        case measure => omega
        case rel => exact ⟨i + 1, n * 256 + c.toNat, r, by omega, by go_num, rfl, hn2, h1, hK.trans hK1 (fun _ _ h => h), HN2⟩
    · obtain rfl : gk = 0 := by omega
      go_wp2_with fail
      go_ret
      exact .inl ⟨n, r, HN.out, rfl, hT, hK⟩

end Go.Proofs.Ytillhpepfpldcaa
