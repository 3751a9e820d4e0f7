import Derived.Test.YtillhpepfpldcaaBatchtells03
import Derived.Test.YtillhpepfpldcaaBatchtells06
import Derived.Test.YtillhpepfpldcaaBatchtells02
import Derived.Test.YtillhpepfpldcaaBatchtells01
/- batch.wrong, batch.Check. -/
namespace Go.Proofs.Ytillhpepfpldcaa
open Go.RowKit

theorem pIntB_eq (n : Int) : pIntB n = (decide (-999999999 ≤ n) && decide (n ≤ 999999999)) := rfl

set_option maxHeartbeats 800000 in
theorem inRange_any (e : EventT) (w : World) :
    Calls Try.prog 61 #[evV e] w fun r w' => r = .returned (.bool (rangeE e)) ∧ Same w w' := by
  obtain ⟨k, ty, i, f, n, t⟩ := e
  go_enter Try.func61, Try.ntmps61
  go_wp2_with (first
    | (go_at_call 76; refine (pIsIndex _ _ _).mono ?_; rintro e w' ⟨rfl, rfl⟩)
    | (go_at_call 77; refine (pIsId _ _).mono ?_; rintro e w' ⟨rfl, rfl⟩)
    | (go_at_call 78; refine (pIsInt _ _).mono ?_; rintro e w' ⟨rfl, rfl⟩))
  all_goals go_ret
  all_goals refine ⟨ret_bool ?_, (by repeat' (first | assumption | exact Kept.refl _ _ | refine Kept.drewN ?_ _ | refine Kept.drew ?_ | refine Kept.alloc ?_ _ | refine Kept.setB ?_ _ _))⟩
  all_goals (unfold rangeE; rw [← pIntB_eq, isIx_I, isIx_I]; simp_all)

set_option maxHeartbeats 800000 in
theorem wrong_ev (e : EventT) (w : World) :
    Calls Try.prog 44 #[evV e] w fun r w' => r = .returned (.int .i64 (wrongE e)) ∧ Same w w' := by
  have HS := hide (fun wx => pShape e wx)
  have HR := hide (fun wx => inRange_any e wx)
  by_cases h0 : shapeE e = 0
  · have h0' : (shapeE e != 0) = false := by simp [h0]
    cases hr : rangeE e with
    | false =>
      have HF := hide (show wrongE e = 3 by unfold wrongE; rw [if_neg (by simp [h0]), if_pos hr])
      have HRf := hide hr
      clear h0 hr
      obtain ⟨k, ty, i, f, n, t⟩ := e
      go_enter Try.func44, Try.ntmps44
      go_wp2_with fail
      refine (HS.out _).mono ?_
      rintro r w1 ⟨rfl, hK1⟩
      have hg := new_kept (w := w) hK1 (fun f => f)
      obtain ⟨z0, z1, z2, z3, z4, z5, _⟩ := cells6 hg
      go_wp2_with fail
      refine (HR.out _).mono ?_
      rintro r w2 ⟨rfl, hK2⟩
      rw [HRf.out]
      go_wp2_with fail
      go_ret
      exact ⟨ret_int HF.out.symm, (hK1.trans hK2 (fun _ _ f => f)).unA⟩
    | true =>
      have HRf := hide hr
      by_cases hl : 40 < e.text.length
      · have HF := hide (show wrongE e = 2 by unfold wrongE; rw [if_neg (by simp [h0]), if_neg (by simp [hr]), if_pos hl])
        clear h0 hr
        obtain ⟨k, ty, i, f, n, t⟩ := e
        simp only at hl
        have hl' : ¬ (⟨t.toArray⟩ : ByteArray).size ≤ 40 := by show ¬ t.toArray.size ≤ 40; rw [List.size_toArray]; omega
        go_enter Try.func44, Try.ntmps44
        go_wp2_with fail
        refine (HS.out _).mono ?_
        rintro r w1 ⟨rfl, hK1⟩
        have hg := new_kept (w := w) hK1 (fun f => f)
        obtain ⟨z0, z1, z2, z3, z4, z5, _⟩ := cells6 hg
        go_wp2_with fail
        refine (HR.out _).mono ?_
        rintro r w2 ⟨rfl, hK2⟩
        rw [HRf.out]
        have hg2 := new_kept (w := w) (hK1.trans hK2 (fun _ _ f => f)) (fun f => f)
        obtain ⟨y0, y1, y2, y3, y4, y5, _⟩ := cells6 hg2
        go_wp2_with fail
        go_ret
        exact ⟨ret_int HF.out.symm, (hK1.trans hK2 (fun _ _ f => f)).unA⟩
      · have HF := hide (show wrongE e = 0 by unfold wrongE; rw [if_neg (by simp [h0]), if_neg (by simp [hr]), if_neg hl])
        clear h0 hr
        obtain ⟨k, ty, i, f, n, t⟩ := e
        simp only at hl
        have hl' : (⟨t.toArray⟩ : ByteArray).size ≤ 40 := by show t.toArray.size ≤ 40; rw [List.size_toArray]; omega
        go_enter Try.func44, Try.ntmps44
        go_wp2_with fail
        refine (HS.out _).mono ?_
        rintro r w1 ⟨rfl, hK1⟩
        have hg := new_kept (w := w) hK1 (fun f => f)
        obtain ⟨z0, z1, z2, z3, z4, z5, _⟩ := cells6 hg
        go_wp2_with fail
        refine (HR.out _).mono ?_
        rintro r w2 ⟨rfl, hK2⟩
        rw [HRf.out]
        have hg2 := new_kept (w := w) (hK1.trans hK2 (fun _ _ f => f)) (fun f => f)
        obtain ⟨y0, y1, y2, y3, y4, y5, _⟩ := cells6 hg2
        go_wp2_with fail
        go_ret
        exact ⟨ret_int HF.out.symm, (hK1.trans hK2 (fun _ _ f => f)).unA⟩
  · have h0' : (shapeE e != 0) = true := by simp [h0]
    have HF := hide (show wrongE e = shapeE e by unfold wrongE; rw [if_pos h0])
    clear h0
    obtain ⟨k, ty, i, f, n, t⟩ := e
    go_enter Try.func44, Try.ntmps44
    go_wp2_with fail
    refine (HS.out _).mono ?_
    rintro r w1 ⟨rfl, hK1⟩
    go_wp2_with fail
    go_ret
    exact ⟨ret_int HF.out.symm, hK1.unA⟩

def badE (e : EventT) : Bool := decide (wrongE e ≠ 0)

theorem check1_ev (e : EventT) (w : World) :
    Calls Try.prog 43 #[evV e] w fun r w' => r = .returned (.bool (badE e)) ∧ Same w w' := by
  have HW := hide (fun wx => wrong_ev e wx)
  have HB := hide (show (wrongE e != 0) = badE e by unfold badE; rw [Bool.eq_iff_iff]; simp)
  obtain ⟨k, ty, i, f, n, t⟩ := e
  go_enter Try.func43, Try.ntmps43
  go_wp2_with fail
  refine (HW.out _).mono ?_
  rintro r w1 ⟨rfl, hK1⟩
  go_wp2_with fail
  go_ret
  exact ⟨ret_bool HB.out, hK1.unA⟩

theorem enters_c1 (args : Array Value) (w : World) : (callFunc 43 args).run Try.prog w = .ok (.enter 43 args) w := by kernel_rfl

theorem wrongEs_first (l : List EventT) : wrongEs l = if l.any badE then wrongE (firstE badE l) else 0 := by
  induction l with
  | nil => rfl
  | cons e r ih =>
    rw [wrongEs]
    by_cases h : wrongE e = 0
    · have hb : badE e = false := by unfold badE; simp [h]
      rw [if_neg (by simp [h]), ih]
      simp only [List.any_cons, hb, Bool.false_or, firstE, List.find?_cons]
    · have hb : badE e = true := by unfold badE; simp [h]
      rw [if_pos h]
      simp only [List.any_cons, hb, Bool.true_or, if_true, firstE, List.find?_cons, Option.getD_some]

set_option maxHeartbeats 1600000 in
theorem checkBa_any (P : Nat → Prop) (b : BatchT) (v : Value) (w : World) (h : EvSl P w v b.events) :
    Calls Try.prog 14 #[baV b.number v] w fun r w' => r = .returned (.int .i64 (checkBa b)) ∧ Same w w' := by
  obtain ⟨num, l⟩ := b
  simp only at h ⊢
  have HFi := hide (fun wx hK => firstE_any 43 badE enters_c1 check1_ev P wx v l (h.same hK))
  obtain ⟨ao, cap, rfl⟩ := h.form
  obtain ⟨_, hl, hcap⟩ := h.len
  clear h
  by_cases h1 : num < 1 ∨ 65535 < num
  · have HF := hide (show checkBa ⟨num, l⟩ = 3 by unfold checkBa; rw [if_pos h1])
    rcases Decidable.em (num < 1) with h2 | h2
    · clear h1
      go_enter Try.func14, Try.ntmps14
      go_wp2_with fail
      go_ret
      exact ⟨ret_int HF.out.symm, (by repeat' (first | assumption | exact Kept.refl _ _ | refine Kept.drewN ?_ _ | refine Kept.drew ?_ | refine Kept.alloc ?_ _ | refine Kept.setB ?_ _ _))⟩
    · have h3 : 65535 < num := by omega
      have h2' : ¬ num ≤ 65535 := by omega
      clear h1
      go_enter Try.func14, Try.ntmps14
      go_wp2_with fail
      go_ret
      exact ⟨ret_int HF.out.symm, (by repeat' (first | assumption | exact Kept.refl _ _ | refine Kept.drewN ?_ _ | refine Kept.drew ?_ | refine Kept.alloc ?_ _ | refine Kept.setB ?_ _ _))⟩
  · have h2 : ¬ num < 1 := by omega
    have h3 : num ≤ 65535 := by omega
    by_cases h4 : l.length = 0
    · have HF := hide (show checkBa ⟨num, l⟩ = 1 by unfold checkBa; rw [if_neg h1, if_pos h4])
      have h4' : ((l.length : Int) == 0) = true := by simp; exact List.length_eq_zero_iff.1 h4
      clear h1 h4
      go_enter Try.func14, Try.ntmps14
      go_wp2_with fail
      go_ret
      exact ⟨ret_int HF.out.symm, (by repeat' (first | assumption | exact Kept.refl _ _ | refine Kept.drewN ?_ _ | refine Kept.drew ?_ | refine Kept.alloc ?_ _ | refine Kept.setB ?_ _ _))⟩
    · have h4' : ((l.length : Int) == 0) = false := by rw [beq_eq_false_iff_ne]; omega
      by_cases h5 : 8 < l.length
      · have HF := hide (show checkBa ⟨num, l⟩ = 2 by unfold checkBa; rw [if_neg h1, if_neg h4, if_pos h5])
        clear h1 h4
        go_enter Try.func14, Try.ntmps14
        go_wp2_with fail
        go_ret
        exact ⟨ret_int HF.out.symm, (by repeat' (first | assumption | exact Kept.refl _ _ | refine Kept.drewN ?_ _ | refine Kept.drew ?_ | refine Kept.alloc ?_ _ | refine Kept.setB ?_ _ _))⟩
      · have hF : checkBa ⟨num, l⟩ = wrongEs l := by unfold checkBa; rw [if_neg h1, if_neg h4, if_neg h5]
        rw [wrongEs_first] at hF
        clear h1 h4
        cases hb : l.any badE with
        | false =>
          rw [hb] at hF
          have HF := hide hF
          have HB := hide hb
          clear hF hb
          obtain ⟨x0, x1, x2, x3, x4, x5⟩ := firstE badE l
          go_enter Try.func14, Try.ntmps14
          go_wp2_with fail
          refine (HFi.out _ (by repeat' (first | assumption | exact Kept.refl _ _ | refine Kept.drewN ?_ _ | refine Kept.drew ?_ | refine Kept.alloc ?_ _ | refine Kept.setB ?_ _ _))).mono ?_
          rintro r w1 ⟨rfl, hK1⟩
          rw [HB.out]
          go_wp2_with fail
          go_ret
          exact ⟨ret_int HF.out.symm, hK1.unA.alloc _⟩
        | true =>
          rw [hb] at hF
          have HF := hide hF
          have HB := hide hb
          have HW := hide (fun wx => wrong_ev (firstE badE l) wx)
          clear hF hb
          generalize firstE badE l = x at *
          obtain ⟨x0, x1, x2, x3, x4, x5⟩ := x
          go_enter Try.func14, Try.ntmps14
          go_wp2_with fail
          refine (HFi.out _ (by repeat' (first | assumption | exact Kept.refl _ _ | refine Kept.drewN ?_ _ | refine Kept.drew ?_ | refine Kept.alloc ?_ _ | refine Kept.setB ?_ _ _))).mono ?_
          rintro r w1 ⟨rfl, hK1⟩
          rw [HB.out]
          go_wp2_with fail
          refine (HW.out _).mono ?_
          rintro r w2 ⟨rfl, hK2⟩
          go_wp2_with fail
          go_ret
          exact ⟨ret_int HF.out.symm, (hK1.unA.alloc _).trans hK2 (fun _ _ f => f)⟩

end Go.Proofs.Ytillhpepfpldcaa

/- parse.Caught of a function literal that captures three variables. -/
namespace Go.Proofs.Ytillhpepfpldcaa
open Go.RowKit

/-- Caught, of a function literal: what it gave up with, or 0. -/
theorem caught_closure3 (f : FuncId) (x y z : Value) (w : World) (X : Nat → Prop) (hX : ∀ i, X i → i < w.heap.size) (R : World → Prop) (S : Int → World → Prop)
    (hcf : ∀ (args : Array Value) (w : World), (callFunc f args).run Try.prog w = .ok (.enter f args) w)
    (hW : Hid (Calls Try.prog f #[x, y, z] (w.alloc (.cells #[.int .i64 0] 25)) fun e w' =>
      (e = .returned (.tuple #[]) ∧ R w' ∧ Kept X (w.alloc (.cells #[.int .i64 0] 25)) w') ∨ (∃ n, e = fault n ∧ S n w' ∧ Kept X (w.alloc (.cells #[.int .i64 0] 25)) w'))) :
    Calls Try.prog 33 #[.func (.func f) #[] #[x, y, z]] w fun e w' =>
      (∃ w1, e = .returned (.int .i64 0) ∧ R w1 ∧ Kept X (w.alloc (.cells #[.int .i64 0] 25)) w1 ∧ w' = w1.setCell ⟨w.heap.size, 0, none⟩ (.int .i64 0))
      ∨ (∃ n w1, e = .returned (.int .i64 n) ∧ S n w1 ∧ Kept X (w.alloc (.cells #[.int .i64 0] 25)) w1 ∧ w' = w1.setCell ⟨w.heap.size, 0, none⟩ (.int .i64 n)) := by
  have hmf : ∀ (fn : Fn) (first cap : Array Value) (w : World), (Instr.makeFunc fn first cap).run Try.prog w = .ok (.func fn first cap) w := fun _ _ _ _ => rfl
  go_enter_defers Try.func33, Try.ntmps33
  go_wp2_with fail
  refine hW.out.mono ?_
  rintro e w1 (⟨rfl, hR, hK⟩ | ⟨n, rfl, hS, hK⟩)
  · have hg := new_kept (w := w) hK (fun h => Nat.lt_irrefl _ (hX _ h))
    have c0 : w1.cell? ⟨w.heap.size, 0, none⟩ = some (.int .i64 0) := by simp [World.cell?, hg]
    have f0 : w1.frozen? ⟨w.heap.size, 0, none⟩ = false := by simp [World.frozen?, hg]
    go_wp2_with fail
    refine leaves_cons (f := 56) (args := #[.pointer (some ⟨w.heap.size, 0, none⟩)]) (by simp) (by simp [go_sem]) ?_
    refine (catch_idle ⟨w.heap.size, 0, none⟩ _).mono ?_
    rintro e u' w'' ⟨rfl, rfl, rfl⟩
    have c1 := World.cell?_setCell_same w1 ⟨w.heap.size, 0, none⟩ (.int .i64 0) c0
    simp only [Leaves, settle, results, Try.results33]
    exact ⟨.int .i64 0, by simp [go_sem, c1], .inl ⟨w1, rfl, hR, hK, rfl⟩⟩
  · have hg := new_kept (w := w) hK (fun h => Nat.lt_irrefl _ (hX _ h))
    have c0 : w1.cell? ⟨w.heap.size, 0, none⟩ = some (.int .i64 0) := by simp [World.cell?, hg]
    have f0 : w1.frozen? ⟨w.heap.size, 0, none⟩ = false := by simp [World.frozen?, hg]
    go_wp2_with fail
    refine leaves_cons (f := 56) (args := #[.pointer (some ⟨w.heap.size, 0, none⟩)]) (by simp) (by simp [go_sem]) ?_
    refine (catch_fault ⟨w.heap.size, 0, none⟩ 0 n [] _ c0 f0).mono ?_
    rintro e u' w'' ⟨rfl, rfl, rfl⟩
    have c1 := World.cell?_setCell_same w1 ⟨w.heap.size, 0, none⟩ (.int .i64 n) c0
    simp only []
    rw [show settle (FrameMode.panicking [{ v := Value.iface 94 (.int .i64 n), recovered := true }]) = FrameMode.returning from rfl]
    simp only [Leaves, results, Try.results33]
    exact ⟨.int .i64 n, by simp [go_sem, c1], .inr ⟨n, w1, rfl, hS, hK, rfl⟩⟩

end Go.Proofs.Ytillhpepfpldcaa

/- parse.NewText. -/
namespace Go.Proofs.Ytillhpepfpldcaa
open Go.RowKit

theorem tNew (w : World) (l : List UInt8) :
    Calls Try.prog 32 #[.string ⟨l.toArray⟩] w fun e w' => e = .returned (.pointer (some ⟨w.heap.size, 0, none⟩)) ∧ w' = w.alloc (.cells #[.string ⟨l.toArray⟩] 93) := by
  go_enter Try.func32, Try.ntmps32
  go_wp2
  go_ret
  exact ⟨rfl, rfl⟩

end Go.Proofs.Ytillhpepfpldcaa
