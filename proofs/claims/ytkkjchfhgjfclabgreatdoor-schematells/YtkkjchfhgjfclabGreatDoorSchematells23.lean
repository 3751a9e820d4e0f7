/- schema.putKind, putType: the tokens of a type. -/
import Derived.Test.YtkkjchfhgjfclabGreatDoorSchematells22
import Derived.Test.YtkkjchfhgjfclabGreatDoorSchematells08
import Derived.Deep.DeepCutAuto
namespace Go.Proofs.YtkkjchfhgjfclabGreatDoor
open Go.RowKit

set_option maxRecDepth 20000 in
set_option maxHeartbeats 3200000 in
theorem putKind_any (w : World) (q : Nat) (T : List Tok) (f : FieldT) (h : RowAt w q T) (hb : T.length ≤ 900000) :
    Calls Tryz.prog 77 #[.pointer (some ⟨q, 0, none⟩), .agg #[.string ⟨f.name.toArray⟩, .int .i64 f.kind, .string ⟨f.of.toArray⟩]] w fun e w' => e = .returned (.tuple #[]) ∧ RowAt w' q (T ++ kindToks f) ∧ KT q w w' := by
  obtain ⟨nm, kd, of⟩ := f
  simp only
  have kA : ∀ o, Same w (w.alloc o) := fun o => (Kept.refl _ w).alloc o
  have HR := hide h
  have hq := h.lt
  clear h
  by_cases k1 : kd = 1
  · subst k1
    go_enter Tryz.func77, Tryz.ntmps77
    go_wp2_with fail
    refine (tkName_any _ _).mono ?_
    rintro e w1 ⟨rfl, hK1⟩
    have HP := hide (put_1 w1 q T 1 0 bNumber (HR.out.same (tra (kA _) hK1)) hb)
    go_wp2_with fail
    refine HP.out.mono ?_
    rintro e w2 ⟨rfl, hR2, hK2⟩
    go_wp2_with fail
    go_end0
    exact ⟨rfl, hR2, (KT.of_same (tra (kA _) hK1)).trans hK2⟩
  · by_cases k2 : kd = 2
    · subst k2
      go_enter Tryz.func77, Tryz.ntmps77
      go_wp2_with fail
      refine (tkName_any _ _).mono ?_
      rintro e w1 ⟨rfl, hK1⟩
      have HP := hide (put_1 w1 q T 1 0 bText (HR.out.same (tra (kA _) hK1)) hb)
      go_wp2_with fail
      refine HP.out.mono ?_
      rintro e w2 ⟨rfl, hR2, hK2⟩
      go_wp2_with fail
      go_end0
      exact ⟨rfl, hR2, (KT.of_same (tra (kA _) hK1)).trans hK2⟩
    · by_cases k3 : kd = 3
      · subst k3
        go_enter Tryz.func77, Tryz.ntmps77
        go_wp2_with fail
        refine (tkName_any _ _).mono ?_
        rintro e w1 ⟨rfl, hK1⟩
        have HP := hide (put_1 w1 q T 1 0 of (HR.out.same (tra (kA _) hK1)) hb)
        go_wp2_with fail
        refine HP.out.mono ?_
        rintro e w2 ⟨rfl, hR2, hK2⟩
        go_wp2_with fail
        go_end0
        exact ⟨rfl, hR2, (KT.of_same (tra (kA _) hK1)).trans hK2⟩
      · by_cases k4 : kd = 4
        · subst k4
          clear k1 k2 k3
          obtain ⟨w0, hw0⟩ : ∃ w0, w0 = w.alloc (.cells #[.string ⟨nm.toArray⟩, .int .i64 4, .string ⟨of.toArray⟩] 40) := ⟨_, rfl⟩
          have HK0 := hide (show Same w w0 by rw [hw0]; exact kA _)
          have HQ := hide (fun w1 (hK1 : Same w0 w1) => put_3 w1 q T 4 0 1 0 4 0 [91] of [93] (HR.out.same (tra HK0.out hK1)) hb)
          have c2 : w0.cell? ⟨w.heap.size, 2, none⟩ = some (.string ⟨of.toArray⟩) := by rw [hw0]; simp
          have c2d : ∀ n, (w0.drewN n).cell? ⟨w.heap.size, 2, none⟩ = some (.string ⟨of.toArray⟩) := fun n => c2
          have hKc : Same w0 w0.drew := (Kept.refl _ _).drew
          have HC2 := hide c2
          have hws : w.heap.size < w0.heap.size := by rw [hw0]; simp
          go_enter Tryz.func77, Tryz.ntmps77
          go_upto_region 9 with fail
          rw [← hw0]
          clear hw0 kA
          go_region_with (first
            | (go_at_call 59; refine (tkSign_any _ _).mono ?_; rintro e wn ⟨rfl, hKn⟩; have hKc := tra (by exact hKc) hKn; have c2 := hKc.cell HC2.out (fun f => f); clear hKn)
            | (go_at_call 76; refine (tkName_any _ _).mono ?_; rintro e wn ⟨rfl, hKn⟩; have hKc := tra (by exact hKc) hKn; have c2 := hKc.cell HC2.out (fun f => f); clear hKn)
            | (go_at_call 58; refine (HQ.out _ (by exact hKc)).mono ?_; rintro e wl ⟨rfl, hRl, hKl⟩))
          all_goals
            go_wp2_with fail
            go_end0
            exact ⟨rfl, hRl, (KT.of_same (tra HK0.out (by assumption))).trans hKl⟩
        · have e1 : (kd == 1) = false := by simp [k1]
          have e2 : (kd == 2) = false := by simp [k2]
          have e3 : (kd == 3) = false := by simp [k3]
          have e4 : (kd == 4) = false := by simp [k4]
          have HT := hide (show T ++ kindToks ⟨nm, kd, of⟩ = T by simp [kindToks, k1, k2, k3, k4])
          clear k1 k2 k3 k4
          go_enter Tryz.func77, Tryz.ntmps77
          go_wp2_with fail
          go_end0
          exact ⟨rfl, by rw [HT.out]; exact HR.out.same (kA _), KT.of_same (kA _)⟩

end Go.Proofs.YtkkjchfhgjfclabGreatDoor
