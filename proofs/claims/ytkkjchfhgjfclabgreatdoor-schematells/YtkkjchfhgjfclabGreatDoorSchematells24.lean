/- schema.putType. -/
import Derived.Test.YtkkjchfhgjfclabGreatDoorSchematells23
namespace Go.Proofs.YtkkjchfhgjfclabGreatDoor
open Go.RowKit

theorem FldSl.kt {P : Nat → Prop} {q : Nat} {w w' : World} {v : Value} {l : List FieldT} (h : FldSl P w v l) (hk : KT q w w') (hp : ∀ b, P b → b < q) : FldSl P w' v l :=
  h.keep hk (fun b hb e => by have := hp b hb; rcases e with e | e <;> omega)
theorem TypSl.kt {P : Nat → Prop} {q : Nat} {w w' : World} {v : Value} {l : List TypeT} (h : TypSl P w v l) (hk : KT q w w') (hp : ∀ b, P b → b < q) : TypSl P w' v l :=
  h.keep hk (fun b hb e => by have := hp b hb; rcases e with e | e <;> omega)

theorem fieldToks_app (a b : List FieldT) : fieldToks (a ++ b) = fieldToks a ++ fieldToks b := by
  induction a with
  | nil => rfl
  | cons f a ih => simp [fieldToks, ih]

def typeTok (t : TypeT) : List Tok := nameT bType :: nameT t.name :: signT [123] :: (fieldToks t.fields ++ [signT [125]])
theorem typeToks_app (a b : List TypeT) : typeToks (a ++ b) = typeToks a ++ typeToks b := by
  induction a with
  | nil => rfl
  | cons f a ih => simp [typeToks, ih]
theorem typeToks_one (t : TypeT) : typeToks [t] = typeTok t := by simp [typeToks, typeTok]

set_option maxRecDepth 20000 in
set_option maxHeartbeats 3200000 in
theorem putType_any (w : World) (q : Nat) (T : List Tok) (t : TypeT) (af : Option Addr) (cf : Nat) (h : RowAt w q T) (hb : T.length ≤ 800000) (hf : FldSl (· < q) w (.slice af t.fields.length cf) t.fields) (h6 : t.fields.length ≤ 6) :
    Calls Tryz.prog 42 #[.pointer (some ⟨q, 0, none⟩), .agg #[.string ⟨t.name.toArray⟩, .slice af t.fields.length cf]] w fun e w' => e = .returned (.tuple #[]) ∧ RowAt w' q (T ++ typeTok t) ∧ KT q w w' := by
  have kA : ∀ o, Same w (w.alloc o) := fun o => (Kept.refl _ w).alloc o
  have hq := h.lt
  have HR := hide h
  have HF := hide hf
  clear h hf
  obtain ⟨w0, hw0⟩ : ∃ w0, w0 = w.alloc (.cells #[.string ⟨t.name.toArray⟩, .slice af t.fields.length cf] 38) := ⟨_, rfl⟩
  have HK0 := hide (show Same w w0 by rw [hw0]; exact kA _)
  have HQ := hide (fun w1 (hK1 : Same w0 w1) => put_3 w1 q T 1 0 1 0 4 0 bType t.name [123] (HR.out.same (tra HK0.out hK1)) (by omega))
  have HB0 := hide (show w0.heap[w.heap.size]? = some (.cells #[.string ⟨t.name.toArray⟩, .slice af t.fields.length cf] 38 (0, 0)) by rw [hw0]; exact heap_alloc_new w _)
  have c2 : w0.cell? ⟨w.heap.size, 0, none⟩ = some (.string ⟨t.name.toArray⟩) := by rw [hw0]; simp
  have c2d : ∀ n, (w0.drewN n).cell? ⟨w.heap.size, 0, none⟩ = some (.string ⟨t.name.toArray⟩) := fun n => c2
  have hKc : Same w0 w0.drew := (Kept.refl _ _).drew
  have HC2 := hide c2
  have hws : w.heap.size < w0.heap.size := by rw [hw0]; simp
  have hqn : w.heap.size ≠ q := by omega
  go_enter Tryz.func42, Tryz.ntmps42
  go_upto_region 1 with fail
  rw [← hw0]
  clear hw0 kA
  go_cut [] (fun wx => RowAt wx q (T ++ [⟨1, bType, 0⟩, ⟨1, t.name, 0⟩, ⟨4, [123], 0⟩]) ∧ KT q w0 wx)
  case first =>
    go_region_with (first
      | (go_at_call 59; refine (tkSign_any _ _).mono ?_; rintro e wn ⟨rfl, hKn⟩; have hKc := tra (by exact hKc) hKn; have c2 := hKc.cell HC2.out (fun f => f); clear hKn)
      | (go_at_call 76; refine (tkName_any _ _).mono ?_; rintro e wn ⟨rfl, hKn⟩; have hKc := tra (by exact hKc) hKn; have c2 := hKc.cell HC2.out (fun f => f); clear hKn)
      | (go_at_call 58; refine (HQ.out _ (by exact hKc)).mono ?_; rintro e wl ⟨rfl, hRl, hKl⟩))
    all_goals
      go_wp2_with fail
      go_meet
      case rel => exact ⟨hRl, (KT.of_same (by assumption)).trans hKl⟩
  case rest =>
  obtain ⟨hRc, hKTc⟩ := hcut
  have HRc := hide hRc
  have HKc := hide ((KT.of_same HK0.out).trans hKTc)
  obtain ⟨d0, d1⟩ : wc.cell? ⟨w.heap.size, 0, none⟩ = some (.string ⟨t.name.toArray⟩) ∧ wc.cell? ⟨w.heap.size, 1, none⟩ = some (.slice af t.fields.length cf) := by
    have := KT.blk hKTc HB0.out hqn (by decide)
    simp [World.cell?, this]
  clear hRc hKTc hKc c2 c2d HC2 HQ HB0 HR
  go_wp2_with fail
  go_loopg [17] t.fields.length (fun g k wr => ∃ j : Nat, j + g = t.fields.length ∧ k = .int .i64 j ∧ Hid (RowAt wr q (T ++ [⟨1, bType, 0⟩, ⟨1, t.name, 0⟩, ⟨4, [123], 0⟩] ++ fieldToks (t.fields.take j))) ∧ Hid (KT q w wr))
  case atStart => exact ⟨0, by omega, rfl, by rw [Hid]; simpa [fieldToks] using HRc.out, HKc⟩
  case round =>
    obtain ⟨j, hj, rfl, HRr, HKr⟩ := hrel
    have hlenT : (T ++ ([⟨1, bType, 0⟩, ⟨1, t.name, 0⟩, ⟨4, [123], 0⟩] : List Tok) ++ fieldToks (t.fields.take j)).length ≤ 800100 := by
      have h1 := (fieldToks_max (t.fields.take j)).1
      have h2 : (t.fields.take j).length ≤ 6 := by rw [List.length_take]; omega
      simp only [List.length_append, List.length_cons, List.length_nil]
      omega
    by_cases hlt : j < t.fields.length
    · obtain ⟨b, off, rfl, x0, x1, x2⟩ := (HF.out.kt HKr.out (fun _ h => h)).at j hlt
      have HT := hide (show fieldToks (t.fields.take (j + 1)) = fieldToks (t.fields.take j) ++ (nameT t.fields[j].name :: signT [58] :: kindToks t.fields[j]) by
        rw [List.take_succ_eq_append_getElem hlt, fieldToks_app]; simp [fieldToks])
      obtain ⟨f, hfe⟩ : ∃ f, f = t.fields[j] := ⟨_, rfl⟩
      rw [← hfe] at x0 x1 x2 HT
      clear hfe
      have hqr := HRr.out.lt
      go_wp2_with fail
      refine (tkName_any _ _).mono ?_
      rintro e w1 ⟨rfl, hK1⟩
      go_wp2_with fail
      refine (tkSign_any _ _).mono ?_
      rintro e w2 ⟨rfl, hK2⟩
      have hKa : Same wr w2 := tra (tra ((Kept.refl _ wr).alloc _) hK1) hK2
      have hB2 := blk_kept' (blk_kept' (heap_alloc_new wr (.cells #[.string ⟨f.name.toArray⟩, .int .i64 f.kind, .string ⟨f.of.toArray⟩] 40)) hK1) hK2
      have HP := hide (put_2 w2 q _ 1 0 4 0 f.name [58] (HRr.out.same hKa) (by omega))
      clear hK1 hK2
      go_wp2_with fail
      refine HP.out.mono ?_
      rintro e w3 ⟨rfl, hR3, hK3⟩
      have hB3 := KT.blk hK3 hB2 (by omega) (by decide)
      obtain ⟨y0, y1, y2⟩ : w3.cell? ⟨wr.heap.size, 0, none⟩ = some (.string ⟨f.name.toArray⟩) ∧ w3.cell? ⟨wr.heap.size, 1, none⟩ = some (.int .i64 f.kind) ∧ w3.cell? ⟨wr.heap.size, 2, none⟩ = some (.string ⟨f.of.toArray⟩) := by simp [World.cell?, hB3]
      have HKD := hide (putKind_any w3 q _ f hR3 (by rw [List.length_append]; simp only [List.length_cons, List.length_nil]; omega))
      have HK3 := hide (HKr.out.trans ((KT.of_same hKa).trans hK3))
      clear hB2 hB3 hR3 hK3 hKa HP
      go_wp2_with fail
      refine HKD.out.mono ?_
      rintro e w4 ⟨rfl, hR4, hK4⟩
      have HR4 := hide hR4
      clear hR4
      go_wp2_with fail
      go_roundg (gk - 1)
      case measure => omega
      case rel =>
        refine ⟨j + 1, by omega, by go_num, ?_, HK3.out.trans hK4⟩
        have := HR4.out
        rw [Hid, HT.out]
        simpa [nameT, signT] using this
    · have HT := hide (show t.fields.take j = t.fields from List.take_of_length_le (by omega))
      go_wp2_with fail
      refine (tkSign_any _ _).mono ?_
      rintro e w1 ⟨rfl, hK1⟩
      have HP := hide (put_1 w1 q _ 4 0 [125] (HRr.out.same hK1) (by omega))
      go_wp2_with fail
      refine HP.out.mono ?_
      rintro e w2 ⟨rfl, hR2, hK2⟩
      have HR2 := hide hR2
      clear hR2
      go_wp2_with fail
      go_end0
      refine ⟨rfl, ?_, HKr.out.trans ((KT.of_same hK1).trans hK2)⟩
      have := HR2.out
      rw [HT.out] at this
      simpa [typeTok, nameT, signT] using this

end Go.Proofs.YtkkjchfhgjfclabGreatDoor
