import Derived.Test.YtkkjchfhgjfclabGreatDoorSchemaback11
import Derived.Test.YtkkjchfhgjfclabGreatDoorSchemaback08
import Derived.Laws.StructEq
import Derived.Test.YtkkjchfhgjfclabGreatDoorSchemaback28
import Derived.Test.YtkkjchfhgjfclabGreatDoorCards
import Derived.Test.YtkkjchfhgjfclabGreatDoorTie
import Derived.Test.YtkkjchfhgjfclabGreatDoorSchemaback27
import Derived.ProofKit
import Derived.OpenShut
import Derived.SizedLaws
import Derived.Deep.DeepHandedRow
import Derived.Deep.DeepWitnessRowRef
import Derived.Lib.LaidTab
import Derived.Stop.LaidErr
/- The laws' own schema. -/
namespace Go.Proofs.YtkkjchfhgjfclabGreatDoor
open Go.RowKit

def tyA : TypeT := ⟨[65], [⟨[110], 1, []⟩, ⟨[116], 2, []⟩, ⟨[98], 3, [66]⟩, ⟨[108], 4, [65]⟩]⟩
def tyB : TypeT := ⟨[66], [⟨[109], 1, []⟩]⟩
def types2 : List TypeT := [tyA, tyB]

/-- fields in a new block -/
theorem FldSl.new (w : World) (l : List FieldT) (hl : l.length ≤ 1000) (x : Array Value) (hx : x.toList = l.flatMap (fun f => [.string ⟨f.name.toArray⟩, .int .i64 f.kind, .string ⟨f.of.toArray⟩])) (w' : World) (hk : Same (w.alloc (.cells x 40)) w') (c : Nat) (hc : l.length ≤ c) :
    FldSl (fun b => b = w.heap.size) w' (.slice (some ⟨w.heap.size, 0, none⟩) l.length c) l := by
  refine ⟨_, c, rfl, ⟨by unfold maxLen; omega, hc⟩, fun i f hf => ⟨w.heap.size, 0, rfl, rfl, ?_⟩⟩
  have key : ∀ j u, x.toList[j]? = some u → w'.cell? ⟨w.heap.size, j, none⟩ = some u := by
    intro j u hj
    refine hk.cell ?_ (fun f => f)
    rw [World.cell?_alloc_new]
    simpa using hj
  have hg : ∀ (l : List FieldT) (i : Nat) (f : FieldT), l[i]? = some f → (l.flatMap (fun f => [Value.string ⟨f.name.toArray⟩, .int .i64 f.kind, .string ⟨f.of.toArray⟩]))[i * 3]? = some (.string ⟨f.name.toArray⟩) ∧ (l.flatMap (fun f => [Value.string ⟨f.name.toArray⟩, .int .i64 f.kind, .string ⟨f.of.toArray⟩]))[i * 3 + 1]? = some (.int .i64 f.kind) ∧ (l.flatMap (fun f => [Value.string ⟨f.name.toArray⟩, .int .i64 f.kind, .string ⟨f.of.toArray⟩]))[i * 3 + 2]? = some (.string ⟨f.of.toArray⟩) := by
    intro l i f hf
    have := fldCells_get l i f hf
    rw [show i * 3 = 3 * i from by omega]
    exact this
  obtain ⟨h1, h2, h3⟩ := hg l i f hf
  rw [← hx] at h1 h2 h3
  rw [Nat.zero_add]
  exact ⟨key _ _ h1, key _ _ h2, key _ _ h3⟩

theorem types_any (w : World) :
    Calls Tryz.prog 38 #[] w fun e w' => ∃ b, e = .returned (.slice (some ⟨b, 0, none⟩) 2 2) ∧ TypSl (fun b => w.heap.size ≤ b) w' (.slice (some ⟨b, 0, none⟩) 2 2) types2 ∧ Same w w' := by
  go_enter Tryz.func38, Tryz.ntmps38
  go_wp2
  go_ret
  obtain ⟨w1, hw1⟩ : ∃ w1, w1 = w.alloc (.cells #[.string ⟨#[110]⟩, .int .i64 1, .string ⟨#[]⟩, .string ⟨#[116]⟩, .int .i64 2, .string ⟨#[]⟩, .string ⟨#[98]⟩, .int .i64 3, .string ⟨#[66]⟩, .string ⟨#[108]⟩, .int .i64 4, .string ⟨#[65]⟩] 40) := ⟨_, rfl⟩
  obtain ⟨w2, hw2⟩ : ∃ w2, w2 = w1.alloc (.cells #[.string ⟨#[109]⟩, .int .i64 1, .string ⟨#[]⟩] 40) := ⟨_, rfl⟩
  obtain ⟨w3, hw3⟩ : ∃ w3, w3 = w2.alloc (.cells #[.string ⟨#[65]⟩, .slice (some ⟨w.heap.size, 0, none⟩) 4 4, .string ⟨#[66]⟩, .slice (some ⟨w1.heap.size, 0, none⟩) 1 1] 38) := ⟨_, rfl⟩
  have k12 : Same w1 w2 := by rw [hw2]; exact (Kept.refl _ _).alloc _
  have k23 : Same w2 w3 := by rw [hw3]; exact (Kept.refl _ _).alloc _
  have k01 : Same w w1 := by rw [hw1]; exact (Kept.refl _ _).alloc _
  have s1 : w1.heap.size = w.heap.size + 1 := by rw [hw1]; simp
  have s2 : w2.heap.size = w.heap.size + 2 := by rw [hw2, World.size_alloc, s1]
  have k13 : Same w1 w3 := k12.trans k23 (fun _ _ f => f.elim)
  have k13' := k13
  rw [hw1] at k13'
  have k23' := k23
  rw [hw2] at k23'
  have f1 := FldSl.new w tyA.fields (by decide) _ (by rfl) w3 k13' 4 (by decide)
  have f2 := FldSl.new w1 tyB.fields (by decide) _ (by rfl) w3 k23' 1 (by decide)
  have key : ∀ j u, [Value.string ⟨#[65]⟩, .slice (some ⟨w.heap.size, 0, none⟩) 4 4, .string ⟨#[66]⟩, .slice (some ⟨w1.heap.size, 0, none⟩) 1 1][j]? = some u → w3.cell? ⟨w2.heap.size, j, none⟩ = some u := by
    intro j u hj
    rw [hw3, World.cell?_alloc_new]
    simpa using hj
  refine ⟨w.heap.size + 2, ?_, ?_, ?_⟩
  · rfl
  · have : TypSl (fun b => w.heap.size ≤ b) w3 (.slice (some ⟨w2.heap.size, 0, none⟩) 2 2) types2 := by
      refine ⟨_, 2, rfl, ⟨by decide, by decide⟩, fun i t ht => ?_⟩
      match i, ht with
      | 0, ht =>
        simp [types2] at ht
        subst ht
        exact ⟨w2.heap.size, 0, _, rfl, by omega, key 0 _ rfl, key 1 _ rfl, f1.mono (fun b _ hb => by omega)⟩
      | 1, ht =>
        simp [types2] at ht
        subst ht
        exact ⟨w2.heap.size, 0, _, rfl, by omega, key 2 _ rfl, key 3 _ rfl, f2.mono (fun b _ hb => by omega)⟩
      | i + 2, ht => simp [types2] at ht
    rw [s2, hw3, hw2, hw1] at this
    simpa using this
  · have := k01.trans (k12.trans k23 (fun _ _ f => f.elim)) (fun _ _ f => f.elim)
    rw [hw3, hw2, hw1] at this
    simpa using this

theorem ck1 : checkSc types2 = 0 := by kernel_rfl

end Go.Proofs.YtkkjchfhgjfclabGreatDoor

/- halyardref.SameTypes of the same types; the laws' own types. -/
namespace Go.Proofs.YtkkjchfhgjfclabGreatDoor
open Go.RowKit

theorem neq_fld (x : FieldT) (w : World) :
    (binOp .neq 40 (.agg #[.string ⟨x.name.toArray⟩, .int .i64 x.kind, .string ⟨x.of.toArray⟩]) (.agg #[.string ⟨x.name.toArray⟩, .int .i64 x.kind, .string ⟨x.of.toArray⟩])).run Tryz.prog w = .ok (.bool false) w := by
  rw [run_neq_struct, run_equalIn_agg _ _ _ _ _ (by kernel_rfl) (by kernel_rfl)]
  rw [show (Tryz.prog.fieldsOf 40).toList = [{ name := "Name", type := 9, offset := 0, embedded := false, tag := "", pkgPath := "", byteOffset := 0 }, { name := "Kind", type := 3, offset := 1, embedded := false, tag := "", pkgPath := "", byteOffset := 16 }, { name := "Of", type := 9, offset := 2, embedded := false, tag := "", pkgPath := "", byteOffset := 24 }] from by kernel_rfl]
  simp [Op.eqFields, go_sem]

set_option maxRecDepth 20000 in
set_option maxHeartbeats 1600000 in
theorem sameTypes_eq (w : World) (va vb : Value) (l : List TypeT) (P Q : Nat → Prop) (ha : TypSl P w va l) (hb : TypSl Q w vb l) :
    Calls Tryz.prog 21 #[va, vb] w fun e w' => e = .returned (.bool true) ∧ ∃ n, w' = w.drewN n := by
  obtain ⟨aa, ca, rfl, ⟨hla, _⟩, _⟩ := id ha
  obtain ⟨ab, cb, rfl, _, _⟩ := id hb
  unfold maxLen at hla
  have hla' : l.length ≤ 9223372036854775807 := hla
  have HA := hide ha
  have HB := hide hb
  clear hla ha hb
  go_enter Tryz.func21, Tryz.ntmps21
  go_wp2_with fail
  go_loopg [5] l.length (fun g i wr => ∃ k n : Nat, k + g = l.length ∧ i = .int .i64 k ∧ wr = w.drewN n)
  case atStart => exact ⟨0, 0, by omega, rfl, rfl⟩
  case round =>
    obtain ⟨k, n, hk, rfl, rfl⟩ := hrel
    by_cases hlt : k < l.length
    · obtain ⟨b1, o1, a1, n1, c1, rfl, p0, p1, hn1, hf1⟩ := HA.out.at k hlt
      obtain ⟨b2, o2, a2, n2, c2, rfl, q0, q1, hn2, hf2⟩ := HB.out.at k hlt
      have hfm : l[k].fields.length ≤ 9223372036854775807 := by
        obtain ⟨_, _, _, h, _⟩ := id hf1
        exact h.1
      obtain ⟨t, hte⟩ : ∃ t, t = l[k] := ⟨_, rfl⟩
      rw [← hte] at p0 q0 hn1 hn2 hf1 hf2 hfm
      subst hn1 hn2
      have HF1 := hide hf1
      have HF2 := hide hf2
      clear hte hf1 hf2
      go_wp2_with fail
      go_quiet (fail)
      go_wp2_with fail
      obtain ⟨G, hG1, hG2⟩ : ∃ G, G ≤ gk ∧ gk ≤ G := ⟨gk, Nat.le_refl _, Nat.le_refl _⟩
      go_loopg [6] t.fields.length (fun g i wr => ∃ j m : Nat, j + g = t.fields.length ∧ i = .int .i64 j ∧ wr = w.drewN m)
      case atStart => exact ⟨0, n + nq, by omega, rfl, by rw [World.drewN_drewN]⟩
      case round =>
        obtain ⟨j, m, hj, rfl, rfl⟩ := hrel
        by_cases hlj : j < t.fields.length
        · obtain ⟨b3, o3, rfl, r0, r1, r2⟩ := HF1.out.at j hlj
          obtain ⟨b4, o4, rfl, s0, s1, s2⟩ := HF2.out.at j hlj
          have hnq := neq_fld t.fields[j]
          obtain ⟨f, hfe⟩ : ∃ f, f = t.fields[j] := ⟨_, rfl⟩
          rw [← hfe] at r0 r1 r2 s0 s1 s2 hnq
          clear hfe
          go_wp2_with fail
          go_quiet (fail)
          go_wp2_with fail
          go_roundg (gk - 1)
          case measure => omega
          case rel => exact ⟨j + 1, _, by omega, by go_num, rfl⟩
        · go_wp2_with fail
          go_roundg (G - 1)
          case measure => omega
          case rel => exact ⟨k + 1, m, by omega, by go_num, rfl⟩
    · go_wp2_with fail
      go_ret
      exact ⟨rfl, _, rfl⟩

end Go.Proofs.YtkkjchfhgjfclabGreatDoor

/- The laws' own schema, and what must be in any case. -/
namespace Go.Proofs.YtkkjchfhgjfclabGreatDoor
open Go.RowKit

theorem rd1 : readSc [116, 121, 112, 101, 32, 65, 32, 123, 32, 110, 58, 32, 78, 117, 109, 98, 101, 114, 32, 116, 58, 32, 84, 101, 120, 116, 32, 98, 58, 32, 66, 32, 108, 58, 32, 91, 65, 93, 32, 125, 32, 116, 121, 112, 101, 32, 66, 32, 123, 32, 109, 58, 32, 78, 117, 109, 98, 101, 114, 32, 125] = .ok types2 := by kernel_rfl
theorem ck2 : checkSc [tyB] = 0 := by kernel_rfl
theorem pr2 : printSc [tyB] = [116, 121, 112, 101, 32, 66, 32, 123, 32, 109, 32, 58, 32, 78, 117, 109, 98, 101, 114, 32, 125] := by
  simp [printSc, typeToks, tyB, fieldToks, kindToks, printF, writtenT, nameT, signT]

theorem TypSl.drop1 {P : Nat → Prop} {w : World} {b : Nat} {t u : TypeT} (h : TypSl P w (.slice (some ⟨b, 0, none⟩) 2 2) [t, u]) : TypSl P w (.slice (some ⟨b, 2, none⟩) 1 1) [u] := by
  obtain ⟨ao, cap, hv, hl, hc⟩ := h
  cases hv
  refine ⟨_, 1, rfl, ⟨by unfold maxLen; simp, by simp⟩, fun i x hx => ?_⟩
  cases i with
  | zero =>
    obtain ⟨b2, o2, vf, e, hp, h0, h1, h2⟩ := hc 1 u rfl
    cases e
    simp at hx
    subst hx
    exact ⟨b, 2, vf, rfl, hp, h0, h1, h2⟩
  | succ i => simp at hx

set_option maxRecDepth 20000 in
set_option maxHeartbeats 1600000 in
theorem schemaBegun_any (w : World) (ht : Tab w) :
    Calls Tryz.prog 14 #[] w fun e w' => e = .returned (.bool true) ∧ Same w w' := by
  have HT := hide ht
  clear ht
  go_enter Tryz.func14, Tryz.ntmps14
  go_wp2_with fail
  refine (scRead_ok _ _ types2 (by exact rd1)).mono ?_
  rintro e w1 ⟨v1, rfl, hv1, hK1⟩
  obtain ⟨a1, c1, rfl, _, _⟩ := id hv1
  have HV1 := hide hv1
  clear hv1
  go_wp2_with fail
  refine (types_any _).mono ?_
  rintro e w2 ⟨b2, rfl, hv2, hK2⟩
  have HP := hide (scPrint_ok w2 _ [tyB] _ hv2.drop1 (tab_keep HT.out (tra hK1 hK2)) ck2)
  rw [pr2] at HP
  clear hv2
  go_wp2_with fail
  refine HP.out.mono ?_
  rintro e w3 ⟨rfl, hK3⟩
  go_wp2_with fail
  refine (types_any _).mono ?_
  rintro e w4 ⟨b4, rfl, hv4, hK4⟩
  have hck := scCheck_any w4 _ types2 _ hv4
  rw [ck1] at hck
  have HCK := hide hck
  clear hck hv4
  go_wp2_with fail
  refine HCK.out.mono ?_
  rintro e w5 ⟨rfl, hK5⟩
  go_wp2_with fail
  refine (types_any _).mono ?_
  rintro e w6 ⟨b6, rfl, hv6, hK6⟩
  have HS := hide (sameTypes_eq w6 _ _ types2 _ _ (HV1.out.same (tra (tra (tra (tra hK2 hK3) hK4) hK5) hK6)) hv6)
  clear hv6
  go_wp2_with fail
  refine HS.out.mono ?_
  rintro e w7 ⟨rfl, n7, rfl⟩
  go_wp2
  go_ret
  exact ⟨rfl, Kept.drewN (tra (tra (tra (tra (tra hK1 hK2) hK3) hK4) hK5) hK6) _⟩

end Go.Proofs.YtkkjchfhgjfclabGreatDoor

/- SchemaBack: the walk of the law's function. -/
namespace Go.Proofs.YtkkjchfhgjfclabGreatDoor
open Go.RowKit

theorem bytes_list (l : List UInt8) : (⟨l.toArray⟩ : ByteArray).data.toList = l := by simp

set_option maxRecDepth 20000 in
set_option maxHeartbeats 3200000 in
theorem schemaBack_any (w : World) (s : ByteArray) (v : Value) (l : List TypeT) (ht : Tab w) (hv : TypSl anyB w v l) :
    Calls Tryz.prog 6 #[.string s, v] w fun e w' => e = .returned (.bool true) ∧ Same w w' := by
  have HT := hide ht
  have HV := hide hv
  obtain ⟨ao, cap, rfl, _, _⟩ := id hv
  clear ht hv
  -- the second half, from whatever world it begins in
  have hB : ∀ (w1 : World), Same w w1 → (∃ n, readSc s.data.toList = .error n) ∨ (∃ m, readSc s.data.toList = .ok m) := fun w1 _ => by
    cases h : readSc s.data.toList with
    | error n => exact .inl ⟨n, rfl⟩
    | ok m => exact .inr ⟨m, rfl⟩
  clear hB
  obtain ⟨c, hc⟩ : ∃ c, checkSc l = c := ⟨_, rfl⟩
  have HC := hide hc
  cases hr : readSc s.data.toList with
  | error n =>
    have HR := hide hr
    clear hr
    by_cases hc0 : c = 0
    · have HC0 := hide (hc.trans hc0)
      clear hc hc0
      go_enter Tryz.func6, Tryz.ntmps6
      go_wp2_with fail
      refine (schemaBegun_any _ HT.out).mono ?_
      rintro e w1 ⟨rfl, hK1⟩
      go_wp2_with fail
      refine (scPrint_ok w1 _ l _ (HV.out.same hK1) (tab_keep HT.out hK1) HC0.out).mono ?_
      rintro e w2 ⟨rfl, hK2⟩
      go_wp2_with fail
      refine (scRead_ok _ _ l (by rw [bytes_list]; exact readSc_print HC0.out)).mono ?_
      rintro e w3 ⟨v3, rfl, hv3, hK3⟩
      obtain ⟨a3, c3, rfl, _, _⟩ := id hv3
      have HS := hide (sameTypes_eq w3 _ _ l _ _ hv3 (HV.out.same (tra (tra hK1 hK2) hK3)))
      clear hv3
      go_wp2_with fail
      refine HS.out.mono ?_
      rintro e w4 ⟨rfl, n4, rfl⟩
      go_wp2_with fail
      refine (scRead_bad _ s n HR.out).mono ?_
      rintro e w5 ⟨rfl, hK5, hn⟩
      have hn' : (n != 0) = true := by simp [hn]
      clear hn
      go_wp2_with fail
      go_ret
      exact ⟨rfl, tra (Kept.drewN (tra (tra hK1 hK2) hK3) _) hK5⟩
    · have hc1 : (c == 0) = false := by simp [hc0]
      have HC0 := hide hc0
      clear hc hc0
      go_enter Tryz.func6, Tryz.ntmps6
      go_wp2_with fail
      refine (schemaBegun_any _ HT.out).mono ?_
      rintro e w1 ⟨rfl, hK1⟩
      go_wp2_with fail
      refine (scPrint_bad w1 _ l _ (HV.out.same hK1) (tab_keep HT.out hK1) c HC.out HC0.out).mono ?_
      rintro e w2 ⟨rfl, hK2⟩
      go_wp2_with fail
      refine (scRead_bad _ s n HR.out).mono ?_
      rintro e w5 ⟨rfl, hK5, hn⟩
      have hn' : (n != 0) = true := by simp [hn]
      clear hn
      go_wp2_with fail
      go_ret
      exact ⟨rfl, tra (tra hK1 hK2) hK5⟩
  | ok m =>
    have HR := hide hr
    have HCM := hide (readSc_right hr)
    clear hr
    by_cases hc0 : c = 0
    · have HC0 := hide (hc.trans hc0)
      clear hc hc0
      go_enter Tryz.func6, Tryz.ntmps6
      go_wp2_with fail
      refine (schemaBegun_any _ HT.out).mono ?_
      rintro e w1 ⟨rfl, hK1⟩
      go_wp2_with fail
      refine (scPrint_ok w1 _ l _ (HV.out.same hK1) (tab_keep HT.out hK1) HC0.out).mono ?_
      rintro e w2 ⟨rfl, hK2⟩
      go_wp2_with fail
      refine (scRead_ok _ _ l (by rw [bytes_list]; exact readSc_print HC0.out)).mono ?_
      rintro e w3 ⟨v3, rfl, hv3, hK3⟩
      obtain ⟨a3, c3, rfl, _, _⟩ := id hv3
      have HS := hide (sameTypes_eq w3 _ _ l _ _ hv3 (HV.out.same (tra (tra hK1 hK2) hK3)))
      clear hv3
      go_wp2_with fail
      refine HS.out.mono ?_
      rintro e w4 ⟨rfl, n4, rfl⟩
      have hKa : Same w (w3.drewN n4) := Kept.drewN (tra (tra hK1 hK2) hK3) _
      go_wp2_with fail
      refine (scRead_ok _ s m HR.out).mono ?_
      rintro e w5 ⟨v5, rfl, hv5, hK5⟩
      obtain ⟨a5, c5, rfl, _, _⟩ := id hv5
      have HV5 := hide hv5
      have hKb : Same w w5 := tra hKa hK5
      have HP5 := hide (scPrint_ok w5 _ m _ hv5 (tab_keep HT.out hKb) HCM.out)
      clear hv5
      go_wp2_with fail
      refine HP5.out.mono ?_
      rintro e w6 ⟨rfl, hK6⟩
      go_wp2_with fail
      refine (scRead_ok _ _ m (by rw [bytes_list]; exact readSc_print HCM.out)).mono ?_
      rintro e w7 ⟨v7, rfl, hv7, hK7⟩
      obtain ⟨a7, c7, rfl, _, _⟩ := id hv7
      have HS7 := hide (sameTypes_eq w7 _ _ m _ _ hv7 (HV5.out.same (tra hK6 hK7)))
      have hck := fun n => scCheck_any (w7.drewN n) _ m _ (HV5.out.same (Kept.drewN (tra hK6 hK7) n))
      rw [HCM.out] at hck
      have HCK := hide hck
      clear hv7 hck
      go_wp2_with fail
      refine HS7.out.mono ?_
      rintro e w8 ⟨rfl, n8, rfl⟩
      go_wp2_with fail
      refine (HCK.out n8).mono ?_
      rintro e w9 ⟨rfl, hK9⟩
      go_wp2_with fail
      go_ret
      exact ⟨rfl, tra (Kept.drewN (tra (tra hKb hK6) hK7) _) hK9⟩
    · have hc1 : (c == 0) = false := by simp [hc0]
      have HC0 := hide hc0
      clear hc hc0
      go_enter Tryz.func6, Tryz.ntmps6
      go_wp2_with fail
      refine (schemaBegun_any _ HT.out).mono ?_
      rintro e w1 ⟨rfl, hK1⟩
      go_wp2_with fail
      refine (scPrint_bad w1 _ l _ (HV.out.same hK1) (tab_keep HT.out hK1) c HC.out HC0.out).mono ?_
      rintro e w2 ⟨rfl, hK2⟩
      have hKa : Same w w2 := tra hK1 hK2
      go_wp2_with fail
      refine (scRead_ok _ s m HR.out).mono ?_
      rintro e w5 ⟨v5, rfl, hv5, hK5⟩
      obtain ⟨a5, c5, rfl, _, _⟩ := id hv5
      have HV5 := hide hv5
      have hKb : Same w w5 := tra hKa hK5
      have HP5 := hide (scPrint_ok w5 _ m _ hv5 (tab_keep HT.out hKb) HCM.out)
      clear hv5
      go_wp2_with fail
      refine HP5.out.mono ?_
      rintro e w6 ⟨rfl, hK6⟩
      go_wp2_with fail
      refine (scRead_ok _ _ m (by rw [bytes_list]; exact readSc_print HCM.out)).mono ?_
      rintro e w7 ⟨v7, rfl, hv7, hK7⟩
      obtain ⟨a7, c7, rfl, _, _⟩ := id hv7
      have HS7 := hide (sameTypes_eq w7 _ _ m _ _ hv7 (HV5.out.same (tra hK6 hK7)))
      have hck := fun n => scCheck_any (w7.drewN n) _ m _ (HV5.out.same (Kept.drewN (tra hK6 hK7) n))
      rw [HCM.out] at hck
      have HCK := hide hck
      clear hv7 hck
      go_wp2_with fail
      refine HS7.out.mono ?_
      rintro e w8 ⟨rfl, n8, rfl⟩
      go_wp2_with fail
      refine (HCK.out n8).mono ?_
      rintro e w9 ⟨rfl, hK9⟩
      go_wp2_with fail
      go_ret
      exact ⟨rfl, tra (Kept.drewN (tra (tra hKb hK6) hK7) _) hK9⟩

end Go.Proofs.YtkkjchfhgjfclabGreatDoor

/- One start that fits: the listed variables as their initialisers lay them; what the list gives the walks. -/
namespace Go.Proofs.YtkkjchfhgjfclabGreatDoor
open Go.ChangeShapes Go.WideShapes Go.ChangeAt Go.RowKit

theorem own : ownKnob Tryz.prog.godebug = none := by kernel_rfl
theorem gTab : Tryz.prog.globalNamed "internal/strconv.uint64pow10" = some 1 := by kernel_rfl
theorem gTabType : (Tryz.prog.globals[1]?).map (·.type) = some 182 := by kernel_rfl
theorem cellsTab : Tryz.prog.cellsOf 182 = 20 := by kernel_rfl
theorem cellsU64 : Tryz.prog.cellsOf 168 = 1 := by kernel_rfl

/-- WHAT THE ROWS' LIST GIVES: strconv's table of powers. -/
theorem table {W : World} (h : laidMetH Tryz.prog Rows.queryBackRow.laid W) : Tab W :=
  Lib.tabIs_of_head (rest := _) gTab gTabType Tryz.underlying182 Tryz.underlying168 cellsU64 cellsTab (laidMet.tail (laidMet.tail h))

def tabCells : DataW Unit → Array Value
  | .agg l => (l.map fun d => match d with | .lit (.int k n) => Value.int k n | _ => Value.nilIface).toArray
  | _ => #[]
def textOf : DataW Unit → ByteArray
  | .iface _ (.ptr (.agg [.lit (.string b)])) => ⟨b.toArray⟩
  | _ => ⟨#[]⟩

/-- So many blocks has the settled world. -/
noncomputable def low : Nat := (World.holding Tryz.prog default ⟨#[], #[], []⟩).heap.size

/-- The settled world, the listed variables holding what their initialisers lay. -/
noncomputable def laidWorld (os : Os) : World :=
  let w0 := World.holding Tryz.prog os ⟨#[.cells #[.string (textOf Rows.laid_strconv_ErrRange)] 196, .cells #[.string (textOf Rows.laid_strconv_ErrSyntax)] 196], #[], []⟩
  let put (h : Array Obj) (g : Nat) (c : Array Value) : Array Obj := h.modify g fun
    | .cells _ t frozen => .cells c t frozen
    | o => o
  let h1 := put w0.heap 1 (tabCells Rows.laid_internal_strconv_uint64pow10)
  let h2 := put h1 4 (tabCells Rows.laid_math_bits_deBruijn32tab)
  let h3 := put h2 5 (tabCells Rows.laid_math_bits_deBruijn64tab)
  let h4 := put h3 3 #[.iface 194 (.pointer (some ⟨low, 0, none⟩))]
  let h5 := put h4 2 #[.iface 194 (.pointer (some ⟨low + 1, 0, none⟩))]
  { w0 with heap := h5 }

theorem laid_met (os : Os) (args : Array Value) : laidMet Tryz.prog Rows.queryBackRow.laid ((laidWorld os).forCall (fun _ _ => 0) ⟨#[], args, []⟩).memory :=
  laidMet_of_run' 8 (by kernel_rfl) (by kernel_rfl)

end Go.Proofs.YtkkjchfhgjfclabGreatDoor
