import Derived.Test.YtkkjchfhgjfclabGreatDoorSchematells11
import Derived.Test.YtkkjchfhgjfclabGreatDoorSchematells08
import Derived.Laws.StructEq
import Derived.Test.YtkkjchfhgjfclabGreatDoorSchematells28
import Derived.Test.YtkkjchfhgjfclabGreatDoorSchematells19
import Derived.Deep.CutRange
import Derived.Test.YtkkjchfhgjfclabGreatDoorChecked
import Derived.Test.YtkkjchfhgjfclabGreatDoorSchematells07
/- The laws' own schema. -/
namespace Go.Proofs.YtkkjchfhgjfclabGreatDoor
open Go.RowKit

def tyA : TypeT := ⟨[65], [⟨[110], 1, []⟩, ⟨[116], 2, []⟩, ⟨[98], 3, [66]⟩, ⟨[108], 4, [65]⟩]⟩
def tyB : TypeT := ⟨[66], [⟨[109], 1, []⟩]⟩
def types2 : List TypeT := [tyA, tyB]

/-- fields in a new block -/
theorem FldSl.new (w : World) (l : List FieldT) (hl : l.length ≤ 1000) (x : Array Value) (hx : x.toList = l.flatMap (fun f => [.string ⟨f.name.toArray⟩, .int .i64 f.kind, .string ⟨f.of.toArray⟩])) (w' : World) (hk : Same (w.alloc (.cells x 40)) w') (c : Nat) (hc : l.length ≤ c) :
    FldSl (fun b => b = w.heap.size) w' (.slice (some ⟨w.heap.size, 0, none⟩) l.length c) l := by
  refine ⟨_, c, rfl, ⟨by unfold maxLen; omega, hc⟩, fun i f hf => ⟨w.heap.size, 0, rfl, rfl, ?_⟩⟩
  have key : ∀ j u, x.toList[j]? = some u → w'.cell? ⟨w.heap.size, j, none⟩ = some u := by
    intro j u hj
    refine hk.cell ?_ (fun f => f)
    rw [World.cell?_alloc_new]
    simpa using hj
  have hg : ∀ (l : List FieldT) (i : Nat) (f : FieldT), l[i]? = some f → (l.flatMap (fun f => [Value.string ⟨f.name.toArray⟩, .int .i64 f.kind, .string ⟨f.of.toArray⟩]))[i * 3]? = some (.string ⟨f.name.toArray⟩) ∧ (l.flatMap (fun f => [Value.string ⟨f.name.toArray⟩, .int .i64 f.kind, .string ⟨f.of.toArray⟩]))[i * 3 + 1]? = some (.int .i64 f.kind) ∧ (l.flatMap (fun f => [Value.string ⟨f.name.toArray⟩, .int .i64 f.kind, .string ⟨f.of.toArray⟩]))[i * 3 + 2]? = some (.string ⟨f.of.toArray⟩) := by
    intro l i f hf
    have := fldCells_get l i f hf
    rw [show i * 3 = 3 * i from by omega]
    exact this
  obtain ⟨h1, h2, h3⟩ := hg l i f hf
  rw [← hx] at h1 h2 h3
  rw [Nat.zero_add]
  exact ⟨key _ _ h1, key _ _ h2, key _ _ h3⟩

theorem types_any (w : World) :
    Calls Tryz.prog 38 #[] w fun e w' => ∃ b, e = .returned (.slice (some ⟨b, 0, none⟩) 2 2) ∧ TypSl (fun b => w.heap.size ≤ b) w' (.slice (some ⟨b, 0, none⟩) 2 2) types2 ∧ Same w w' := by
  go_enter Tryz.func38, Tryz.ntmps38
  go_wp2
  go_ret
  obtain ⟨w1, hw1⟩ : ∃ w1, w1 = w.alloc (.cells #[.string ⟨#[110]⟩, .int .i64 1, .string ⟨#[]⟩, .string ⟨#[116]⟩, .int .i64 2, .string ⟨#[]⟩, .string ⟨#[98]⟩, .int .i64 3, .string ⟨#[66]⟩, .string ⟨#[108]⟩, .int .i64 4, .string ⟨#[65]⟩] 40) := ⟨_, rfl⟩
  obtain ⟨w2, hw2⟩ : ∃ w2, w2 = w1.alloc (.cells #[.string ⟨#[109]⟩, .int .i64 1, .string ⟨#[]⟩] 40) := ⟨_, rfl⟩
  obtain ⟨w3, hw3⟩ : ∃ w3, w3 = w2.alloc (.cells #[.string ⟨#[65]⟩, .slice (some ⟨w.heap.size, 0, none⟩) 4 4, .string ⟨#[66]⟩, .slice (some ⟨w1.heap.size, 0, none⟩) 1 1] 38) := ⟨_, rfl⟩
  have k12 : Same w1 w2 := by rw [hw2]; exact (Kept.refl _ _).alloc _
  have k23 : Same w2 w3 := by rw [hw3]; exact (Kept.refl _ _).alloc _
  have k01 : Same w w1 := by rw [hw1]; exact (Kept.refl _ _).alloc _
  have s1 : w1.heap.size = w.heap.size + 1 := by rw [hw1]; simp
  have s2 : w2.heap.size = w.heap.size + 2 := by rw [hw2, World.size_alloc, s1]
  have k13 : Same w1 w3 := k12.trans k23 (fun _ _ f => f.elim)
  have k13' := k13
  rw [hw1] at k13'
  have k23' := k23
  rw [hw2] at k23'
  have f1 := FldSl.new w tyA.fields (by decide) _ (by rfl) w3 k13' 4 (by decide)
  have f2 := FldSl.new w1 tyB.fields (by decide) _ (by rfl) w3 k23' 1 (by decide)
  have key : ∀ j u, [Value.string ⟨#[65]⟩, .slice (some ⟨w.heap.size, 0, none⟩) 4 4, .string ⟨#[66]⟩, .slice (some ⟨w1.heap.size, 0, none⟩) 1 1][j]? = some u → w3.cell? ⟨w2.heap.size, j, none⟩ = some u := by
    intro j u hj
    rw [hw3, World.cell?_alloc_new]
    simpa using hj
  refine ⟨w.heap.size + 2, ?_, ?_, ?_⟩
  · rfl
  · have : TypSl (fun b => w.heap.size ≤ b) w3 (.slice (some ⟨w2.heap.size, 0, none⟩) 2 2) types2 := by
      refine ⟨_, 2, rfl, ⟨by decide, by decide⟩, fun i t ht => ?_⟩
      match i, ht with
      | 0, ht =>
        simp [types2] at ht
        subst ht
        exact ⟨w2.heap.size, 0, _, rfl, by omega, key 0 _ rfl, key 1 _ rfl, f1.mono (fun b _ hb => by omega)⟩
      | 1, ht =>
        simp [types2] at ht
        subst ht
        exact ⟨w2.heap.size, 0, _, rfl, by omega, key 2 _ rfl, key 3 _ rfl, f2.mono (fun b _ hb => by omega)⟩
      | i + 2, ht => simp [types2] at ht
    rw [s2, hw3, hw2, hw1] at this
    simpa using this
  · have := k01.trans (k12.trans k23 (fun _ _ f => f.elim)) (fun _ _ f => f.elim)
    rw [hw3, hw2, hw1] at this
    simpa using this

theorem ck1 : checkSc types2 = 0 := by kernel_rfl

end Go.Proofs.YtkkjchfhgjfclabGreatDoor

/- halyardref.SameTypes of the same types; the laws' own types. -/
namespace Go.Proofs.YtkkjchfhgjfclabGreatDoor
open Go.RowKit

theorem neq_fld (x : FieldT) (w : World) :
    (binOp .neq 40 (.agg #[.string ⟨x.name.toArray⟩, .int .i64 x.kind, .string ⟨x.of.toArray⟩]) (.agg #[.string ⟨x.name.toArray⟩, .int .i64 x.kind, .string ⟨x.of.toArray⟩])).run Tryz.prog w = .ok (.bool false) w := by
  rw [run_neq_struct, run_equalIn_agg _ _ _ _ _ (by kernel_rfl) (by kernel_rfl)]
  rw [show (Tryz.prog.fieldsOf 40).toList = [{ name := "Name", type := 9, offset := 0, embedded := false, tag := "", pkgPath := "", byteOffset := 0 }, { name := "Kind", type := 3, offset := 1, embedded := false, tag := "", pkgPath := "", byteOffset := 16 }, { name := "Of", type := 9, offset := 2, embedded := false, tag := "", pkgPath := "", byteOffset := 24 }] from by kernel_rfl]
  simp [Op.eqFields, go_sem]

set_option maxRecDepth 20000 in
set_option maxHeartbeats 1600000 in
theorem sameTypes_eq (w : World) (va vb : Value) (l : List TypeT) (P Q : Nat → Prop) (ha : TypSl P w va l) (hb : TypSl Q w vb l) :
    Calls Tryz.prog 21 #[va, vb] w fun e w' => e = .returned (.bool true) ∧ ∃ n, w' = w.drewN n := by
  obtain ⟨aa, ca, rfl, ⟨hla, _⟩, _⟩ := id ha
  obtain ⟨ab, cb, rfl, _, _⟩ := id hb
  unfold maxLen at hla
  have hla' : l.length ≤ 9223372036854775807 := hla
  have HA := hide ha
  have HB := hide hb
  clear hla ha hb
  go_enter Tryz.func21, Tryz.ntmps21
  go_wp2_with fail
  go_loopg [5] l.length (fun g i wr => ∃ k n : Nat, k + g = l.length ∧ i = .int .i64 k ∧ wr = w.drewN n)
  case atStart => exact ⟨0, 0, by omega, rfl, rfl⟩
  case round =>
    obtain ⟨k, n, hk, rfl, rfl⟩ := hrel
    by_cases hlt : k < l.length
    · obtain ⟨b1, o1, a1, n1, c1, rfl, p0, p1, hn1, hf1⟩ := HA.out.at k hlt
      obtain ⟨b2, o2, a2, n2, c2, rfl, q0, q1, hn2, hf2⟩ := HB.out.at k hlt
      have hfm : l[k].fields.length ≤ 9223372036854775807 := by
        obtain ⟨_, _, _, h, _⟩ := id hf1
        exact h.1
      obtain ⟨t, hte⟩ : ∃ t, t = l[k] := ⟨_, rfl⟩
      rw [← hte] at p0 q0 hn1 hn2 hf1 hf2 hfm
      subst hn1 hn2
      have HF1 := hide hf1
      have HF2 := hide hf2
      clear hte hf1 hf2
      go_wp2_with fail
      go_quiet (fail)
      go_wp2_with fail
      obtain ⟨G, hG1, hG2⟩ : ∃ G, G ≤ gk ∧ gk ≤ G := ⟨gk, Nat.le_refl _, Nat.le_refl _⟩
      go_loopg [6] t.fields.length (fun g i wr => ∃ j m : Nat, j + g = t.fields.length ∧ i = .int .i64 j ∧ wr = w.drewN m)
      case atStart => exact ⟨0, n + nq, by omega, rfl, by rw [World.drewN_drewN]⟩
      case round =>
        obtain ⟨j, m, hj, rfl, rfl⟩ := hrel
        by_cases hlj : j < t.fields.length
        · obtain ⟨b3, o3, rfl, r0, r1, r2⟩ := HF1.out.at j hlj
          obtain ⟨b4, o4, rfl, s0, s1, s2⟩ := HF2.out.at j hlj
          have hnq := neq_fld t.fields[j]
          obtain ⟨f, hfe⟩ : ∃ f, f = t.fields[j] := ⟨_, rfl⟩
          rw [← hfe] at r0 r1 r2 s0 s1 s2 hnq
          clear hfe
          go_wp2_with fail
          go_quiet (fail)
          go_wp2_with fail
          go_roundg (gk - 1)
          case measure => omega
          case rel => exact ⟨j + 1, _, by omega, by go_num, rfl⟩
        · go_wp2_with fail
          go_roundg (G - 1)
          case measure => omega
          case rel => exact ⟨k + 1, m, by omega, by go_num, rfl⟩
    · go_wp2_with fail
      go_ret
      exact ⟨rfl, _, rfl⟩

end Go.Proofs.YtkkjchfhgjfclabGreatDoor

/- The laws' own schema, and what must be in any case. -/
namespace Go.Proofs.YtkkjchfhgjfclabGreatDoor
open Go.RowKit

theorem rd1 : readSc [116, 121, 112, 101, 32, 65, 32, 123, 32, 110, 58, 32, 78, 117, 109, 98, 101, 114, 32, 116, 58, 32, 84, 101, 120, 116, 32, 98, 58, 32, 66, 32, 108, 58, 32, 91, 65, 93, 32, 125, 32, 116, 121, 112, 101, 32, 66, 32, 123, 32, 109, 58, 32, 78, 117, 109, 98, 101, 114, 32, 125] = .ok types2 := by kernel_rfl
theorem ck2 : checkSc [tyB] = 0 := by kernel_rfl
theorem pr2 : printSc [tyB] = [116, 121, 112, 101, 32, 66, 32, 123, 32, 109, 32, 58, 32, 78, 117, 109, 98, 101, 114, 32, 125] := by
  simp [printSc, typeToks, tyB, fieldToks, kindToks, printF, writtenT, nameT, signT]

theorem TypSl.drop1 {P : Nat → Prop} {w : World} {b : Nat} {t u : TypeT} (h : TypSl P w (.slice (some ⟨b, 0, none⟩) 2 2) [t, u]) : TypSl P w (.slice (some ⟨b, 2, none⟩) 1 1) [u] := by
  obtain ⟨ao, cap, hv, hl, hc⟩ := h
  cases hv
  refine ⟨_, 1, rfl, ⟨by unfold maxLen; simp, by simp⟩, fun i x hx => ?_⟩
  cases i with
  | zero =>
    obtain ⟨b2, o2, vf, e, hp, h0, h1, h2⟩ := hc 1 u rfl
    cases e
    simp at hx
    subst hx
    exact ⟨b, 2, vf, rfl, hp, h0, h1, h2⟩
  | succ i => simp at hx

set_option maxRecDepth 20000 in
set_option maxHeartbeats 1600000 in
theorem schemaBegun_any (w : World) (ht : Tab w) :
    Calls Tryz.prog 14 #[] w fun e w' => e = .returned (.bool true) ∧ Same w w' := by
  have HT := hide ht
  clear ht
  go_enter Tryz.func14, Tryz.ntmps14
  go_wp2_with fail
  refine (scRead_ok _ _ types2 (by exact rd1)).mono ?_
  rintro e w1 ⟨v1, rfl, hv1, hK1⟩
  obtain ⟨a1, c1, rfl, _, _⟩ := id hv1
  have HV1 := hide hv1
  clear hv1
  go_wp2_with fail
  refine (types_any _).mono ?_
  rintro e w2 ⟨b2, rfl, hv2, hK2⟩
  have HP := hide (scPrint_ok w2 _ [tyB] _ hv2.drop1 (tab_keep HT.out (tra hK1 hK2)) ck2)
  rw [pr2] at HP
  clear hv2
  go_wp2_with fail
  refine HP.out.mono ?_
  rintro e w3 ⟨rfl, hK3⟩
  go_wp2_with fail
  refine (types_any _).mono ?_
  rintro e w4 ⟨b4, rfl, hv4, hK4⟩
  have hck := scCheck_any w4 _ types2 _ hv4
  rw [ck1] at hck
  have HCK := hide hck
  clear hck hv4
  go_wp2_with fail
  refine HCK.out.mono ?_
  rintro e w5 ⟨rfl, hK5⟩
  go_wp2_with fail
  refine (types_any _).mono ?_
  rintro e w6 ⟨b6, rfl, hv6, hK6⟩
  have HS := hide (sameTypes_eq w6 _ _ types2 _ _ (HV1.out.same (tra (tra (tra (tra hK2 hK3) hK4) hK5) hK6)) hv6)
  clear hv6
  go_wp2_with fail
  refine HS.out.mono ?_
  rintro e w7 ⟨rfl, n7, rfl⟩
  go_wp2
  go_ret
  exact ⟨rfl, Kept.drewN (tra (tra (tra (tra (tra hK1 hK2) hK3) hK4) hK5) hK6) _⟩

end Go.Proofs.YtkkjchfhgjfclabGreatDoor

/- halyardref.word, sign. -/
namespace Go.Proofs.YtkkjchfhgjfclabGreatDoor
open Go.RowKit

theorem word_ref (w : World) (s : ByteArray) :
    Calls Tryz.prog 35 #[.string s] w fun e w' => e = .returned (.agg #[.int .i64 1, .string s, .int .i64 0]) ∧ Same w w' := by
  go_enter Tryz.func35, Tryz.ntmps35
  go_wp2_with fail
  refine bodyPost_ret (v := .agg #[.int .i64 1, .string s, .int .i64 0]) (by simp [results, Tryz.results35, go_sem]) rfl ⟨rfl, (by repeat' (first | assumption | exact Kept.refl _ _ | refine Kept.drewN ?_ _ | refine Kept.drew ?_ | refine Kept.alloc ?_ _ | refine Kept.setB ?_ _ _))⟩

theorem sign_ref (w : World) (s : ByteArray) :
    Calls Tryz.prog 34 #[.string s] w fun e w' => e = .returned (.agg #[.int .i64 4, .string s, .int .i64 0]) ∧ Same w w' := by
  go_enter Tryz.func34, Tryz.ntmps34
  go_wp2_with fail
  refine bodyPost_ret (v := .agg #[.int .i64 4, .string s, .int .i64 0]) (by simp [results, Tryz.results34, go_sem]) rfl ⟨rfl, (by repeat' (first | assumption | exact Kept.refl _ _ | refine Kept.drewN ?_ _ | refine Kept.drew ?_ | refine Kept.alloc ?_ _ | refine Kept.setB ?_ _ _))⟩

end Go.Proofs.YtkkjchfhgjfclabGreatDoor

/- A row of tokens of one's own, and a box beside it. -/
namespace Go.Proofs.YtkkjchfhgjfclabGreatDoor
open Go.RowKit

theorem tokCells_app (a b : List Tok) : tokCells (a ++ b) = tokCells a ++ tokCells b := by simp [tokCells]

/-- since w there is a row v of the tokens T, new, and a block o at g that is not the row's -/
structure RowB (w wr : World) (v : Value) (T : List Tok) (g : Nat) (o : Obj) : Prop where
  same : Same w wr
  own : wr.ownsRow w.heap.size 65 3 v T.length (tokCells T)
  box : wr.heap[g]? = some o
  ne : v.ownBlock ≠ some g
  low : w.heap.size ≤ g

theorem RowB.lt {w wr : World} {v : Value} {T : List Tok} {g : Nat} {o : Obj} (h : RowB w wr v T g o) : g < wr.heap.size := (Array.getElem?_eq_some_iff.1 h.box).1

theorem RowB.step {w wr w1 : World} {v : Value} {T : List Tok} {g : Nat} {o : Obj} (h : RowB w wr v T g o) (hk : Same wr w1) : RowB w w1 v T g o :=
  ⟨tra h.same hk, own_kept h.own hk (fun _ _ f => f), blk_kept h.box hk (fun f => f), h.ne, h.low⟩

/-- what an owned row is behind an append -/
theorem row_app {w w1 w2 : World} {v v2 : Value} {T : List Tok} (hs : Same w w1) (ho : w1.ownsRow w.heap.size 65 3 v T.length (tokCells T)) (N : List Tok) {cs : List Value} {n : Nat} (hcs : cs = tokCells N) (hn : n = N.length)
    (hown : w2.ownsRow w.heap.size 65 3 v2 (T.length + n) (tokCells T ++ cs)) (hgr : w1.grownBy w2 v.ownBlock) :
    Same w w2 ∧ w2.ownsRow w.heap.size 65 3 v2 (T ++ N).length (tokCells (T ++ N)) := by
  refine ⟨hs.grown hgr (fun k hk hlt => by have := own_row ho k hk; omega), ?_⟩
  rw [tokCells_app, List.length_append, ← hcs, ← hn]
  exact hown

theorem RowB.app {w w1 w2 : World} {v v2 : Value} {T : List Tok} {g : Nat} {o : Obj} (h : RowB w w1 v T g o) (N : List Tok) {cs : List Value} {n : Nat} (hcs : cs = tokCells N) (hn : n = N.length)
    (hown : w2.ownsRow w.heap.size 65 3 v2 (T.length + n) (tokCells T ++ cs)) (hgr : w1.grownBy w2 v.ownBlock) (hat : v2.ownBlock = v.ownBlock ∨ v2.ownBlock = some w1.heap.size) : RowB w w2 v2 (T ++ N) g o := by
  obtain ⟨h1, h2⟩ := row_app h.same h.own N hcs hn hown hgr
  refine ⟨h1, h2, blk_kept h.box (grown_kept hgr) (fun e => h.ne e.symm), fun e => ?_, h.low⟩
  rcases hat with k | k
  · exact h.ne (k.symm.trans e)
  · have e2 := Option.some.inj (k.symm.trans e)
    have := h.lt
    omega

theorem new_cs (w : World) (cs : List Value) (t : TypeId) : ∀ j u, cs[j]? = some u → (w.alloc (.cells cs.toArray t)).cell? ((⟨w.heap.size, 0, none⟩ : Addr).add j) = some u := by
  intro j u hj
  rw [add_none, Nat.zero_add, World.cell?_alloc_new]
  simpa using hj

theorem tokCells_one (l : List Tok) : ∀ u ∈ tokCells l, u.oneCell' = true := by
  intro u hu
  obtain ⟨t, _, ht⟩ := List.mem_flatMap.1 hu
  exact tokC_one t u ht

theorem tokCells_len (l : List Tok) : (tokCells l).length = l.length * 3 := by
  induction l with
  | nil => rfl
  | cons t l ih =>
    have : tokCells (t :: l) = tokC t ++ tokCells l := by simp [tokCells]
    rw [this, List.length_append, ih]
    simp [tokC]
    omega

theorem enters_word (args : Array Value) (w : World) : (callFunc 35 args).run Tryz.prog w = .ok (.enter 35 args) w := by kernel_rfl
theorem enters_sign (args : Array Value) (w : World) : (callFunc 34 args).run Tryz.prog w = .ok (.enter 34 args) w := by kernel_rfl

end Go.Proofs.YtkkjchfhgjfclabGreatDoor

/- The reference: between. -/
namespace Go.Proofs.YtkkjchfhgjfclabGreatDoor
open Go.RowKit

theorem between_any (n a b : Int) (w : World) :
    Calls Tryz.prog 49 #[.int .i64 n, .int .i64 a, .int .i64 b] w fun e w' => e = .returned (.bool (decide (a ≤ n) && decide (n ≤ b))) ∧ w' = w := by
  go_enter Tryz.func49, Tryz.ntmps49
  go_wp2
  all_goals go_ret
  all_goals refine ⟨ret_bool ?_, rfl⟩
  all_goals (rw [Bool.eq_iff_iff]; simp; try omega)

theorem between_is (n a b : Int) (w : World) (t : Bool) (ht : (decide (a ≤ n) && decide (n ≤ b)) = t) :
    Calls Tryz.prog 49 #[.int .i64 n, .int .i64 a, .int .i64 b] w fun e w' => e = .returned (.bool t) ∧ w' = w := by
  subst ht; exact between_any n a b w

end Go.Proofs.YtkkjchfhgjfclabGreatDoor

/- Walks of the document's own functions, on bytes, names and numbers. -/
namespace Go.Proofs.YtkkjchfhgjfclabGreatDoor
open Go.RowKit

theorem rDigit_any (c : UInt8) (w : World) :
    Calls Tryz.prog 79 #[.int .u8 c.toNat] w fun e w' => e = .returned (.bool (dig c)) ∧ w' = w := by
  have h1 : (decide ((48 : Int) ≤ (c.toNat : Int)) && decide ((c.toNat : Int) ≤ 57)) = dig c := by rw [Bool.eq_iff_iff]; simp; omega
  have H1 := hide (between_is (c.toNat : Int) 48 57 w _ h1)
  clear h1
  have h256 : (c.toNat : Int) < 256 := by have := c.toNat_lt; omega
  go_enter Tryz.func79, Tryz.ntmps79
  go_wp2_with fail
  refine H1.out.mono ?_
  rintro e w' ⟨rfl, rfl⟩
  go_wp2_with fail
  go_ret
  exact ⟨rfl, rfl⟩

theorem rLetter_any (c : UInt8) (w : World) :
    Calls Tryz.prog 78 #[.int .u8 c.toNat] w fun e w' => e = .returned (.bool (beg c)) ∧ w' = w := by
  obtain ⟨t1, h1⟩ : ∃ t, (decide ((97 : Int) ≤ (c.toNat : Int)) && decide ((c.toNat : Int) ≤ 122)) = t := ⟨_, rfl⟩
  obtain ⟨t2, h2⟩ : ∃ t, (decide ((65 : Int) ≤ (c.toNat : Int)) && decide ((c.toNat : Int) ≤ 90)) = t := ⟨_, rfl⟩
  have key : beg c = (t1 || t2 || ((c.toNat : Int) == 95)) := by rw [← h1, ← h2, Bool.eq_iff_iff]; simp; omega
  have HK := hide key
  have H1 := hide (fun w => between_is (c.toNat : Int) 97 122 w _ h1)
  have H2 := hide (fun w => between_is (c.toNat : Int) 65 90 w _ h2)
  clear h1 h2 key
  have h256 : (c.toNat : Int) < 256 := by have := c.toNat_lt; omega
  cases t1
  · cases t2
    · go_enter Tryz.func78, Tryz.ntmps78
      go_wp2_with fail
      refine (H1.out _).mono ?_
      rintro e w' ⟨rfl, rfl⟩
      go_wp2_with fail
      refine (H2.out _).mono ?_
      rintro e w' ⟨rfl, rfl⟩
      go_wp2_with fail
      go_ret
      exact ⟨ret_bool (by rw [HK.out]; simp), rfl⟩
    · go_enter Tryz.func78, Tryz.ntmps78
      go_wp2_with fail
      refine (H1.out _).mono ?_
      rintro e w' ⟨rfl, rfl⟩
      go_wp2_with fail
      refine (H2.out _).mono ?_
      rintro e w' ⟨rfl, rfl⟩
      go_wp2_with fail
      go_ret
      exact ⟨ret_bool (by rw [HK.out]; simp), rfl⟩
  · go_enter Tryz.func78, Tryz.ntmps78
    go_wp2_with fail
    refine (H1.out _).mono ?_
    rintro e w' ⟨rfl, rfl⟩
    go_wp2_with fail
    go_ret
    exact ⟨ret_bool (by rw [HK.out]; simp), rfl⟩

end Go.Proofs.YtkkjchfhgjfclabGreatDoor
