/- The laws' own state. -/
import Derived.Test.YtidodjbmlbjchaaGreatHistorystaysupto46
import Derived.Test.YtidodjbmlbjchaaGreatHistorystaysupto41
import Derived.Test.YtidodjbmlbjchaaGreatHistorystaysupto49
namespace Go.Proofs.YtidodjbmlbjchaaGreat
open Go.RowKit

def cw1 : CellT := ⟨5, [], []⟩
def cw2 : CellT := ⟨0, [120], []⟩
def cw3 : CellT := ⟨0, [], [1]⟩
def cw4 : CellT := ⟨0, [], [3, 4]⟩
def cw5 : CellT := ⟨-1, [], []⟩
def tw1 : ThingT := ⟨0, 3, [cw1, cw2, cw3, cw4]⟩
def tw2 : ThingT := ⟨0, 4, [cell0, cell0, cell0, cell0]⟩
def tw3 : ThingT := ⟨1, 1, [cw5]⟩
def things3 : List ThingT := [tw1, tw2, tw3]
def world3 : StateT := ⟨types2, things3⟩

def VCe (P : Nat → Prop) (c : CellT) (w : World) (v : Value) : Prop := ∃ vi, v = ceV c vi ∧ IdsSl P w vi c.ids
def VTh (P : Nat → Prop) (t : ThingT) (w : World) (v : Value) : Prop := ∃ vc, v = thV t vc ∧ CelSl P w vc t.cells
/-- what is yielded by each operation of world -/
def WV (P : Nat → Prop) (j : Nat) (w : World) (v : Value) : Prop :=
  match j with
  | 0 => TypSl P w v types2
  | 1 => VCe P cw1 w v
  | 2 => VCe P cw2 w v
  | 3 => IdsSl P w v [1]
  | 4 => VCe P cw3 w v
  | 5 => IdsSl P w v [3, 4]
  | 6 => VCe P cw4 w v
  | 7 => CelSl P w v tw1.cells
  | 8 => VTh P tw1 w v
  | 9 => CelSl P w v tw2.cells
  | 10 => VTh P tw2 w v
  | 11 => VCe P cw5 w v
  | 12 => CelSl P w v tw3.cells
  | 13 => VTh P tw3 w v
  | 14 => ThgSl P w v things3
  | 15 => ∃ vt vh, v = stV vt vh ∧ TypSl P w vt types2 ∧ ThgSl P w vh things3
  | _ => True

theorem WV.keep {P X : Nat → Prop} {j : Nat} {w w' : World} {v : Value} (h : WV P j w v) (hk : Kept X w w') (hx : ∀ b, P b → ¬ X b) : WV P j w' v := by
  match j, h with
  | 0, h => exact TypSl.keep (l := types2) h hk hx
  | 1, ⟨vi, e, h⟩ => exact ⟨vi, e, h.keep hk hx⟩
  | 2, ⟨vi, e, h⟩ => exact ⟨vi, e, h.keep hk hx⟩
  | 3, h => exact IdsSl.keep (l := [1]) h hk hx
  | 4, ⟨vi, e, h⟩ => exact ⟨vi, e, h.keep hk hx⟩
  | 5, h => exact IdsSl.keep (l := [3, 4]) h hk hx
  | 6, ⟨vi, e, h⟩ => exact ⟨vi, e, h.keep hk hx⟩
  | 7, h => exact CelSl.keep (l := tw1.cells) h hk hx
  | 8, ⟨vi, e, h⟩ => exact ⟨vi, e, h.keep hk hx⟩
  | 9, h => exact CelSl.keep (l := tw2.cells) h hk hx
  | 10, ⟨vi, e, h⟩ => exact ⟨vi, e, h.keep hk hx⟩
  | 11, ⟨vi, e, h⟩ => exact ⟨vi, e, h.keep hk hx⟩
  | 12, h => exact CelSl.keep (l := tw3.cells) h hk hx
  | 13, ⟨vi, e, h⟩ => exact ⟨vi, e, h.keep hk hx⟩
  | 14, h => exact ThgSl.keep (l := things3) h hk hx
  | 15, ⟨vt, vh, e, h1, h2⟩ => exact ⟨vt, vh, e, h1.keep hk hx, h2.keep hk hx⟩
  | _ + 16, _ => trivial

theorem new_at {w : World} {arr : Array Value} {t : TypeId} {j : Nat} {u : Value} (h : arr.toList[j]? = some u) : (w.alloc (.cells arr t)).cell? ⟨w.heap.size, j, none⟩ = some u := by
  rw [World.cell?_alloc_new]
  simpa using h

theorem ids_new {P : Nat → Prop} {w : World} (hP : P w.heap.size) (l : List Int) (hn : l.length ≤ maxLen) {arr : Array Value} {t : TypeId} (ha : arr.toList = idCells l) :
    IdsSl P (w.alloc (.cells arr t)) (.slice (some ⟨w.heap.size, 0, none⟩) l.length l.length) l := by
  refine ⟨_, l.length, rfl, ⟨hn, Nat.le_refl _⟩, fun i x hx => ⟨w.heap.size, 0, rfl, hP, ?_⟩⟩
  rw [Nat.zero_add]
  exact new_at (by rw [ha]; exact idCells_get hx)
theorem cel_new {P : Nat → Prop} {w : World} (hP : P w.heap.size) (cp : List (CellT × Value)) (hn : cp.length ≤ maxLen) {arr : Array Value} {t : TypeId} (ha : arr.toList = ceCells cp) (hc : ∀ p ∈ cp, IdsSl P w p.2 p.1.ids) :
    CelSl P (w.alloc (.cells arr t)) (.slice (some ⟨w.heap.size, 0, none⟩) cp.length cp.length) (cp.map Prod.fst) := by
  refine ⟨some ⟨w.heap.size, 0, none⟩, cp.length, by rw [List.length_map], ⟨by simpa using hn, by simp⟩, fun i x hx => ?_⟩
  rw [List.getElem?_map] at hx
  cases hp : cp[i]? with
  | none => rw [hp] at hx; cases hx
  | some p =>
    rw [hp] at hx
    cases hx
    obtain ⟨g1, g2, g3⟩ := ceCells_get hp
    rw [← ha] at g1 g2 g3
    refine ⟨w.heap.size, 0, p.2, rfl, hP, ?_, ?_, ?_, (hc p (List.mem_of_getElem? hp)).same ((Kept.refl _ w).alloc _)⟩
    · rw [Nat.zero_add]; exact new_at g1
    · rw [Nat.zero_add]; exact new_at g2
    · rw [Nat.zero_add]; exact new_at g3
theorem thg_new {P : Nat → Prop} {w : World} (hP : P w.heap.size) (cp : List (ThingT × Value)) (hn : cp.length ≤ maxLen) {arr : Array Value} {t : TypeId} (ha : arr.toList = thCells cp) (hc : ∀ p ∈ cp, CelSl P w p.2 p.1.cells) :
    ThgSl P (w.alloc (.cells arr t)) (.slice (some ⟨w.heap.size, 0, none⟩) cp.length cp.length) (cp.map Prod.fst) := by
  refine ⟨some ⟨w.heap.size, 0, none⟩, cp.length, by rw [List.length_map], ⟨by simpa using hn, by simp⟩, fun i x hx => ?_⟩
  rw [List.getElem?_map] at hx
  cases hp : cp[i]? with
  | none => rw [hp] at hx; cases hx
  | some p =>
    rw [hp] at hx
    cases hx
    obtain ⟨g1, g2, g3⟩ := thCells_get hp
    rw [← ha] at g1 g2 g3
    refine ⟨w.heap.size, 0, p.2, rfl, hP, ?_, ?_, ?_, (hc p (List.mem_of_getElem? hp)).same ((Kept.refl _ w).alloc _)⟩
    · rw [Nat.zero_add]; exact new_at g1
    · rw [Nat.zero_add]; exact new_at g2
    · rw [Nat.zero_add]; exact new_at g3

structure WI (w0 : World) (listed : Array Bool) (a : Act) (w : World) : Prop where
  size : a.tmps.size = 17
  defers : a.defers = []
  ptr : a.tmps[0]? = some (.pointer (some ⟨w0.heap.size, 0, none⟩))
  kept : Same w0 w
  lt : w0.heap.size < w.heap.size
  box0 : listed.getD 16 false = false → w.heap[w0.heap.size]? = some (.cells #[.slice none 0 0, .slice none 0 0] 25 (0, 0))
  box1 : listed.getD 16 false = true → ∃ vt vh, w.heap[w0.heap.size]? = some (.cells #[vt, vh] 25 (0, 0)) ∧ TypSl (· ≠ w0.heap.size) w vt types2 ∧ ThgSl (· ≠ w0.heap.size) w vh things3
  vals : ∀ j v, j < 16 → listed.getD j false = true → a.tmps[j + 1]? = some v → WV (· ≠ w0.heap.size) j w v

theorem WI.step {w0 w w' : World} {listed : Array Bool} {a a' : Act} (h : WI w0 listed a w) (i : Nat) (hi : i < 16) (v : Value) (ha : a' = ⟨a.tmps.setIfInBounds (i + 1) v, a.defers⟩) (hk : Same w w') (hv : WV (· ≠ w0.heap.size) i w' v) : WI w0 (listed.setIfInBounds i true) a' w' := by
  subst ha
  have h16 : (listed.setIfInBounds i true).getD 16 false = listed.getD 16 false := getD_set_ne false (by omega)
  refine ⟨by simpa using h.size, h.defers, ?_, tra h.kept hk, Nat.lt_of_lt_of_le h.lt hk.size, fun hb => ?_, fun hb => ?_, fun j u hj hl hu => ?_⟩
  · rw [Array.getElem?_setIfInBounds_ne (by omega)]; exact h.ptr
  · rw [h16] at hb; exact blk_kept (h.box0 hb) hk (fun f => f)
  · rw [h16] at hb
    obtain ⟨vt, vh, h1, h2, h3⟩ := h.box1 hb
    exact ⟨vt, vh, blk_kept h1 hk (fun f => f), h2.same hk, h3.same hk⟩
  · by_cases e : j = i
    · subst e
      have hs := h.size
      rw [Array.getElem?_setIfInBounds_self_of_lt (by omega)] at hu
      cases hu
      exact hv
    · rw [Array.getElem?_setIfInBounds_ne (by omega)] at hu
      rw [getD_set_ne false (Ne.symm e)] at hl
      exact (h.vals j u hj hl hu).keep hk (fun _ _ f => f)

theorem arr_get {α : Type} {a b : Array α} (h : a = b) (j : Nat) : a[j]? = b[j]? := by rw [h]

set_option maxRecDepth 20000 in
set_option maxHeartbeats 1600000 in
theorem world_any (w : World) :
    Calls Tryz.prog 40 #[] w fun r w' => ∃ vt vh, r = .returned (stV vt vh) ∧ TypSl anyB w' vt types2 ∧ ThgSl anyB w' vh things3 ∧ Same w w' := by
  have HTY := hide (fun wy => types_any wy)
  obtain ⟨W, hW⟩ : ∃ W, W = w.alloc (.cells #[.slice none 0 0, .slice none 0 0] 25) := ⟨_, rfl⟩
  have HKW := hide (show Same w W by rw [hW]; exact (Kept.refl _ w).alloc _)
  have HLT := hide (show w.heap.size < W.heap.size by rw [hW, World.size_alloc]; omega)
  have HB := hide (show W.heap[w.heap.size]? = some (.cells #[.slice none 0 0, .slice none 0 0] 25 (0, 0)) by rw [hW]; exact heap_alloc_new _ _)
  go_enter Tryz.func40, Tryz.ntmps40
  go_upto_region 1 with fail
  rw [← hW]
  clear hW
  refine wp_inv (WI w) (by kernel_rfl) ⟨rfl, rfl, rfl, HKW.out.drew, HLT.out, fun _ => HB.out, fun h => absurd h (by decide), fun j v hj hl => by rw [Array.getD_eq_getD_getElem?, Array.getElem?_replicate] at hl; split at hl <;> simp at hl⟩ ?_ ?_
  · intro listed a w1 i hls hI hr
    obtain ⟨tmps, defers⟩ := a
    obtain ⟨x0, x1, x2, x3, x4, x5, x6, x7, x8, x9, x10, x11, x12, x13, x14, x15, x16, htm⟩ := arr17 tmps hI.size
    subst htm
    obtain rfl : defers = [] := hI.defers
    have h0 := hI.ptr
    simp at h0
    subst h0
    have hnew : ∀ k, w1.heap.size ≤ k → k ≠ w.heap.size := fun k hk e => by have := hI.lt; omega
    have hi := ready_lt hr
    have hi17 : i < 17 := hi
    rcases (show i = 0 ∨ i = 1 ∨ i = 2 ∨ i = 3 ∨ i = 4 ∨ i = 5 ∨ i = 6 ∨ i = 7 ∨ i = 8 ∨ i = 9 ∨ i = 10 ∨ i = 11 ∨ i = 12 ∨ i = 13 ∨ i = 14 ∨ i = 15 ∨ i = 16 by omega) with rfl | rfl | rfl | rfl | rfl | rfl | rfl | rfl | rfl | rfl | rfl | rfl | rfl | rfl | rfl | rfl | rfl
    · skip
      refine wpOp_step rfl (fun K hK => ?_)
      have HK := hide hK
      have HI := hide hI
      clear hK hI hr hi hi17
      go_simp
      refine (HTY.out _).mono ?_
      rintro r w2 ⟨b, rfl, hty, hK2⟩
      exact HK.out _ _ (HI.out.step 0 (by decide) _ rfl hK2 (hty.mono (fun k _ hk => hnew k hk)))
    · skip
      refine wpOp_step rfl (fun K hK => ?_)
      have HK := hide hK
      have HI := hide hI
      clear hK hI hr hi hi17
      go_simp
      exact HK.out _ _ (HI.out.step 1 (by decide) _ rfl (Kept.refl _ w1) ⟨_, rfl, IdsSl.nil _ _⟩)
    · skip
      refine wpOp_step rfl (fun K hK => ?_)
      have HK := hide hK
      have HI := hide hI
      clear hK hI hr hi hi17
      go_simp
      exact HK.out _ _ (HI.out.step 2 (by decide) _ rfl (Kept.refl _ w1) ⟨_, rfl, IdsSl.nil _ _⟩)
    · skip
      refine wpOp_step rfl (fun K hK => ?_)
      have HK := hide hK
      have HI := hide hI
      clear hK hI hr hi hi17
      go_simp
      exact HK.out _ _ (HI.out.step 3 (by decide) _ rfl ((Kept.refl _ w1).alloc _) (ids_new (P := fun k => k ≠ w.heap.size) (w := w1) (hnew _ (Nat.le_refl _)) [1] (by decide) rfl))
    · skip
      have i3 : IdsSl (· ≠ w.heap.size) w1 x4 [1] := hI.vals 3 x4 (by decide) (ready_waits hr (by kernel_rfl)) rfl
      obtain ⟨ai3, ci3, rfl, _, _⟩ := id i3
      refine wpOp_step rfl (fun K hK => ?_)
      have HK := hide hK
      have HI := hide hI
      clear hK hI hr hi hi17
      go_simp
      exact HK.out _ _ (HI.out.step 4 (by decide) _ rfl (Kept.refl _ w1) ⟨_, rfl, i3⟩)
    · skip
      refine wpOp_step rfl (fun K hK => ?_)
      have HK := hide hK
      have HI := hide hI
      clear hK hI hr hi hi17
      go_simp
      exact HK.out _ _ (HI.out.step 5 (by decide) _ rfl ((Kept.refl _ w1).alloc _) (ids_new (P := fun k => k ≠ w.heap.size) (w := w1) (hnew _ (Nat.le_refl _)) [3, 4] (by decide) rfl))
    · skip
      have i5 : IdsSl (· ≠ w.heap.size) w1 x6 [3, 4] := hI.vals 5 x6 (by decide) (ready_waits hr (by kernel_rfl)) rfl
      obtain ⟨ai5, ci5, rfl, _, _⟩ := id i5
      refine wpOp_step rfl (fun K hK => ?_)
      have HK := hide hK
      have HI := hide hI
      clear hK hI hr hi hi17
      go_simp
      exact HK.out _ _ (HI.out.step 6 (by decide) _ rfl (Kept.refl _ w1) ⟨_, rfl, i5⟩)
    · skip
      obtain ⟨vi1, rfl, i1⟩ := hI.vals 1 x2 (by decide) (ready_waits hr (by kernel_rfl)) rfl
      obtain ⟨ai1, ci1, rfl, _, _⟩ := id i1
      obtain ⟨vi2, rfl, i2⟩ := hI.vals 2 x3 (by decide) (ready_waits hr (by kernel_rfl)) rfl
      obtain ⟨ai2, ci2, rfl, _, _⟩ := id i2
      obtain ⟨vi4, rfl, i4⟩ := hI.vals 4 x5 (by decide) (ready_waits hr (by kernel_rfl)) rfl
      obtain ⟨ai4, ci4, rfl, _, _⟩ := id i4
      obtain ⟨vi6, rfl, i6⟩ := hI.vals 6 x7 (by decide) (ready_waits hr (by kernel_rfl)) rfl
      obtain ⟨ai6, ci6, rfl, _, _⟩ := id i6
      refine wpOp_step rfl (fun K hK => ?_)
      have HK := hide hK
      have HI := hide hI
      clear hK hI hr hi hi17
      go_simp
      exact HK.out _ _ (HI.out.step 7 (by decide) _ rfl ((Kept.refl _ w1).alloc _) (cel_new (P := fun k => k ≠ w.heap.size) (w := w1) (hnew _ (Nat.le_refl _)) [(cw1, _), (cw2, _), (cw3, _), (cw4, _)] (by simp [maxLen]) rfl (by
        intro p hp
        simp at hp
        rcases hp with rfl | rfl | rfl | rfl
        · exact i1
        · exact i2
        · exact i4
        · exact i6)))
    · skip
      have i7 : CelSl (· ≠ w.heap.size) w1 x8 tw1.cells := hI.vals 7 x8 (by decide) (ready_waits hr (by kernel_rfl)) rfl
      obtain ⟨ai7, ci7, rfl, _, _⟩ := id i7
      refine wpOp_step rfl (fun K hK => ?_)
      have HK := hide hK
      have HI := hide hI
      clear hK hI hr hi hi17
      go_simp
      exact HK.out _ _ (HI.out.step 8 (by decide) _ rfl (Kept.refl _ w1) ⟨_, rfl, i7⟩)
    · skip
      obtain ⟨i1, hi1, hz0, hz1, hz2⟩ := info_parts info_ce
      have hmk := run_makeSlice (P := Tryz.prog) w1 66 65 i1 _ Tryz.underlying66 hi1 hz0 .i64 .i64 4 4 (by omega) (Int.le_refl _) (by rw [hz1]; simp) (by rw [hz2]; omega) (by omega)
      refine wpOp_step rfl (fun K hK => ?_)
      have HK := hide hK
      have HI := hide hI
      clear hK hI hr hi hi17
      go_simp
      exact HK.out _ _ (HI.out.step 9 (by decide) _ rfl ((Kept.refl _ w1).alloc _) ((cel_made (nf := 4) (by simp [maxLen]) (heap_alloc_new w1 _)).mono (fun k _ hk => by subst hk; exact hnew _ (Nat.le_refl _))))
    · skip
      have i9 : CelSl (· ≠ w.heap.size) w1 x10 tw2.cells := hI.vals 9 x10 (by decide) (ready_waits hr (by kernel_rfl)) rfl
      obtain ⟨ai9, ci9, rfl, _, _⟩ := id i9
      refine wpOp_step rfl (fun K hK => ?_)
      have HK := hide hK
      have HI := hide hI
      clear hK hI hr hi hi17
      go_simp
      exact HK.out _ _ (HI.out.step 10 (by decide) _ rfl (Kept.refl _ w1) ⟨_, rfl, i9⟩)
    · skip
      refine wpOp_step rfl (fun K hK => ?_)
      have HK := hide hK
      have HI := hide hI
      clear hK hI hr hi hi17
      go_simp
      exact HK.out _ _ (HI.out.step 11 (by decide) _ rfl (Kept.refl _ w1) ⟨_, rfl, IdsSl.nil _ _⟩)
    · skip
      obtain ⟨vi11, rfl, i11⟩ := hI.vals 11 x12 (by decide) (ready_waits hr (by kernel_rfl)) rfl
      obtain ⟨ai11, ci11, rfl, _, _⟩ := id i11
      refine wpOp_step rfl (fun K hK => ?_)
      have HK := hide hK
      have HI := hide hI
      clear hK hI hr hi hi17
      go_simp
      exact HK.out _ _ (HI.out.step 12 (by decide) _ rfl ((Kept.refl _ w1).alloc _) (cel_new (P := fun k => k ≠ w.heap.size) (w := w1) (hnew _ (Nat.le_refl _)) [(cw5, _)] (by simp [maxLen]) rfl (by
        intro p hp
        simp at hp
        subst hp
        exact i11)))
    · skip
      have i12 : CelSl (· ≠ w.heap.size) w1 x13 tw3.cells := hI.vals 12 x13 (by decide) (ready_waits hr (by kernel_rfl)) rfl
      obtain ⟨ai12, ci12, rfl, _, _⟩ := id i12
      refine wpOp_step rfl (fun K hK => ?_)
      have HK := hide hK
      have HI := hide hI
      clear hK hI hr hi hi17
      go_simp
      exact HK.out _ _ (HI.out.step 13 (by decide) _ rfl (Kept.refl _ w1) ⟨_, rfl, i12⟩)
    · skip
      obtain ⟨vc8, rfl, i8⟩ := hI.vals 8 x9 (by decide) (ready_waits hr (by kernel_rfl)) rfl
      obtain ⟨ai8, ci8, rfl, _, _⟩ := id i8
      obtain ⟨vc10, rfl, i10⟩ := hI.vals 10 x11 (by decide) (ready_waits hr (by kernel_rfl)) rfl
      obtain ⟨ai10, ci10, rfl, _, _⟩ := id i10
      obtain ⟨vc13, rfl, i13⟩ := hI.vals 13 x14 (by decide) (ready_waits hr (by kernel_rfl)) rfl
      obtain ⟨ai13, ci13, rfl, _, _⟩ := id i13
      refine wpOp_step rfl (fun K hK => ?_)
      have HK := hide hK
      have HI := hide hI
      clear hK hI hr hi hi17
      go_simp
      exact HK.out _ _ (HI.out.step 14 (by decide) _ rfl ((Kept.refl _ w1).alloc _) (thg_new (P := fun k => k ≠ w.heap.size) (w := w1) (hnew _ (Nat.le_refl _)) [(tw1, _), (tw2, _), (tw3, _)] (by simp [maxLen]) rfl (by
        intro p hp
        simp at hp
        rcases hp with rfl | rfl | rfl
        · exact i8
        · exact i10
        · exact i13)))
    · skip
      have i0 : TypSl (· ≠ w.heap.size) w1 x1 types2 := hI.vals 0 x1 (by decide) (ready_waits hr (by kernel_rfl)) rfl
      obtain ⟨ai0, ci0, rfl, _, _⟩ := id i0
      have i14 : ThgSl (· ≠ w.heap.size) w1 x15 things3 := hI.vals 14 x15 (by decide) (ready_waits hr (by kernel_rfl)) rfl
      obtain ⟨ai14, ci14, rfl, _, _⟩ := id i14
      refine wpOp_step rfl (fun K hK => ?_)
      have HK := hide hK
      have HI := hide hI
      clear hK hI hr hi hi17
      go_simp
      exact HK.out _ _ (HI.out.step 15 (by decide) _ rfl (Kept.refl _ w1) ⟨_, _, rfl, i0, i14⟩)
    · skip
      obtain ⟨vt, vh, rfl, i0, i14⟩ := hI.vals 15 x16 (by decide) (ready_waits hr (by kernel_rfl)) rfl
      obtain ⟨at', ct, rfl, _, _⟩ := id i0
      obtain ⟨ah, ch, rfl, _, _⟩ := id i14
      have h16 : listed.getD 16 false = false := by
        have h := (mem_ready.1 hr).1
        rw [Array.getD_eq_getD_getElem?] at h ⊢
        cases hx : listed[16]? with
        | none => rfl
        | some b => rw [hx] at h; exact h
      have hb := hI.box0 h16
      obtain ⟨p0, p1⟩ := blk2' hb
      have p2 := fro2' hb
      have HBX := hide hb
      clear hb
      refine wpOp_step rfl (fun K hK => ?_)
      have HK := hide hK
      have HI := hide hI
      clear hK hI hr hi hi17
      go_simp
      have hKg : Kept (· = w.heap.size) w1 ((w1.setCell ⟨w.heap.size, 0, none⟩ (.slice at' types2.length ct)).setCell ⟨w.heap.size, 1, none⟩ (.slice ah things3.length ch)) := ((Kept.refl _ w1).setB 0 _).setB 1 _
      have hS : Same w ((w1.setCell ⟨w.heap.size, 0, none⟩ (.slice at' types2.length ct)).setCell ⟨w.heap.size, 1, none⟩ (.slice ah things3.length ch)) := HI.out.kept.trans hKg (fun i hi e => by omega)
      refine HK.out _ _ ⟨HI.out.size, rfl, HI.out.ptr, hS, Nat.lt_of_lt_of_le HI.out.lt hKg.size, fun hb => ?_, fun _ => ⟨_, _, set2b' HBX.out _ _, i0.keep hKg (fun k hk e => hk e), i14.keep hKg (fun k hk e => hk e)⟩, fun j u hj hl hu => ?_⟩
      · exfalso
        rcases Nat.lt_or_ge 16 listed.size with h | h
        · rw [Array.getD_eq_getD_getElem?, Array.getElem?_setIfInBounds_self_of_lt h] at hb
          cases hb
        · have : listed.size = 17 := hls
          omega
      · rw [getD_set_ne false (by omega)] at hl
        exact (HI.out.vals j u hj hl hu).keep hKg (fun k hk e => hk e)
  · intro listed a w1 hls hr hI
    have hall := all_listed (by kernel_rfl) hls hr 17
    obtain ⟨vt, vh, h1, h2, h3⟩ := hI.box1 (hall 16 (by decide) (by show 16 < 17; omega))
    obtain ⟨at', ct, rfl, _, _⟩ := id h2
    obtain ⟨ah, ch, rfl, _, _⟩ := id h3
    obtain ⟨q0, q1⟩ := blk2' h1
    obtain ⟨tmps, defers⟩ := a
    obtain ⟨x0, x1, x2, x3, x4, x5, x6, x7, x8, x9, x10, x11, x12, x13, x14, x15, x16, htm⟩ := arr17 tmps hI.size
    subst htm
    obtain rfl : defers = [] := hI.defers
    have h0 := hI.ptr
    simp at h0
    subst h0
    have HF := hide (And.intro h2 (And.intro h3 hI.kept))
    clear h2 h3 hI hall hr h1
    go_wp2_with fail
    exact bodyPost_ret (v := stV (.slice at' types2.length ct) (.slice ah things3.length ch)) (by simp [results, Tryz.results40, go_sem, q0, q1]) rfl ⟨_, _, rfl, HF.out.1.any, HF.out.2.1.any, HF.out.2.2⟩

end Go.Proofs.YtidodjbmlbjchaaGreat
