/- slices.IndexFunc and parts.First at events. -/
import Derived.Test.YtillhpepfpldcaaDisktells01
namespace Go.Proofs.Ytillhpepfpldcaa
open Go.RowKit

def findNo (q : EventT → Bool) (l : List EventT) : Int := match l.findIdx? q with | some i => (i : Nat) | none => -1
def firstE (q : EventT → Bool) (l : List EventT) : EventT := (l.find? q).getD event0

theorem findNo_at {q : EventT → Bool} {l : List EventT} {i : Nat} (hi : i < l.length) (h : ∀ j (hj : j < i), q (l[j]'(by omega)) = false) (hq : q l[i] = true) : findNo q l = i := by
  unfold findNo
  have : l.findIdx? q = some i := by
    rw [List.findIdx?_eq_some_iff_getElem]
    exact ⟨hi, hq, fun j hj => by simp [h j hj]⟩
  rw [this]
theorem findNo_none {q : EventT → Bool} {l : List EventT} (h : ∀ j (hj : j < l.length), q l[j] = false) : findNo q l = -1 := by
  unfold findNo
  have : l.findIdx? q = none := by
    rw [List.findIdx?_eq_none_iff]
    intro x hx
    obtain ⟨j, hj, rfl⟩ := List.getElem_of_mem hx
    exact h j hj
  rw [this]

set_option maxHeartbeats 800000 in
theorem indexFuncE (f : FuncId) (q : EventT → Bool) (hcf : ∀ (args : Array Value) (w : World), (callFunc f args).run Try.prog w = .ok (.enter f args) w)
    (hf : Hid (∀ (e : EventT) (w : World), Calls Try.prog f #[evV e] w fun r w' => r = .returned (.bool (q e)) ∧ Same w w'))
    (P : Nat → Prop) (w : World) (v : Value) (l : List EventT) (h : EvSl P w v l) :
    Calls Try.prog 59 #[v, .func (.func f) #[] #[]] w fun r w' => r = .returned (.int .i64 (findNo q l)) ∧ Same w w' := by
  obtain ⟨ao, cap, rfl⟩ := h.form
  obtain ⟨_, hl, hcap⟩ := h.len
  go_enter Try.func59, Try.ntmps59
  go_wp2_with fail
  go_loopg [8] l.length (fun g iv wr => ∃ i : Nat, i + g = l.length ∧ iv = .int .i64 i ∧ Same w wr ∧ Hid (∀ j (hj : j < l.length), j < i → q l[j] = false))
  case atStart => exact ⟨0, by omega, rfl, Kept.refl _ _, fun j _ hj => by omega⟩
  case round =>
    obtain ⟨i, hi, rfl, hK, HP⟩ := hrel
    by_cases hlt : i < l.length
    · obtain ⟨b, off, hao, _, e0, e1, e2, e3, e4, e5⟩ := (h.same hK).at i hlt
      subst hao
      cases hq : q l[i] with
      | true =>
        have HQ := hide hq
        clear hq
        go_wp2_with fail
        refine (hf.out l[i] _).mono ?_
        rintro r w1 ⟨rfl, hK1⟩
        rw [HQ.out]
        go_wp2_with fail
        go_ret
        exact ⟨ret_int (findNo_at hlt (fun j hj => HP.out j (by omega) hj) HQ.out).symm, hK.trans hK1 (fun _ _ f => f)⟩
      | false =>
        have HQ := hide hq
        clear hq
        go_wp2_with fail
        refine (hf.out l[i] _).mono ?_
        rintro r w1 ⟨rfl, hK1⟩
        rw [HQ.out]
        go_wp2_with fail
        go_roundg (gk - 1)
        case measure => omega
        case rel =>
          refine ⟨i + 1, by omega, by go_num, hK.trans hK1 (fun _ _ f => f), fun j hj hji => ?_⟩
          rcases Nat.lt_or_ge j i with h1 | h1
          · exact HP.out j hj h1
          · obtain rfl : j = i := by omega
            exact HQ.out
    · go_wp2_with fail
      go_ret
      exact ⟨ret_int (findNo_none (fun j hj => HP.out j hj (by omega))).symm, hK⟩

theorem cells6 {w : World} {g : Nat} {x0 x1 x2 x3 x4 x5 : Value} {t : TypeId} (h : w.heap[g]? = some (.cells #[x0, x1, x2, x3, x4, x5] t (0, 0))) :
    w.cell? ⟨g, 0, none⟩ = some x0 ∧ w.cell? ⟨g, 1, none⟩ = some x1 ∧ w.cell? ⟨g, 2, none⟩ = some x2 ∧ w.cell? ⟨g, 3, none⟩ = some x3 ∧ w.cell? ⟨g, 4, none⟩ = some x4 ∧ w.cell? ⟨g, 5, none⟩ = some x5 ∧
    w.frozen? ⟨g, 0, none⟩ = false ∧ w.frozen? ⟨g, 1, none⟩ = false ∧ w.frozen? ⟨g, 2, none⟩ = false ∧ w.frozen? ⟨g, 3, none⟩ = false ∧ w.frozen? ⟨g, 4, none⟩ = false ∧ w.frozen? ⟨g, 5, none⟩ = false := by
  simp [World.cell?, World.frozen?, h]
abbrev put6 (w : World) (g : Nat) (a b c d e f : Value) : World :=
  (((((w.setCell ⟨g, 0, none⟩ a).setCell ⟨g, 1, none⟩ b).setCell ⟨g, 2, none⟩ c).setCell ⟨g, 3, none⟩ d).setCell ⟨g, 4, none⟩ e).setCell ⟨g, 5, none⟩ f
theorem set6 {w : World} {g : Nat} {x0 x1 x2 x3 x4 x5 : Value} {t : TypeId} (h : w.heap[g]? = some (.cells #[x0, x1, x2, x3, x4, x5] t (0, 0))) (a b c d e f : Value) :
    (put6 w g a b c d e f).heap[g]? = some (.cells #[a, b, c, d, e, f] t (0, 0)) := by
  simp [World.setCell, Array.getElem?_modify, h]
theorem keep6 {X : Nat → Prop} {w w1 : World} {g : Nat} (h : Kept X w w1) (hg : g < w.heap.size → X g) (a b c d e f : Value) : Kept X w (put6 w1 g a b c d e f) :=
  (((((h.setCell hg _).setCell hg _).setCell hg _).setCell hg _).setCell hg _).setCell hg _

theorem find_some {q : EventT → Bool} {l : List EventT} (h : l.any q = true) : ∃ i : Nat, findNo q l = i ∧ ∃ hi : i < l.length, l[i] = firstE q l := by
  cases hx : l.findIdx? q with
  | none =>
    rw [List.findIdx?_eq_none_iff] at hx
    rw [List.any_eq_true] at h
    obtain ⟨x, h1, h2⟩ := h
    rw [hx x h1] at h2; cases h2
  | some i =>
    refine ⟨i, by unfold findNo; rw [hx], ?_⟩
    obtain ⟨hi, h1, h2⟩ := List.findIdx?_eq_some_iff_getElem.1 hx
    refine ⟨hi, ?_⟩
    unfold firstE
    have : l.find? q = some l[i] := by
      rw [List.find?_eq_some_iff_getElem]
      exact ⟨h1, i, hi, rfl, fun j hj => by simpa using h2 j hj⟩
    rw [this]; rfl
theorem find_none {q : EventT → Bool} {l : List EventT} (h : l.any q = false) : findNo q l = -1 ∧ firstE q l = event0 := by
  rw [List.any_eq_false] at h
  constructor
  · exact findNo_none (fun j hj => by simpa using h l[j] (List.getElem_mem hj))
  · unfold firstE
    have : l.find? q = none := by rw [List.find?_eq_none]; exact h
    rw [this]; rfl

set_option maxHeartbeats 800000 in
theorem firstE_any (f : FuncId) (q : EventT → Bool) (hcf : ∀ (args : Array Value) (w : World), (callFunc f args).run Try.prog w = .ok (.enter f args) w)
    (hf : Hid (∀ (e : EventT) (w : World), Calls Try.prog f #[evV e] w fun r w' => r = .returned (.bool (q e)) ∧ Same w w'))
    (P : Nat → Prop) (w : World) (v : Value) (l : List EventT) (h : EvSl P w v l) :
    Calls Try.prog 42 #[v, .func (.func f) #[] #[]] w fun r w' => r = .returned (.tuple #[evV (firstE q l), .bool (l.any q)]) ∧ Same w w' := by
  have HI := hide (fun wx hK => indexFuncE f q hcf hf P wx v l (h.same hK))
  obtain ⟨ao, cap, rfl⟩ := h.form
  obtain ⟨_, hl, hcap⟩ := h.len
  cases hq : l.any q with
  | true =>
    obtain ⟨i, h1, hi, h2⟩ := find_some hq
    rw [h1] at HI
    rw [← h2]
    clear hq h1 h2
    have HS := hide h
    clear h
    go_enter Try.func42, Try.ntmps42
    go_wp2_with fail
    refine (HI.out _ (by repeat' (first | assumption | exact Kept.refl _ _ | refine Kept.drewN ?_ _ | refine Kept.drew ?_ | refine Kept.alloc ?_ _ | refine Kept.setB ?_ _ _))).mono ?_
    rintro r w1 ⟨rfl, hK1⟩
    have hK2 : Same w w1 := ((Kept.refl _ w).alloc _).trans hK1 (fun _ _ f => f)
    obtain ⟨b, off, hao, _, e0, e1, e2, e3, e4, e5⟩ := (HS.out.same hK2).at i hi
    subst hao
    have hg := new_kept (w := w) hK1 (fun f => f)
    obtain ⟨z0, z1, z2, z3, z4, z5, f0, f1, f2, f3, f4, f5⟩ := cells6 hg
    go_wp2_with fail
    obtain ⟨q0, q1, q2, q3, q4, q5, _⟩ := cells6 (set6 hg (.int .i64 l[i].kind) (.int .i64 l[i].ty) (.int .i64 l[i].id) (.int .i64 l[i].field) (.int .i64 l[i].n) (.string ⟨l[i].text.toArray⟩))
    refine bodyPost_ret (v := .tuple #[evV l[i], .bool true]) (by simp [results, Try.results42, go_sem, q0, q1, q2, q3, q4, q5]) rfl ⟨rfl, ?_⟩
    exact keep6 hK2 (fun h => absurd h (Nat.lt_irrefl _)) _ _ _ _ _ _
  | false =>
    obtain ⟨h1, h2⟩ := find_none hq
    rw [h1] at HI
    rw [h2]
    clear hq h1 h2 h
    go_enter Try.func42, Try.ntmps42
    go_wp2_with fail
    refine (HI.out _ (by repeat' (first | assumption | exact Kept.refl _ _ | refine Kept.drewN ?_ _ | refine Kept.drew ?_ | refine Kept.alloc ?_ _ | refine Kept.setB ?_ _ _))).mono ?_
    rintro r w1 ⟨rfl, hK1⟩
    have hK2 : Same w w1 := ((Kept.refl _ w).alloc _).trans hK1 (fun _ _ f => f)
    have hg := new_kept (w := w) hK1 (fun f => f)
    have hgs : w.heap.size < w1.heap.size := (Array.getElem?_eq_some_iff.1 hg).1
    obtain ⟨z0, z1, z2, z3, z4, z5, f0, f1, f2, f3, f4, f5⟩ := cells6 hg
    go_wp2_with fail
    have hs6 := set6 hg (.int .i64 0) (.int .i64 0) (.int .i64 0) (.int .i64 0) (.int .i64 0) (.string ⟨#[]⟩)
    have hk6 := keep6 (g := w.heap.size) hK2 (fun h => absurd h (Nat.lt_irrefl _)) (.int .i64 0) (.int .i64 0) (.int .i64 0) (.int .i64 0) (.int .i64 0) (.string ⟨#[]⟩)
    have hlt : w.heap.size < ((((((w1.setCell ⟨w.heap.size, 0, none⟩ (.int .i64 0)).setCell ⟨w.heap.size, 1, none⟩ (.int .i64 0)).setCell ⟨w.heap.size, 2, none⟩ (.int .i64 0)).setCell ⟨w.heap.size, 3, none⟩ (.int .i64 0)).setCell ⟨w.heap.size, 4, none⟩ (.int .i64 0)).setCell ⟨w.heap.size, 5, none⟩ (.string ⟨#[]⟩)).heap.size := by simpa using hgs
    simp only [put6] at hs6 hk6
    generalize (((((w1.setCell ⟨w.heap.size, 0, none⟩ (.int .i64 0)).setCell ⟨w.heap.size, 1, none⟩ (.int .i64 0)).setCell ⟨w.heap.size, 2, none⟩ (.int .i64 0)).setCell ⟨w.heap.size, 3, none⟩ (.int .i64 0)).setCell ⟨w.heap.size, 4, none⟩ (.int .i64 0)).setCell ⟨w.heap.size, 5, none⟩ (.string ⟨#[]⟩) = w6 at *
    obtain ⟨q0, q1, q2, q3, q4, q5, _⟩ := cells6 ((Below.heap_alloc w6 (.cells #[.int .i64 0, .int .i64 0, .int .i64 0, .int .i64 0, .int .i64 0, .string ⟨#[]⟩] 66) w.heap.size hlt).trans hs6)
    exact bodyPost_ret (v := .tuple #[evV event0, .bool false]) (by simp [results, Try.results42, go_sem, q0, q1, q2, q3, q4, q5, event0]) rfl ⟨rfl, hk6.alloc _⟩

end Go.Proofs.Ytillhpepfpldcaa
