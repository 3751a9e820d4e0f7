import Derived.Test.YtillhpepfpldcaaChecked
import Derived.Test.YtillhpepfpldcaaBatchtells01
/- parts: what an event's kind names; what is wrong with an event's shape. -/
namespace Go.Proofs.Ytillhpepfpldcaa
open Go.RowKit

abbrev evV (e : EventT) : Value := .agg #[.int .i64 e.kind, .int .i64 e.ty, .int .i64 e.id, .int .i64 e.field, .int .i64 e.n, .string ⟨e.text.toArray⟩]

theorem pKind (k : Int) (w : World) :
    Calls Try.prog 72 #[.int .i64 k] w fun e w' => e = .returned (.bool (evKind k)) ∧ w' = w := by
  go_enter Try.func72, Try.ntmps72
  go_wp2
  all_goals go_ret
  all_goals refine ⟨ret_bool ?_, rfl⟩
  all_goals (unfold evKind; rw [Bool.eq_iff_iff]; simp; try omega)

theorem pNamesN (k : Int) (w : World) :
    Calls Try.prog 69 #[.int .i64 k] w fun e w' => e = .returned (.bool (namesN k)) ∧ w' = w := by
  go_enter Try.func69, Try.ntmps69
  go_wp2
  all_goals go_ret
  all_goals refine ⟨ret_bool ?_, rfl⟩
  all_goals (unfold namesN; rw [Bool.eq_iff_iff]; simp_all)

theorem pNamesT (k : Int) (w : World) :
    Calls Try.prog 70 #[.int .i64 k] w fun e w' => e = .returned (.bool (namesT k)) ∧ w' = w := by
  go_enter Try.func70, Try.ntmps70
  go_wp2
  all_goals go_ret
  all_goals refine ⟨ret_bool ?_, rfl⟩
  all_goals (unfold namesT; rw [Bool.eq_iff_iff]; simp_all)

theorem pNamesF (k : Int) (w : World) :
    Calls Try.prog 68 #[.int .i64 k] w fun e w' => e = .returned (.bool (namesF k)) ∧ w' = w := by
  go_enter Try.func68, Try.ntmps68
  go_wp2_with (first
    | (go_at_call 69; refine (pNamesN _ _).mono ?_; rintro e w' ⟨rfl, rfl⟩)
    | (go_at_call 70; refine (pNamesT _ _).mono ?_; rintro e w' ⟨rfl, rfl⟩))
  all_goals go_ret
  all_goals refine ⟨ret_bool ?_, rfl⟩
  all_goals (unfold namesF; simp_all)

theorem empty_bytes (l : List UInt8) : (⟨l.toArray⟩ : ByteArray).toList.isEmpty = decide (l = []) := by
  rw [ByteArray.toList_eq]; cases l <;> simp

set_option maxHeartbeats 1600000 in
theorem pShape (e : EventT) (w : World) :
    Calls Try.prog 60 #[evV e] w fun r w' => r = .returned (.int .i64 (shapeE e)) ∧ Same w w' := by
  obtain ⟨k, ty, i, f, n, t⟩ := e
  have he := empty_bytes t
  go_enter Try.func60, Try.ntmps60
  go_wp2_with (first
    | (go_at_call 72; refine (pKind _ _).mono ?_; rintro e w' ⟨rfl, rfl⟩)
    | (go_at_call 68; refine (pNamesF _ _).mono ?_; rintro e w' ⟨rfl, rfl⟩)
    | (go_at_call 69; refine (pNamesN _ _).mono ?_; rintro e w' ⟨rfl, rfl⟩)
    | (go_at_call 70; refine (pNamesT _ _).mono ?_; rintro e w' ⟨rfl, rfl⟩))
  all_goals go_ret
  all_goals refine ⟨ret_int ?_, (by repeat' (first | assumption | exact Kept.refl _ _ | refine Kept.drewN ?_ _ | refine Kept.drew ?_ | refine Kept.alloc ?_ _ | refine Kept.setB ?_ _ _))⟩
  all_goals (unfold shapeE; simp_all)

end Go.Proofs.Ytillhpepfpldcaa

/- Slices of events in memory. -/
namespace Go.Proofs.Ytillhpepfpldcaa
open Go.RowKit

theorem addr_add (b off j : Nat) : ((⟨b, off, none⟩ : Addr).add j) = ⟨b, off + j, none⟩ := by
  unfold Addr.add
  split
  · rename_i h; rw [h]; rfl
  · rfl

/-- a batch as a value: its number, its events -/
abbrev baV (n : Int) (v : Value) : Value := .agg #[.int .i64 n, v]

/-- the six cells of an event at a place -/
def EvAt (w : World) (b o : Nat) (e : EventT) : Prop :=
  w.cell? ⟨b, o, none⟩ = some (.int .i64 e.kind) ∧ w.cell? ⟨b, o + 1, none⟩ = some (.int .i64 e.ty) ∧ w.cell? ⟨b, o + 2, none⟩ = some (.int .i64 e.id) ∧
  w.cell? ⟨b, o + 3, none⟩ = some (.int .i64 e.field) ∧ w.cell? ⟨b, o + 4, none⟩ = some (.int .i64 e.n) ∧ w.cell? ⟨b, o + 5, none⟩ = some (.string ⟨e.text.toArray⟩)

/-- v is a slice of the events l -/
def EvSl (P : Nat → Prop) (w : World) (v : Value) (l : List EventT) : Prop :=
  ∃ ao cap, v = .slice ao l.length cap ∧ (l.length ≤ maxLen ∧ l.length ≤ cap) ∧ ∀ i e, l[i]? = some e → ∃ b off, ao = some ⟨b, off, none⟩ ∧ P b ∧ EvAt w b (off + i * 6) e

theorem EvAt.keep {X : Nat → Prop} {w w' : World} {b o : Nat} {e : EventT} (h : EvAt w b o e) (hk : Kept X w w') (hx : ¬ X b) : EvAt w' b o e :=
  ⟨hk.cell h.1 hx, hk.cell h.2.1 hx, hk.cell h.2.2.1 hx, hk.cell h.2.2.2.1 hx, hk.cell h.2.2.2.2.1 hx, hk.cell h.2.2.2.2.2 hx⟩

theorem EvSl.keep {P X : Nat → Prop} {w w' : World} {v : Value} {l : List EventT} (h : EvSl P w v l) (hk : Kept X w w') (hx : ∀ b, P b → ¬ X b) : EvSl P w' v l := by
  obtain ⟨ao, cap, hv, hl, hc⟩ := h
  refine ⟨ao, cap, hv, hl, fun i t ht => ?_⟩
  obtain ⟨b, off, ha, hp, h0⟩ := hc i t ht
  exact ⟨b, off, ha, hp, h0.keep hk (hx b hp)⟩
theorem EvSl.same {P : Nat → Prop} {w w' : World} {v : Value} {l : List EventT} (h : EvSl P w v l) (hk : Same w w') : EvSl P w' v l := h.keep hk (fun _ _ f => f)
theorem EvSl.mono {P Q : Nat → Prop} {w : World} {v : Value} {l : List EventT} (h : EvSl P w v l) (hq : ∀ b, b < w.heap.size → P b → Q b) : EvSl Q w v l := by
  obtain ⟨ao, cap, hv, hl, hc⟩ := h
  refine ⟨ao, cap, hv, hl, fun i t ht => ?_⟩
  obtain ⟨b, off, ha, hp, h0⟩ := hc i t ht
  exact ⟨b, off, ha, hq b (World.block_lt_of_cell? w _ h0.1) hp, h0⟩
theorem EvSl.nil (P : Nat → Prop) (w : World) : EvSl P w (.slice none 0 0) [] := ⟨none, 0, rfl, ⟨Nat.zero_le _, Nat.le_refl _⟩, fun i t h => by simp at h⟩
theorem EvSl.at {P : Nat → Prop} {w : World} {ao : Option Addr} {n cap : Nat} {l : List EventT} (h : EvSl P w (.slice ao n cap) l) (i : Nat) (hi : i < l.length) : ∃ b off, ao = some ⟨b, off, none⟩ ∧ P b ∧ EvAt w b (off + i * 6) l[i] := by
  obtain ⟨ao', cap', hv, _, h3⟩ := h
  cases hv
  exact h3 i l[i] (List.getElem?_eq_getElem hi)
theorem EvSl.len {P : Nat → Prop} {w : World} {ao : Option Addr} {n cap : Nat} {l : List EventT} (h : EvSl P w (.slice ao n cap) l) : n = l.length ∧ l.length ≤ 9223372036854775807 ∧ l.length ≤ cap := by
  obtain ⟨_, _, hv, hl, _⟩ := h; cases hv; exact ⟨rfl, hl.1, hl.2⟩
theorem EvSl.form {P : Nat → Prop} {w : World} {v : Value} {l : List EventT} (h : EvSl P w v l) : ∃ ao cap, v = .slice ao l.length cap := by
  obtain ⟨ao, cap, hv, _⟩ := h; exact ⟨ao, cap, hv⟩

/-- the cells of events, one behind the other -/
def evC (e : EventT) : List Value := [.int .i64 e.kind, .int .i64 e.ty, .int .i64 e.id, .int .i64 e.field, .int .i64 e.n, .string ⟨e.text.toArray⟩]
def evCells (l : List EventT) : List Value := l.flatMap evC
theorem evCells_snoc (l : List EventT) (e : EventT) : evCells (l ++ [e]) = evCells l ++ evC e := by simp [evCells]
theorem evCells_len (l : List EventT) : (evCells l).length = l.length * 6 := by
  induction l with
  | nil => rfl
  | cons e r ih => simp only [evCells, List.flatMap_cons, List.length_append, List.length_cons] at ih ⊢; rw [ih]; simp [evC]; omega
theorem evC_one (e : EventT) : ∀ u ∈ evC e, u.oneCell' = true := by
  intro u hu
  simp [evC] at hu
  rcases hu with rfl | rfl | rfl | rfl | rfl | rfl <;> rfl
theorem evCells_get (l : List EventT) : ∀ (i : Nat) (e : EventT), l[i]? = some e → ∀ j, j < 6 → (evCells l)[i * 6 + j]? = (evC e)[j]? := by
  induction l with
  | nil => intro i e h; simp at h
  | cons x r ih =>
    intro i e h j hj
    have hx : (evC x).length = 6 := rfl
    simp only [evCells, List.flatMap_cons]
    cases i with
    | zero =>
      simp at h; subst h
      rw [List.getElem?_append_left (by rw [hx]; omega)]; simp
    | succ i =>
      rw [List.getElem?_append_right (by rw [hx]; omega), hx, show (i + 1) * 6 + j - 6 = i * 6 + j by omega]
      exact ih i e (by simpa using h) j hj

/-- events that stand in a row, cell by cell -/
theorem ev_row {w : World} {b off : Nat} {l : List EventT} (h : ∀ j u, (evCells l)[j]? = some u → w.cell? ⟨b, off + j, none⟩ = some u) (i : Nat) (e : EventT) (he : l[i]? = some e) : EvAt w b (off + i * 6) e := by
  have g := evCells_get l i e he
  refine ⟨?_, ?_, ?_, ?_, ?_, ?_⟩
  · have := h (i * 6 + 0) _ ((g 0 (by omega)).trans rfl); simpa using this
  · have := h (i * 6 + 1) _ ((g 1 (by omega)).trans rfl); simpa [Nat.add_assoc] using this
  · have := h (i * 6 + 2) _ ((g 2 (by omega)).trans rfl); simpa [Nat.add_assoc] using this
  · have := h (i * 6 + 3) _ ((g 3 (by omega)).trans rfl); simpa [Nat.add_assoc] using this
  · have := h (i * 6 + 4) _ ((g 4 (by omega)).trans rfl); simpa [Nat.add_assoc] using this
  · have := h (i * 6 + 5) _ ((g 5 (by omega)).trans rfl); simpa [Nat.add_assoc] using this

theorem own_evs {w : World} {base : Nat} {v : Value} {l : List EventT} {t : TypeId} (h : w.ownsRow base t 6 v l.length (evCells l)) (hl : l.length ≤ maxLen) : EvSl (base ≤ ·) w v l := by
  rcases h.2 with ⟨rfl, h0⟩ | ⟨g, cap, cur, rfl, hg, hb, hc1, hc2, hc3, htk⟩
  · obtain rfl : l = [] := List.length_eq_zero_iff.1 h0
    exact EvSl.nil _ _
  · have hcells := World.ownsRow.cells (v := .slice (some ⟨g, 0, none⟩) l.length cap) h (g := g) rfl
    refine ⟨some ⟨g, 0, none⟩, cap, rfl, ⟨hl, by omega⟩, fun i e he => ⟨g, 0, rfl, hg, ev_row (fun j u hj => ?_) i e he⟩⟩
    have := hcells j u hj
    rw [addr_add] at this
    exact this

end Go.Proofs.Ytillhpepfpldcaa

/- slices.IndexFunc and parts.First at events. -/
namespace Go.Proofs.Ytillhpepfpldcaa
open Go.RowKit

def findNo (q : EventT → Bool) (l : List EventT) : Int := match l.findIdx? q with | some i => (i : Nat) | none => -1
def firstE (q : EventT → Bool) (l : List EventT) : EventT := (l.find? q).getD event0

theorem findNo_at {q : EventT → Bool} {l : List EventT} {i : Nat} (hi : i < l.length) (h : ∀ j (hj : j < i), q (l[j]'(by omega)) = false) (hq : q l[i] = true) : findNo q l = i := by
  unfold findNo
  have : l.findIdx? q = some i := by
    rw [List.findIdx?_eq_some_iff_getElem]
    exact ⟨hi, hq, fun j hj => by simp [h j hj]⟩
  rw [this]
theorem findNo_none {q : EventT → Bool} {l : List EventT} (h : ∀ j (hj : j < l.length), q l[j] = false) : findNo q l = -1 := by
  unfold findNo
  have : l.findIdx? q = none := by
    rw [List.findIdx?_eq_none_iff]
    intro x hx
    obtain ⟨j, hj, rfl⟩ := List.getElem_of_mem hx
    exact h j hj
  rw [this]

set_option maxHeartbeats 800000 in
theorem indexFuncE (f : FuncId) (q : EventT → Bool) (hcf : ∀ (args : Array Value) (w : World), (callFunc f args).run Try.prog w = .ok (.enter f args) w)
    (hf : Hid (∀ (e : EventT) (w : World), Calls Try.prog f #[evV e] w fun r w' => r = .returned (.bool (q e)) ∧ Same w w'))
    (P : Nat → Prop) (w : World) (v : Value) (l : List EventT) (h : EvSl P w v l) :
    Calls Try.prog 59 #[v, .func (.func f) #[] #[]] w fun r w' => r = .returned (.int .i64 (findNo q l)) ∧ Same w w' := by
  obtain ⟨ao, cap, rfl⟩ := h.form
  obtain ⟨_, hl, hcap⟩ := h.len
  go_enter Try.func59, Try.ntmps59
  go_wp2_with fail
  go_loopg [8] l.length (fun g iv wr => ∃ i : Nat, i + g = l.length ∧ iv = .int .i64 i ∧ Same w wr ∧ Hid (∀ j (hj : j < l.length), j < i → q l[j] = false))
  case atStart => exact ⟨0, by omega, rfl, Kept.refl _ _, fun j _ hj => by omega⟩
  case round =>
    obtain ⟨i, hi, rfl, hK, HP⟩ := hrel
    by_cases hlt : i < l.length
    · obtain ⟨b, off, hao, _, e0, e1, e2, e3, e4, e5⟩ := (h.same hK).at i hlt
      subst hao
      cases hq : q l[i] with
      | true =>
        have HQ := hide hq
        clear hq
        go_wp2_with fail
        refine (hf.out l[i] _).mono ?_
        rintro r w1 ⟨rfl, hK1⟩
        rw [HQ.out]
        go_wp2_with fail
        go_ret
        exact ⟨ret_int (findNo_at hlt (fun j hj => HP.out j (by omega) hj) HQ.out).symm, hK.trans hK1 (fun _ _ f => f)⟩
      | false =>
        have HQ := hide hq
        clear hq
        go_wp2_with fail
        refine (hf.out l[i] _).mono ?_
        rintro r w1 ⟨rfl, hK1⟩
        rw [HQ.out]
        go_wp2_with fail
        go_roundg (gk - 1)
        case measure => omega
        case rel =>
          refine ⟨i + 1, by omega, by go_num, hK.trans hK1 (fun _ _ f => f), fun j hj hji => ?_⟩
          rcases Nat.lt_or_ge j i with h1 | h1
          · exact HP.out j hj h1
          · obtain rfl : j = i := by omega
            exact HQ.out
    · go_wp2_with fail
      go_ret
      exact ⟨ret_int (findNo_none (fun j hj => HP.out j hj (by omega))).symm, hK⟩

theorem cells6 {w : World} {g : Nat} {x0 x1 x2 x3 x4 x5 : Value} {t : TypeId} (h : w.heap[g]? = some (.cells #[x0, x1, x2, x3, x4, x5] t (0, 0))) :
    w.cell? ⟨g, 0, none⟩ = some x0 ∧ w.cell? ⟨g, 1, none⟩ = some x1 ∧ w.cell? ⟨g, 2, none⟩ = some x2 ∧ w.cell? ⟨g, 3, none⟩ = some x3 ∧ w.cell? ⟨g, 4, none⟩ = some x4 ∧ w.cell? ⟨g, 5, none⟩ = some x5 ∧
    w.frozen? ⟨g, 0, none⟩ = false ∧ w.frozen? ⟨g, 1, none⟩ = false ∧ w.frozen? ⟨g, 2, none⟩ = false ∧ w.frozen? ⟨g, 3, none⟩ = false ∧ w.frozen? ⟨g, 4, none⟩ = false ∧ w.frozen? ⟨g, 5, none⟩ = false := by
  simp [World.cell?, World.frozen?, h]
abbrev put6 (w : World) (g : Nat) (a b c d e f : Value) : World :=
  (((((w.setCell ⟨g, 0, none⟩ a).setCell ⟨g, 1, none⟩ b).setCell ⟨g, 2, none⟩ c).setCell ⟨g, 3, none⟩ d).setCell ⟨g, 4, none⟩ e).setCell ⟨g, 5, none⟩ f
theorem set6 {w : World} {g : Nat} {x0 x1 x2 x3 x4 x5 : Value} {t : TypeId} (h : w.heap[g]? = some (.cells #[x0, x1, x2, x3, x4, x5] t (0, 0))) (a b c d e f : Value) :
    (put6 w g a b c d e f).heap[g]? = some (.cells #[a, b, c, d, e, f] t (0, 0)) := by
  simp [World.setCell, Array.getElem?_modify, h]
theorem keep6 {X : Nat → Prop} {w w1 : World} {g : Nat} (h : Kept X w w1) (hg : g < w.heap.size → X g) (a b c d e f : Value) : Kept X w (put6 w1 g a b c d e f) :=
  (((((h.setCell hg _).setCell hg _).setCell hg _).setCell hg _).setCell hg _).setCell hg _

theorem find_some {q : EventT → Bool} {l : List EventT} (h : l.any q = true) : ∃ i : Nat, findNo q l = i ∧ ∃ hi : i < l.length, l[i] = firstE q l := by
  cases hx : l.findIdx? q with
  | none =>
    rw [List.findIdx?_eq_none_iff] at hx
    rw [List.any_eq_true] at h
    obtain ⟨x, h1, h2⟩ := h
    rw [hx x h1] at h2; cases h2
  | some i =>
    refine ⟨i, by unfold findNo; rw [hx], ?_⟩
    obtain ⟨hi, h1, h2⟩ := List.findIdx?_eq_some_iff_getElem.1 hx
    refine ⟨hi, ?_⟩
    unfold firstE
    have : l.find? q = some l[i] := by
      rw [List.find?_eq_some_iff_getElem]
      exact ⟨h1, i, hi, rfl, fun j hj => by simpa using h2 j hj⟩
    rw [this]; rfl
theorem find_none {q : EventT → Bool} {l : List EventT} (h : l.any q = false) : findNo q l = -1 ∧ firstE q l = event0 := by
  rw [List.any_eq_false] at h
  constructor
  · exact findNo_none (fun j hj => by simpa using h l[j] (List.getElem_mem hj))
  · unfold firstE
    have : l.find? q = none := by rw [List.find?_eq_none]; exact h
    rw [this]; rfl

set_option maxHeartbeats 800000 in
theorem firstE_any (f : FuncId) (q : EventT → Bool) (hcf : ∀ (args : Array Value) (w : World), (callFunc f args).run Try.prog w = .ok (.enter f args) w)
    (hf : Hid (∀ (e : EventT) (w : World), Calls Try.prog f #[evV e] w fun r w' => r = .returned (.bool (q e)) ∧ Same w w'))
    (P : Nat → Prop) (w : World) (v : Value) (l : List EventT) (h : EvSl P w v l) :
    Calls Try.prog 42 #[v, .func (.func f) #[] #[]] w fun r w' => r = .returned (.tuple #[evV (firstE q l), .bool (l.any q)]) ∧ Same w w' := by
  have HI := hide (fun wx hK => indexFuncE f q hcf hf P wx v l (h.same hK))
  obtain ⟨ao, cap, rfl⟩ := h.form
  obtain ⟨_, hl, hcap⟩ := h.len
  cases hq : l.any q with
  | true =>
    obtain ⟨i, h1, hi, h2⟩ := find_some hq
    rw [h1] at HI
    rw [← h2]
    clear hq h1 h2
    have HS := hide h
    clear h
    go_enter Try.func42, Try.ntmps42
    go_wp2_with fail
    refine (HI.out _ (by repeat' (first | assumption | exact Kept.refl _ _ | refine Kept.drewN ?_ _ | refine Kept.drew ?_ | refine Kept.alloc ?_ _ | refine Kept.setB ?_ _ _))).mono ?_
    rintro r w1 ⟨rfl, hK1⟩
    have hK2 : Same w w1 := ((Kept.refl _ w).alloc _).trans hK1 (fun _ _ f => f)
    obtain ⟨b, off, hao, _, e0, e1, e2, e3, e4, e5⟩ := (HS.out.same hK2).at i hi
    subst hao
    have hg := new_kept (w := w) hK1 (fun f => f)
    obtain ⟨z0, z1, z2, z3, z4, z5, f0, f1, f2, f3, f4, f5⟩ := cells6 hg
    go_wp2_with fail
    obtain ⟨q0, q1, q2, q3, q4, q5, _⟩ := cells6 (set6 hg (.int .i64 l[i].kind) (.int .i64 l[i].ty) (.int .i64 l[i].id) (.int .i64 l[i].field) (.int .i64 l[i].n) (.string ⟨l[i].text.toArray⟩))
    refine bodyPost_ret (v := .tuple #[evV l[i], .bool true]) (by simp [results, Try.results42, go_sem, q0, q1, q2, q3, q4, q5]) rfl ⟨rfl, ?_⟩
    exact keep6 hK2 (fun h => absurd h (Nat.lt_irrefl _)) _ _ _ _ _ _
  | false =>
    obtain ⟨h1, h2⟩ := find_none hq
    rw [h1] at HI
    rw [h2]
    clear hq h1 h2 h
    go_enter Try.func42, Try.ntmps42
    go_wp2_with fail
    refine (HI.out _ (by repeat' (first | assumption | exact Kept.refl _ _ | refine Kept.drewN ?_ _ | refine Kept.drew ?_ | refine Kept.alloc ?_ _ | refine Kept.setB ?_ _ _))).mono ?_
    rintro r w1 ⟨rfl, hK1⟩
    have hK2 : Same w w1 := ((Kept.refl _ w).alloc _).trans hK1 (fun _ _ f => f)
    have hg := new_kept (w := w) hK1 (fun f => f)
    have hgs : w.heap.size < w1.heap.size := (Array.getElem?_eq_some_iff.1 hg).1
    obtain ⟨z0, z1, z2, z3, z4, z5, f0, f1, f2, f3, f4, f5⟩ := cells6 hg
    go_wp2_with fail
    have hs6 := set6 hg (.int .i64 0) (.int .i64 0) (.int .i64 0) (.int .i64 0) (.int .i64 0) (.string ⟨#[]⟩)
    have hk6 := keep6 (g := w.heap.size) hK2 (fun h => absurd h (Nat.lt_irrefl _)) (.int .i64 0) (.int .i64 0) (.int .i64 0) (.int .i64 0) (.int .i64 0) (.string ⟨#[]⟩)
    have hlt : w.heap.size < ((((((w1.setCell ⟨w.heap.size, 0, none⟩ (.int .i64 0)).setCell ⟨w.heap.size, 1, none⟩ (.int .i64 0)).setCell ⟨w.heap.size, 2, none⟩ (.int .i64 0)).setCell ⟨w.heap.size, 3, none⟩ (.int .i64 0)).setCell ⟨w.heap.size, 4, none⟩ (.int .i64 0)).setCell ⟨w.heap.size, 5, none⟩ (.string ⟨#[]⟩)).heap.size := by simpa using hgs
    simp only [put6] at hs6 hk6
    generalize (((((w1.setCell ⟨w.heap.size, 0, none⟩ (.int .i64 0)).setCell ⟨w.heap.size, 1, none⟩ (.int .i64 0)).setCell ⟨w.heap.size, 2, none⟩ (.int .i64 0)).setCell ⟨w.heap.size, 3, none⟩ (.int .i64 0)).setCell ⟨w.heap.size, 4, none⟩ (.int .i64 0)).setCell ⟨w.heap.size, 5, none⟩ (.string ⟨#[]⟩) = w6 at *
    obtain ⟨q0, q1, q2, q3, q4, q5, _⟩ := cells6 ((Below.heap_alloc w6 (.cells #[.int .i64 0, .int .i64 0, .int .i64 0, .int .i64 0, .int .i64 0, .string ⟨#[]⟩] 66) w.heap.size hlt).trans hs6)
    exact bodyPost_ret (v := .tuple #[evV event0, .bool false]) (by simp [results, Try.results42, go_sem, q0, q1, q2, q3, q4, q5, event0]) rfl ⟨rfl, hk6.alloc _⟩

end Go.Proofs.Ytillhpepfpldcaa
