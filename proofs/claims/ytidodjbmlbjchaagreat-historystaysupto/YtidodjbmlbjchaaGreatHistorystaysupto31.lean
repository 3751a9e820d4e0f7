/- state's doer: its block; rows of things. -/
import Derived.Test.YtidodjbmlbjchaaGreatHistorystaysupto30
import Derived.Test.YtidodjbmlbjchaaGreatHistorystaysupto08
import Derived.Laws.MakeOwn
namespace Go.Proofs.YtidodjbmlbjchaaGreat
open Go.RowKit

/-- what a doer's block holds -/
abbrev doC (vt vh : Value) (e : EventT) : Array Value := #[vt, vh, .int .i64 e.kind, .int .i64 e.ty, .int .i64 e.id, .int .i64 e.field, .int .i64 e.n, .string ⟨e.text.toArray⟩]
theorem do_cells {w : World} {g : Nat} {vt vh : Value} {e : EventT} {t : TypeId} (h : w.heap[g]? = some (.cells (doC vt vh e) t (0, 0))) :
    w.cell? ⟨g, 0, none⟩ = some vt ∧ w.cell? ⟨g, 1, none⟩ = some vh ∧ w.cell? ⟨g, 2, none⟩ = some (.int .i64 e.kind) ∧ w.cell? ⟨g, 3, none⟩ = some (.int .i64 e.ty) ∧ w.cell? ⟨g, 4, none⟩ = some (.int .i64 e.id) ∧ w.cell? ⟨g, 5, none⟩ = some (.int .i64 e.field) ∧ w.cell? ⟨g, 6, none⟩ = some (.int .i64 e.n) ∧ w.cell? ⟨g, 7, none⟩ = some (.string ⟨e.text.toArray⟩) ∧ ∀ o, w.frozen? ⟨g, o, none⟩ = false := by
  simp [World.cell?, World.frozen?, h]
theorem do_set {w : World} {g : Nat} {vt vh : Value} {e : EventT} {t : TypeId} (h : w.heap[g]? = some (.cells (doC vt vh e) t (0, 0))) (v : Value) : (w.setCell ⟨g, 1, none⟩ v).heap[g]? = some (.cells (doC vt v e) t (0, 0)) := by
  simp [World.setCell, Array.getElem?_modify, h]

theorem thCells_take (tp : List (ThingT × Value)) (i : Nat) : (thCells tp).take (i * 3) = thCells (tp.take i) := by
  induction tp generalizing i with
  | nil => simp [thCells]
  | cons x r ih =>
    cases i with
    | zero => simp [thCells]
    | succ i =>
      have e : thCells (x :: r) = [.int .i64 x.1.ty, .int .i64 x.1.id, x.2] ++ thCells r := rfl
      rw [List.take_succ_cons, e, show thCells (x :: r.take i) = [.int .i64 x.1.ty, .int .i64 x.1.id, x.2] ++ thCells (r.take i) from rfl, ← ih i, show (i + 1) * 3 = [Value.int .i64 x.1.ty, .int .i64 x.1.id, x.2].length + i * 3 by simp; omega, List.take_length_add_append]
theorem thCells_drop (tp : List (ThingT × Value)) (i : Nat) : (thCells tp).drop (i * 3) = thCells (tp.drop i) := by
  induction tp generalizing i with
  | nil => simp [thCells]
  | cons x r ih =>
    cases i with
    | zero => simp
    | succ i =>
      have e : thCells (x :: r) = [.int .i64 x.1.ty, .int .i64 x.1.id, x.2] ++ thCells r := rfl
      rw [List.drop_succ_cons, e, ← ih i, show (i + 1) * 3 = [Value.int .i64 x.1.ty, .int .i64 x.1.id, x.2].length + i * 3 by simp; omega, List.drop_length_add_append]
theorem thCells_insert (tp : List (ThingT × Value)) (i : Nat) (hi : i ≤ tp.length) (p : ThingT × Value) : (thCells tp).take (i * 3) ++ [.int .i64 p.1.ty, .int .i64 p.1.id, p.2] ++ (thCells tp).drop (i * 3) = thCells (tp.insertIdx i p) := by
  rw [insertIdx_eq p tp i hi, thCells_take, thCells_drop, thCells_app, List.append_assoc]
  rfl
theorem map_insert {α β : Type} (f : α → β) (l : List α) (i : Nat) (hi : i ≤ l.length) (x : α) : (l.insertIdx i x).map f = (l.map f).insertIdx i (f x) := by
  rw [insertIdx_eq x l i hi, insertIdx_eq (f x) (l.map f) i (by simpa using hi), List.map_append, List.map_cons, List.map_take, List.map_drop]
theorem thCells_one {tp : List (ThingT × Value)} {P : Nat → Prop} {w : World} (h : ∀ p ∈ tp, CelSl P w p.2 p.1.cells) : ∀ u ∈ thCells tp, u.oneCell' = true := by
  intro u hu
  simp only [thCells, List.mem_flatMap] at hu
  obtain ⟨p, hp, hs⟩ := hu
  simp at hs
  rcases hs with rfl | rfl | rfl
  · rfl
  · rfl
  · obtain ⟨a, c, e, _⟩ := h p hp
    rw [e]; rfl

/-- a row of things, each of whose cells are known -/
theorem thg_own {P : Nat → Prop} {base : Nat} {w : World} {v : Value} {tp : List (ThingT × Value)} (hown : w.ownsRow base 68 3 v tp.length (thCells tp)) (hr : ∀ k, Row v k → P k) (hl : tp.length ≤ maxLen) (hc : ∀ p ∈ tp, CelSl P w p.2 p.1.cells) {l : List ThingT} (he : tp.map Prod.fst = l) : ThgSl P w v l := by
  subst he
  have hlen : (tp.map Prod.fst).length = tp.length := by simp
  rcases hown.2 with ⟨rfl, h0⟩ | ⟨g, cap, cur, rfl, hg, hb, hc1, hc2, hc3, htk⟩
  · obtain rfl : tp = [] := List.length_eq_zero_iff.1 h0
    exact ThgSl.nil _ _
  · have hown' : w.ownsRow base 68 3 (.slice (some ⟨g, 0, none⟩) tp.length cap) tp.length (thCells tp) := hown
    refine ⟨some ⟨g, 0, none⟩, cap, by rw [hlen], ⟨by rw [hlen]; exact hl, by rw [hlen]; omega⟩, fun i e he => ?_⟩
    rw [List.getElem?_map] at he
    cases hp : tp[i]? with
    | none => rw [hp] at he; cases he
    | some p =>
      rw [hp] at he
      cases he
      have hi : i < tp.length := (List.getElem?_eq_some_iff.1 hp).1
      obtain ⟨g1, g2, g3⟩ := thCells_get hp
      have c0 := World.ownsRow.cellAt hown' (i * 3) (by omega)
      have c1 := World.ownsRow.cellAt hown' (i * 3 + 1) (by omega)
      have c2 := World.ownsRow.cellAt hown' (i * 3 + 2) (by omega)
      rw [g1] at c0
      rw [g2] at c1
      rw [g3] at c2
      exact ⟨g, 0, p.2, rfl, hr g rfl, by rw [Nat.zero_add]; exact c0, by rw [Nat.zero_add]; exact c1, by rw [Nat.zero_add]; exact c2, hc p (List.mem_of_getElem? hp)⟩

/-- the cells that make gives -/
theorem cel_made {w : World} {N nf : Nat} (hn : nf ≤ maxLen) (h : w.heap[N]? = some (.cells (madeCells (Value.agg #[.int .i64 0, .string ⟨#[]⟩, .slice none 0 0]).cells (nf * 3)) 65 (0, 0))) : CelSl (fun k => k = N) w (.slice (some ⟨N, 0, none⟩) nf nf) (List.replicate nf cell0) := by
  refine ⟨some ⟨N, 0, none⟩, nf, by rw [List.length_replicate], by rw [List.length_replicate]; exact ⟨hn, Nat.le_refl _⟩, fun i c hc => ?_⟩
  rw [List.getElem?_replicate] at hc
  split at hc
  · rename_i hi
    cases hc
    have key : ∀ k, k < nf * 3 → w.cell? ⟨N, k, none⟩ = some ((Value.agg #[.int .i64 0, .string ⟨#[]⟩, .slice none 0 0]).cells[k % 3]!) := by
      intro k hk
      simp [World.cell?, h, madeCells, hk, Value.cells]
    refine ⟨N, 0, .slice none 0 0, rfl, rfl, ?_, ?_, ?_, IdsSl.nil _ _⟩
    · rw [Nat.zero_add, key _ (by omega), show i * 3 % 3 = 0 by omega]; simp [Value.cells, cell0]
    · rw [Nat.zero_add, key _ (by omega), show (i * 3 + 1) % 3 = 1 by omega]; simp [Value.cells, cell0]
    · rw [Nat.zero_add, key _ (by omega), show (i * 3 + 2) % 3 = 2 by omega]; simp [Value.cells]
  · cases hc

end Go.Proofs.YtidodjbmlbjchaaGreat
