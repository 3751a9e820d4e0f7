/- Slices of strings in memory. -/
import Derived.Test.YtillhpepfpldcaaDiskcrash01
namespace Go.Proofs.Ytillhpepfpldcaa
open Go.RowKit

/-- v is a slice of the texts l -/
def StSl (P : Nat → Prop) (w : World) (v : Value) (l : List (List UInt8)) : Prop :=
  ∃ ao cap, v = .slice ao l.length cap ∧ (l.length ≤ maxLen ∧ l.length ≤ cap ∧ (ao = none → cap = 0)) ∧ ∀ i s, l[i]? = some s → ∃ b off, ao = some ⟨b, off, none⟩ ∧ P b ∧ w.cell? ⟨b, off + i, none⟩ = some (.string ⟨s.toArray⟩)

theorem StSl.keep {P X : Nat → Prop} {w w' : World} {v : Value} {l : List (List UInt8)} (h : StSl P w v l) (hk : Kept X w w') (hx : ∀ b, P b → ¬ X b) : StSl P w' v l := by
  obtain ⟨ao, cap, hv, hl, hc⟩ := h
  refine ⟨ao, cap, hv, hl, fun i t ht => ?_⟩
  obtain ⟨b, off, ha, hp, h0⟩ := hc i t ht
  exact ⟨b, off, ha, hp, hk.cell h0 (hx b hp)⟩
theorem StSl.same {P : Nat → Prop} {w w' : World} {v : Value} {l : List (List UInt8)} (h : StSl P w v l) (hk : Same w w') : StSl P w' v l := h.keep hk (fun _ _ f => f)
theorem StSl.mono {P Q : Nat → Prop} {w : World} {v : Value} {l : List (List UInt8)} (h : StSl P w v l) (hq : ∀ b, b < w.heap.size → P b → Q b) : StSl Q w v l := by
  obtain ⟨ao, cap, hv, hl, hc⟩ := h
  refine ⟨ao, cap, hv, hl, fun i t ht => ?_⟩
  obtain ⟨b, off, ha, hp, h0⟩ := hc i t ht
  exact ⟨b, off, ha, hq b (World.block_lt_of_cell? w _ h0) hp, h0⟩
theorem StSl.nil (P : Nat → Prop) (w : World) : StSl P w (.slice none 0 0) [] := ⟨none, 0, rfl, ⟨Nat.zero_le _, Nat.le_refl _, fun _ => rfl⟩, fun i t h => by simp at h⟩
theorem StSl.at {P : Nat → Prop} {w : World} {ao : Option Addr} {n cap : Nat} {l : List (List UInt8)} (h : StSl P w (.slice ao n cap) l) (i : Nat) (hi : i < l.length) : ∃ b off, ao = some ⟨b, off, none⟩ ∧ P b ∧ w.cell? ⟨b, off + i, none⟩ = some (.string ⟨l[i].toArray⟩) := by
  obtain ⟨ao', cap', hv, _, h3⟩ := h
  cases hv
  exact h3 i l[i] (List.getElem?_eq_getElem hi)
theorem StSl.len {P : Nat → Prop} {w : World} {ao : Option Addr} {n cap : Nat} {l : List (List UInt8)} (h : StSl P w (.slice ao n cap) l) : n = l.length ∧ l.length ≤ 9223372036854775807 ∧ l.length ≤ cap := by
  obtain ⟨_, _, hv, hl, _⟩ := h; cases hv; exact ⟨rfl, hl.1, hl.2.1⟩
theorem StSl.form {P : Nat → Prop} {w : World} {v : Value} {l : List (List UInt8)} (h : StSl P w v l) : ∃ ao cap, v = .slice ao l.length cap := by
  obtain ⟨ao, cap, hv, _⟩ := h; exact ⟨ao, cap, hv⟩

theorem StSl.none {P : Nat → Prop} {w : World} {ao : Option Addr} {n cap : Nat} {l : List (List UInt8)} (h : StSl P w (.slice ao n cap) l) : ao = none → l.length = 0 ∧ cap = 0 := by
  obtain ⟨ao', cap', hv, hl, hc⟩ := h
  cases hv
  intro e
  refine ⟨?_, hl.2.2 e⟩
  cases l with
  | nil => rfl
  | cons x t => obtain ⟨b, off, ha, _⟩ := hc 0 x rfl; rw [e] at ha; cases ha

def stCells (l : List (List UInt8)) : List Value := l.map fun s => .string ⟨s.toArray⟩
theorem stCells_len (l : List (List UInt8)) : (stCells l).length = l.length := by simp [stCells]
theorem stCells_one (l : List (List UInt8)) : ∀ u ∈ stCells l, u.oneCell' = true := by
  intro u hu
  simp only [stCells, List.mem_map] at hu
  obtain ⟨s, _, rfl⟩ := hu
  rfl
theorem stCells_get {l : List (List UInt8)} {i : Nat} {s : List UInt8} (h : l[i]? = some s) : (stCells l)[i]? = some (.string ⟨s.toArray⟩) := by
  unfold stCells; rw [List.getElem?_map, h]; rfl

/-- a row of texts that the call owns -/
abbrev OwnS (base : Nat) (w : World) (v : Value) (l : List (List UInt8)) : Prop := w.ownsRow base 9 1 v l.length (stCells l)
theorem own_sts {w : World} {base : Nat} {v : Value} {l : List (List UInt8)} (h : OwnS base w v l) (hl : l.length ≤ maxLen) : StSl (fun k => v.ownBlock = some k ∧ base ≤ k) w v l := by
  rcases h.2 with ⟨rfl, h0⟩ | ⟨g, cap, cur, rfl, hg, hb, hc1, hc2, hc3, htk⟩
  · obtain rfl : l = [] := List.length_eq_zero_iff.1 h0
    exact StSl.nil _ _
  · have hcells := World.ownsRow.cells (v := .slice (some ⟨g, 0, none⟩) l.length cap) h (g := g) rfl
    refine ⟨some ⟨g, 0, none⟩, cap, rfl, ⟨hl, by omega, fun e => (by cases e)⟩, fun i e he => ⟨g, 0, rfl, ⟨rfl, hg⟩, ?_⟩⟩
    have := hcells i _ (stCells_get he)
    rw [addr_add] at this
    exact this

end Go.Proofs.Ytillhpepfpldcaa
