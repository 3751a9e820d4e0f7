/- An argument that is a batch. -/
import Derived.Test.YtillhpepfpldcaaDisktells25
import Derived.Test.YtillhpepfpldcaaDisktells03
namespace Go.Proofs.Ytillhpepfpldcaa
open Go.ChangeShapes Go.WideShapes Go.RowKit

set_option maxRecDepth 20000 in
theorem batch_of {H : Type} {enc : TypeId × Value → H} {W : World} {r : Reach} {b0 : Nat} {v : Value} {d : DataW H} {ps : List MemPlace} {sp : Nat → Bool} {held : Bool}
    (hval : Value.okWide Try.prog W r b0 24 v) (h : DataW.Trod enc Try.prog W 0 sp held 24 v d ps) : ∃ (b : BatchT) (ve : Value), v = baV b.number ve ∧ EvSl anyE W ve b.events := by
  obtain ⟨v0, v1, y0, y1, n, rfl, _, _, h0, h1⟩ := Joins.open_agg2 Try.underlying24 (by kernel_rfl) (by kernel_rfl) hval h
  obtain ⟨z0, e0, _, _⟩ := DataW.trod_int Try.underlying3 h0
  obtain ⟨u, l, e1, hs⟩ := evs_trod h1
  simp only [List.cons.injEq, and_true] at e0 e1
  subst e0 e1
  exact ⟨⟨z0, l⟩, _, rfl, hs⟩

end Go.Proofs.Ytillhpepfpldcaa
