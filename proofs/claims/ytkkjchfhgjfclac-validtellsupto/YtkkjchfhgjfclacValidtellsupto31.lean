/- A row's argument that is a slice of selects: how many there are, against the row's own bulk. -/
import Derived.Test.YtkkjchfhgjfclacValidtellsupto13
import Derived.Test.YtkkjchfhgjfclacValidtellsupto07
import Derived.Test.YtkkjchfhgjfclacRows
namespace Go.Proofs.Ytkkjchfhgjfclac
open Go.ChangeShapes Go.WideShapes Go.RowKit

theorem bulk_part {H : Type} {d : DataW H} {l : List (DataW H)} (h : d ∈ l) : Rows.uptoBulk d ≤ Rows.uptoBulkAll l := by
  induction l with
  | nil => cases h
  | cons x r ih =>
    simp only [Rows.uptoBulkAll]
    cases List.mem_cons.1 h with
    | inl e => subst e; omega
    | inr e => have := ih e; omega

theorem mkS_size {H : Type} {T : Nat → List UInt8 × List UInt8 × List ArgT × Sels} {len : Nat} (ds : List (DataW H)) (hd : ds.length = len) (h : ∀ i (hi : i < len), (T i).2.2.2.size' + 1 ≤ Rows.uptoBulk (ds[i]'(by omega))) (n : Nat) : ∀ i, i + n = len → (mkS T n i).size' ≤ Rows.uptoBulkAll (ds.drop i) := by
  induction n with
  | zero => intro i _; simp [mkS, Sels.size']
  | succ n ih =>
    intro i hi
    rw [mkS, Sels.size', List.drop_eq_getElem_cons (by omega), Rows.uptoBulkAll]
    have h1 := ih (i + 1) (by omega)
    have h2 := h i (by omega)
    omega

set_option maxRecDepth 20000 in
theorem sels_trod_b {H : Type} {enc : TypeId × Value → H} {W : World} {sp : Nat → Bool} {held : Bool} (fuel : Nat) : ∀ (cs : List Value) (x : DataW H × List MemPlace),
    DataW.trod enc Try.prog W 0 sp held fuel 38 cs = some x → ∃ v f, cs = [v] ∧ SelSl W v f ∧ f.size' ≤ Rows.uptoBulk x.1 := by
  induction fuel using Nat.strongRecOn with
  | _ fuel ih =>
    intro cs x hf
    have hcells : Try.prog.cellsOf 62 = 4 := by kernel_rfl
    have hstr : Try.prog.cellsOf 9 = 1 := by kernel_rfl
    have harg : Try.prog.cellsOf 60 = 1 := by kernel_rfl
    have hsel : Try.prog.cellsOf 38 = 1 := by kernel_rfl
    rcases DataW.trod_slice Try.underlying38 hf with ⟨rfl, _⟩ | ⟨a, len, cap, elems, rest, n, hfn, rfl, hx, hb, hl, hm, hlen, hel, _, _⟩
    · exact ⟨_, .nil, rfl, SelSl.nil W, Nat.zero_le _⟩
    · rw [hcells] at hel
      have each : ∀ i, i < len → ∃ t : List UInt8 × List UInt8 × List ArgT × Sels, OneAt W (a.add (i * 4)) t ∧ ∀ y, elems[i]? = some y → t.2.2.2.size' + 1 ≤ Rows.uptoBulk y.1 := by
        intro i hi
        have key := hel i hi
        rw [List.getElem?_eq_getElem (by omega)] at key
        obtain ⟨cs', h1, h2⟩ := Option.bind_eq_some_iff.1 key
        obtain ⟨_, hcl, hcell⟩ := World.cells?_some h1
        obtain ⟨xs, q, hq, hxe, _, hxl, hfd⟩ := DataW.trod_struct Try.underlying62 h2
        match xs, hxl, cs', hcl with
        | [y0, y1, y2, y3], _, [v0, v1, v2, v3], _ =>
          have g0 := hfd 0 _ rfl
          have g1 := hfd 1 _ rfl
          have g2 := hfd 2 _ rfl
          have g3 := hfd 3 _ rfl
          simp [hstr, harg, hsel] at g0 g1 g2 g3
          obtain ⟨z0, e0, _, _⟩ := DataW.trod_string Try.underlying9 g0
          obtain ⟨z1, e1, _, _⟩ := DataW.trod_string Try.underlying9 g1
          obtain ⟨u2, l2, e2, s2⟩ := args_of g2
          obtain ⟨u3, f3, e3, s3, b3⟩ := ih q (by omega) _ _ g3
          simp only [List.cons.injEq, and_true] at e0 e1 e2 e3
          subst e0 e1 e2 e3
          have c0 := hcell 0 (by omega)
          have c1 := hcell 1 (by omega)
          have c2 := hcell 2 (by omega)
          have c3 := hcell 3 (by omega)
          refine ⟨⟨z0.data.toList, z1.data.toList, l2, f3⟩, ⟨?_, by simpa using c1, ⟨v2, by simpa using c2, s2⟩, ⟨v3, by simpa using c3, s3⟩⟩, fun y hy => ?_⟩
          · rw [Deep.add_add] at c0
            simpa using c0
          · rw [List.getElem?_eq_getElem (by omega), Option.some.injEq] at hy
            rw [← hy, hxe]
            have := bulk_part (show y3.1 ∈ [y0, y1, y2, y3].map (·.1) by simp)
            simp only [Rows.uptoBulk]
            omega
      have : Inhabited (List UInt8 × List UInt8 × List ArgT × Sels) := ⟨[], [], [], .nil⟩
      obtain ⟨T, hT⟩ := Deep.choose_lt each
      refine ⟨_, mkS T len 0, rfl, ⟨some a, cap, by rw [mkS_len], by rw [mkS_len]; exact ⟨by omega, hl⟩, ?_⟩, ?_⟩
      · by_cases h0 : len = 0
        · subst h0; exact .inl rfl
        · obtain ⟨b, off, spot⟩ := a
          have hspot : spot = none := by
            have := World.cell?_spot (hT 0 (by omega)).1.1
            simpa [Addr.add] using this
          subst hspot
          refine .inr ⟨b, off, rfl, ?_⟩
          have := mkS_at (w := W) (b := b) (off := off) (len := len) (T := T) (fun i hi => by
            have h := (hT i hi).1
            rw [add_none] at h
            exact h) len 0 (by omega)
          simpa using this
      · have := mkS_size (T := T) (len := len) (elems.map (·.1)) (by simp; exact hlen) (fun i hi => by
          have := (hT i hi).2 elems[i] (List.getElem?_eq_getElem (by omega))
          simpa using this) len 0 (by omega)
        rw [hx]
        simp only [Rows.uptoBulk]
        rw [List.drop_zero] at this
        omega

set_option maxRecDepth 20000 in
/-- an argument's slice of selects, no more of them than its bulk -/
theorem sels_of_b {H : Type} {enc : TypeId × Value → H} {W : World} {r : Reach} {b0 : Nat} {v : Value} {d : DataW H} {ps : List MemPlace} {sp : Nat → Bool} {held : Bool}
    (hval : Value.okWide Try.prog W r b0 38 v) (h : DataW.Trod enc Try.prog W 0 sp held 38 v d ps) : ∃ f, SelSl W v f ∧ f.size' ≤ Rows.uptoBulk d := by
  obtain ⟨ao, len, cap, rfl⟩ := okWide_slice Try.underlying38 hval
  obtain ⟨fuel, hf⟩ := h
  obtain ⟨v, f, e, hs, hb⟩ := sels_trod_b fuel _ _ hf
  simp only [Value.cells, List.cons.injEq, and_true] at e
  subst e
  exact ⟨f, hs, hb⟩

end Go.Proofs.Ytkkjchfhgjfclac
