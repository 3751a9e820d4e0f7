import Derived.Test.YtidodjbmlbjchaaGreatHistorystaysupto11
import Derived.Deep.Strs
import Derived.Carry
import Derived.Test.YtidodjbmlbjchaaGreatHistorystaysupto06
import Derived.Test.YtidodjbmlbjchaaGreatChecked
import Derived.Test.YtidodjbmlbjchaaGreatHistorystaysupto07
/- Arguments that are slices of tokens: what the row's reading says of them. -/
namespace Go.Proofs.YtidodjbmlbjchaaGreat
open Go.ChangeShapes Go.WideShapes Go.RowKit

theorem add_none (b off j : Nat) : ((⟨b, off, none⟩ : Addr).add j) = ⟨b, off + j, none⟩ := by
  unfold Addr.add
  split
  · rename_i h; rw [h]; rfl
  · rfl

set_option maxRecDepth 20000 in
/-- an argument's slice of tokens -/
theorem toks_of {H : Type} {enc : TypeId × Value → H} {W : World} {r : Reach} {b0 : Nat} {v : Value} {d : DataW H} {ps : List MemPlace} {sp : Nat → Bool} {held : Bool}
    (hval : Value.okWide Tryz.prog W r b0 128 v) (h : DataW.Trod enc Tryz.prog W 0 sp held 128 v d ps)
    (hsz : ∀ elems spare, d = .slice elems spare → (elems.length + spare.length) * Tryz.prog.bytesOf 126 ≤ reachBytes) : ∃ l, TokSl W v l := by
  obtain ⟨ao, len, cap, rfl⟩ := okWide_slice Tryz.underlying128 hval
  obtain ⟨fuel, hf⟩ := h
  have hcells : Tryz.prog.cellsOf 126 = 3 := by kernel_rfl
  have hbytes : Tryz.prog.bytesOf 126 = 32 := by kernel_rfl
  have hint : Tryz.prog.cellsOf 3 = 1 := by kernel_rfl
  have hstr : Tryz.prog.cellsOf 9 = 1 := by kernel_rfl
  rcases Deep.open_slice Tryz.underlying128 hf with ⟨hc, _⟩ | ⟨a, len', cap', m, n, D, Pl, hc, hb, hl, hm, hmm, hx, hall⟩
  · simp only [Value.cells, List.cons.injEq, Value.slice.injEq, and_true] at hc
    obtain ⟨rfl, rfl, rfl⟩ := hc
    exact ⟨[], TokSl.nil W⟩
  · simp only [Value.cells, List.cons.injEq, Value.slice.injEq, and_true] at hc
    obtain ⟨rfl, rfl, rfl⟩ := hc
    have hlm : len ≤ m := by rw [hmm]; split <;> omega
    rw [hcells] at hall
    have each : ∀ i, i < len → ∃ t : Tok, W.cell? (a.add (i * 3)) = some (.int .i64 t.k) ∧ W.cell? (a.add (i * 3 + 1)) = some (.string ⟨t.s.toArray⟩) ∧ W.cell? (a.add (i * 3 + 2)) = some (.int .i64 t.n) := by
      intro i hi
      obtain ⟨cs', h1, h2⟩ := hall i (by omega)
      obtain ⟨_, hlen, hcell⟩ := World.cells?_some h1
      obtain ⟨y0, y1, y2, k, _, _, g0, g1, g2⟩ := Deep.trod_struct3 Tryz.underlying126 h2
      match cs', hlen with
      | [v0, v1, v2], _ =>
        simp only [hint, hstr, List.drop_zero, List.drop_succ_cons, List.take_succ_cons, List.take_zero] at g0 g1 g2
        obtain ⟨z0, e0, _, _⟩ := DataW.trod_int Tryz.underlying3 g0
        obtain ⟨z1, e1, _, _⟩ := DataW.trod_string Tryz.underlying9 g1
        obtain ⟨z2, e2, _, _⟩ := DataW.trod_int Tryz.underlying3 g2
        simp only [List.cons.injEq, and_true] at e0 e1 e2
        subst e0 e1 e2
        have c0 := hcell 0 (by omega)
        have c1 := hcell 1 (by omega)
        have c2 := hcell 2 (by omega)
        rw [Deep.add_add] at c0 c1 c2
        exact ⟨⟨z0, z1.data.toList, z2⟩, by simpa using c0, by simpa using c1, by simpa using c2⟩
    have : Inhabited Tok := ⟨⟨0, [], 0⟩⟩
    obtain ⟨T, hT⟩ := Deep.choose_lt each
    have hlen : ((List.range len).map T).length = len := by simp
    have hle : len ≤ 9000000000000 := by
      have e := hsz _ _ (Prod.mk.inj hx).1
      rw [hbytes] at e
      simp only [List.length_map, List.length_range] at e
      have : reachBytes < 2 ^ 47 := by decide
      omega
    refine ⟨(List.range len).map T, some a, cap, by rw [hlen], by rw [hlen]; exact hle, ?_⟩
    intro i t ht
    obtain ⟨hi, ht⟩ := List.getElem?_eq_some_iff.1 ht
    rw [hlen] at hi
    simp only [List.getElem_map, List.getElem_range] at ht
    subst ht
    obtain ⟨c0, c1, c2⟩ := hT i hi
    obtain ⟨b, off, spot⟩ := a
    have hspot : spot = none := by
      have := World.cell?_spot (hT 0 (by omega)).1
      simpa [Addr.add] using this
    subst hspot
    rw [add_none] at c0 c1 c2
    exact ⟨b, off, rfl, c0, by rw [Nat.add_assoc]; exact c1, by rw [Nat.add_assoc]; exact c2⟩

end Go.Proofs.YtidodjbmlbjchaaGreat

/- Slices of fields and of types in memory, and as a row's arguments. -/
namespace Go.Proofs.YtidodjbmlbjchaaGreat
open Go.ChangeShapes Go.WideShapes Go.RowKit

/-- v is a slice of the fields l, in w, in a block of which P holds -/
def FldSl (P : Nat → Prop) (w : World) (v : Value) (l : List FieldT) : Prop :=
  ∃ ao cap, v = .slice ao l.length cap ∧ (l.length ≤ maxLen ∧ l.length ≤ cap) ∧ ∀ i f, l[i]? = some f → ∃ b off, ao = some ⟨b, off, none⟩ ∧ P b ∧
    w.cell? ⟨b, off + i * 3, none⟩ = some (.string ⟨f.name.toArray⟩) ∧ w.cell? ⟨b, off + i * 3 + 1, none⟩ = some (.int .i64 f.kind) ∧ w.cell? ⟨b, off + i * 3 + 2, none⟩ = some (.string ⟨f.of.toArray⟩)

/-- v is a slice of the types l, in w; their fields in blocks of which P holds -/
def TypSl (P : Nat → Prop) (w : World) (v : Value) (l : List TypeT) : Prop :=
  ∃ ao cap, v = .slice ao l.length cap ∧ (l.length ≤ maxLen ∧ l.length ≤ cap) ∧ ∀ i t, l[i]? = some t → ∃ b off vf, ao = some ⟨b, off, none⟩ ∧ P b ∧
    w.cell? ⟨b, off + i * 2, none⟩ = some (.string ⟨t.name.toArray⟩) ∧ w.cell? ⟨b, off + i * 2 + 1, none⟩ = some vf ∧ FldSl P w vf t.fields

def anyB : Nat → Prop := fun _ => True

theorem FldSl.keep {P X : Nat → Prop} {w w' : World} {v : Value} {l : List FieldT} (h : FldSl P w v l) (hk : Kept X w w') (hx : ∀ b, P b → ¬ X b) : FldSl P w' v l := by
  obtain ⟨ao, cap, hv, hl, hc⟩ := h
  refine ⟨ao, cap, hv, hl, fun i t ht => ?_⟩
  obtain ⟨b, off, ha, hp, h0, h1, h2⟩ := hc i t ht
  exact ⟨b, off, ha, hp, hk.cell h0 (hx b hp), hk.cell h1 (hx b hp), hk.cell h2 (hx b hp)⟩

theorem FldSl.mono {P Q : Nat → Prop} {w : World} {v : Value} {l : List FieldT} (h : FldSl P w v l) (hq : ∀ b, b < w.heap.size → P b → Q b) : FldSl Q w v l := by
  obtain ⟨ao, cap, hv, hl, hc⟩ := h
  refine ⟨ao, cap, hv, hl, fun i t ht => ?_⟩
  obtain ⟨b, off, ha, hp, h0, h1, h2⟩ := hc i t ht
  exact ⟨b, off, ha, hq b (World.block_lt_of_cell? w _ h0) hp, h0, h1, h2⟩

theorem FldSl.same {P : Nat → Prop} {w w' : World} {v : Value} {l : List FieldT} (h : FldSl P w v l) (hk : Same w w') : FldSl P w' v l := h.keep hk (fun _ _ f => f)

theorem FldSl.any {P : Nat → Prop} {w : World} {v : Value} {l : List FieldT} (h : FldSl P w v l) : FldSl anyB w v l := h.mono (fun _ _ _ => trivial)

theorem TypSl.keep {P X : Nat → Prop} {w w' : World} {v : Value} {l : List TypeT} (h : TypSl P w v l) (hk : Kept X w w') (hx : ∀ b, P b → ¬ X b) : TypSl P w' v l := by
  obtain ⟨ao, cap, hv, hl, hc⟩ := h
  refine ⟨ao, cap, hv, hl, fun i t ht => ?_⟩
  obtain ⟨b, off, vf, ha, hp, h0, h1, h2⟩ := hc i t ht
  exact ⟨b, off, vf, ha, hp, hk.cell h0 (hx b hp), hk.cell h1 (hx b hp), h2.keep hk hx⟩

theorem TypSl.same {P : Nat → Prop} {w w' : World} {v : Value} {l : List TypeT} (h : TypSl P w v l) (hk : Same w w') : TypSl P w' v l := h.keep hk (fun _ _ f => f)

theorem TypSl.mono {P Q : Nat → Prop} {w : World} {v : Value} {l : List TypeT} (h : TypSl P w v l) (hq : ∀ b, b < w.heap.size → P b → Q b) : TypSl Q w v l := by
  obtain ⟨ao, cap, hv, hl, hc⟩ := h
  refine ⟨ao, cap, hv, hl, fun i t ht => ?_⟩
  obtain ⟨b, off, vf, ha, hp, h0, h1, h2⟩ := hc i t ht
  exact ⟨b, off, vf, ha, hq b (World.block_lt_of_cell? w _ h0) hp, h0, h1, h2.mono hq⟩

theorem TypSl.any {P : Nat → Prop} {w : World} {v : Value} {l : List TypeT} (h : TypSl P w v l) : TypSl anyB w v l := h.mono (fun _ _ _ => trivial)

theorem FldSl.at {P : Nat → Prop} {w : World} {ao : Option Addr} {n cap : Nat} {l : List FieldT} (h : FldSl P w (.slice ao n cap) l) (i : Nat) (hi : i < l.length) : ∃ b off, ao = some ⟨b, off, none⟩ ∧
    w.cell? ⟨b, off + i * 3, none⟩ = some (.string ⟨l[i].name.toArray⟩) ∧ w.cell? ⟨b, off + i * 3 + 1, none⟩ = some (.int .i64 l[i].kind) ∧ w.cell? ⟨b, off + i * 3 + 2, none⟩ = some (.string ⟨l[i].of.toArray⟩) := by
  obtain ⟨ao', cap', hv, _, h3⟩ := h
  cases hv
  obtain ⟨b, off, ha, _, h⟩ := h3 i l[i] (List.getElem?_eq_getElem hi)
  exact ⟨b, off, ha, h⟩

theorem TypSl.at {P : Nat → Prop} {w : World} {ao : Option Addr} {n cap : Nat} {l : List TypeT} (h : TypSl P w (.slice ao n cap) l) (i : Nat) (hi : i < l.length) : ∃ b off af nf cf, ao = some ⟨b, off, none⟩ ∧
    w.cell? ⟨b, off + i * 2, none⟩ = some (.string ⟨l[i].name.toArray⟩) ∧ w.cell? ⟨b, off + i * 2 + 1, none⟩ = some (.slice af nf cf) ∧ nf = l[i].fields.length ∧ FldSl P w (.slice af nf cf) l[i].fields := by
  obtain ⟨ao', cap', hv, _, h3⟩ := h
  cases hv
  obtain ⟨b, off, vf, ha, _, h0, h1, h2⟩ := h3 i l[i] (List.getElem?_eq_getElem hi)
  obtain ⟨af, cf, rfl, _, _⟩ := id h2
  exact ⟨b, off, af, _, cf, ha, h0, h1, rfl, h2⟩

theorem FldSl.take {P : Nat → Prop} {w : World} {ao : Option Addr} {n cap : Nat} {l : List FieldT} (h : FldSl P w (.slice ao n cap) l) (j : Nat) (hj : j ≤ l.length) : FldSl P w (.slice ao j cap) (l.take j) := by
  obtain ⟨ao', cap', hv, hm, h3⟩ := h
  cases hv
  refine ⟨ao, cap, by rw [List.length_take, Nat.min_eq_left hj], by rw [List.length_take]; exact ⟨by omega, by omega⟩, fun i a ha => ?_⟩
  rw [List.getElem?_take] at ha
  split at ha
  · exact h3 i a ha
  · cases ha

theorem TypSl.take {P : Nat → Prop} {w : World} {ao : Option Addr} {n cap : Nat} {l : List TypeT} (h : TypSl P w (.slice ao n cap) l) (j : Nat) (hj : j ≤ l.length) : TypSl P w (.slice ao j cap) (l.take j) := by
  obtain ⟨ao', cap', hv, hm, h3⟩ := h
  cases hv
  refine ⟨ao, cap, by rw [List.length_take, Nat.min_eq_left hj], by rw [List.length_take]; exact ⟨by omega, by omega⟩, fun i a ha => ?_⟩
  rw [List.getElem?_take] at ha
  split at ha
  · exact h3 i a ha
  · cases ha

theorem FldSl.nil (P : Nat → Prop) (w : World) : FldSl P w (.slice none 0 0) [] := ⟨none, 0, rfl, ⟨Nat.zero_le _, Nat.le_refl _⟩, fun i t h => by simp at h⟩
theorem TypSl.nil (P : Nat → Prop) (w : World) : TypSl P w (.slice none 0 0) [] := ⟨none, 0, rfl, ⟨Nat.zero_le _, Nat.le_refl _⟩, fun i t h => by simp at h⟩

set_option maxRecDepth 20000 in
/-- an argument's slice of fields, as cells -/
theorem flds_of {H : Type} {enc : TypeId × Value → H} {W : World} {fuel : Nat} {cs : List Value} {x : DataW H × List MemPlace} {sp : Nat → Bool} {held : Bool}
    (hf : DataW.trod enc Tryz.prog W 0 sp held fuel 59 cs = some x) : ∃ v l, cs = [v] ∧ FldSl anyB W v l := by
  have hcells : Tryz.prog.cellsOf 58 = 3 := by kernel_rfl
  have hint : Tryz.prog.cellsOf 3 = 1 := by kernel_rfl
  have hstr : Tryz.prog.cellsOf 9 = 1 := by kernel_rfl
  rcases Deep.open_slice Tryz.underlying59 hf with ⟨rfl, _⟩ | ⟨a, len, cap, m, n, D, Pl, rfl, hb, hl, hm, hmm, hx, hall⟩
  · exact ⟨_, [], rfl, FldSl.nil _ W⟩
  · have hlm : len ≤ m := by rw [hmm]; split <;> omega
    rw [hcells] at hall
    have each : ∀ i, i < len → ∃ t : FieldT, W.cell? (a.add (i * 3)) = some (.string ⟨t.name.toArray⟩) ∧ W.cell? (a.add (i * 3 + 1)) = some (.int .i64 t.kind) ∧ W.cell? (a.add (i * 3 + 2)) = some (.string ⟨t.of.toArray⟩) := by
      intro i hi
      obtain ⟨cs', h1, h2⟩ := hall i (by omega)
      obtain ⟨_, hlen, hcell⟩ := World.cells?_some h1
      obtain ⟨xs, q, _, _, _, hxl, hfd⟩ := DataW.trod_struct Tryz.underlying58 h2
      match xs, hxl, cs', hlen with
      | [y0, y1, y2], _, [v0, v1, v2], _ =>
        have g0 := hfd 0 _ rfl
        have g1 := hfd 1 _ rfl
        have g2 := hfd 2 _ rfl
        simp [hint, hstr] at g0 g1 g2
        obtain ⟨z0, e0, _, _⟩ := DataW.trod_string Tryz.underlying9 g0
        obtain ⟨z1, e1, _, _⟩ := DataW.trod_int Tryz.underlying3 g1
        obtain ⟨z2, e2, _, _⟩ := DataW.trod_string Tryz.underlying9 g2
        simp only [List.cons.injEq, and_true] at e0 e1 e2
        subst e0 e1 e2
        have c0 := hcell 0 (by omega)
        have c1 := hcell 1 (by omega)
        have c2 := hcell 2 (by omega)
        rw [Deep.add_add] at c0 c1 c2
        exact ⟨⟨z0.data.toList, z1, z2.data.toList⟩, by simpa using c0, by simpa using c1, by simpa using c2⟩
    have : Inhabited FieldT := ⟨⟨[], 0, []⟩⟩
    obtain ⟨T, hT⟩ := Deep.choose_lt each
    have hlen : ((List.range len).map T).length = len := by simp
    refine ⟨_, (List.range len).map T, rfl, some a, cap, by rw [hlen], by rw [hlen]; exact ⟨by omega, hl⟩, ?_⟩
    intro i t ht
    obtain ⟨hi, ht⟩ := List.getElem?_eq_some_iff.1 ht
    rw [hlen] at hi
    simp only [List.getElem_map, List.getElem_range] at ht
    subst ht
    obtain ⟨c0, c1, c2⟩ := hT i hi
    obtain ⟨b, off, spot⟩ := a
    have hspot : spot = none := by
      have := World.cell?_spot (hT 0 (by omega)).1
      simpa [Addr.add] using this
    subst hspot
    rw [add_none] at c0 c1 c2
    exact ⟨b, off, rfl, trivial, c0, by rw [Nat.add_assoc]; exact c1, by rw [Nat.add_assoc]; exact c2⟩

set_option maxRecDepth 20000 in
theorem typs_trod {H : Type} {enc : TypeId × Value → H} {W : World} {fuel : Nat} {cs : List Value} {x : DataW H × List MemPlace} {sp : Nat → Bool} {held : Bool}
    (hf : DataW.trod enc Tryz.prog W 0 sp held fuel 22 cs = some x) : ∃ v l, cs = [v] ∧ TypSl anyB W v l := by
  have hcells : Tryz.prog.cellsOf 61 = 2 := by kernel_rfl
  have hfl : Tryz.prog.cellsOf 59 = 1 := by kernel_rfl
  have hstr : Tryz.prog.cellsOf 9 = 1 := by kernel_rfl
  rcases Deep.open_slice Tryz.underlying22 hf with ⟨rfl, _⟩ | ⟨a, len, cap, m, n, D, Pl, rfl, hb, hl, hm, hmm, hx, hall⟩
  · exact ⟨_, [], rfl, TypSl.nil _ W⟩
  · have hlm : len ≤ m := by rw [hmm]; split <;> omega
    rw [hcells] at hall
    have each : ∀ i, i < len → ∃ t : TypeT, W.cell? (a.add (i * 2)) = some (.string ⟨t.name.toArray⟩) ∧ ∃ vf, W.cell? (a.add (i * 2 + 1)) = some vf ∧ FldSl anyB W vf t.fields := by
      intro i hi
      obtain ⟨cs', h1, h2⟩ := hall i (by omega)
      obtain ⟨_, hlen, hcell⟩ := World.cells?_some h1
      obtain ⟨xs, q, _, _, _, hxl, hfd⟩ := DataW.trod_struct Tryz.underlying61 h2
      match xs, hxl, cs', hlen with
      | [y0, y1], _, [v0, v1], _ =>
        have g0 := hfd 0 _ rfl
        have g1 := hfd 1 _ rfl
        simp [hfl, hstr] at g0 g1
        obtain ⟨z0, e0, _, _⟩ := DataW.trod_string Tryz.underlying9 g0
        obtain ⟨u1, l1, e1, s1⟩ := flds_of g1
        simp only [List.cons.injEq, and_true] at e0 e1
        subst e0 e1
        have c0 := hcell 0 (by omega)
        have c1 := hcell 1 (by omega)
        rw [Deep.add_add] at c0 c1
        exact ⟨⟨z0.data.toList, l1⟩, by simpa using c0, v1, by simpa using c1, s1⟩
    have : Inhabited TypeT := ⟨⟨[], []⟩⟩
    obtain ⟨T, hT⟩ := Deep.choose_lt each
    have hlen : ((List.range len).map T).length = len := by simp
    refine ⟨_, (List.range len).map T, rfl, some a, cap, by rw [hlen], by rw [hlen]; exact ⟨by omega, hl⟩, ?_⟩
    intro i t ht
    obtain ⟨hi, ht⟩ := List.getElem?_eq_some_iff.1 ht
    rw [hlen] at hi
    simp only [List.getElem_map, List.getElem_range] at ht
    subst ht
    obtain ⟨c0, vf, c1, hs⟩ := hT i hi
    obtain ⟨b, off, spot⟩ := a
    have hspot : spot = none := by
      have := World.cell?_spot (hT 0 (by omega)).1
      simpa [Addr.add] using this
    subst hspot
    rw [add_none] at c0 c1
    exact ⟨b, off, vf, rfl, trivial, c0, by rw [Nat.add_assoc]; exact c1, hs⟩

set_option maxRecDepth 20000 in
/-- an argument's slice of types -/
theorem typs_of {H : Type} {enc : TypeId × Value → H} {W : World} {r : Reach} {b0 : Nat} {v : Value} {d : DataW H} {ps : List MemPlace} {sp : Nat → Bool} {held : Bool}
    (hval : Value.okWide Tryz.prog W r b0 22 v) (h : DataW.Trod enc Tryz.prog W 0 sp held 22 v d ps) : ∃ l, TypSl anyB W v l := by
  obtain ⟨ao, len, cap, rfl⟩ := okWide_slice Tryz.underlying22 hval
  obtain ⟨fuel, hf⟩ := h
  obtain ⟨v, f, e, hs⟩ := typs_trod hf
  simp only [Value.cells, List.cons.injEq, and_true] at e
  subst e
  exact ⟨f, hs⟩

end Go.Proofs.YtidodjbmlbjchaaGreat

/- parts: what an event's kind names; what is wrong with an event's shape. -/
namespace Go.Proofs.YtidodjbmlbjchaaGreat
open Go.RowKit

abbrev evV (e : EventT) : Value := .agg #[.int .i64 e.kind, .int .i64 e.ty, .int .i64 e.id, .int .i64 e.field, .int .i64 e.n, .string ⟨e.text.toArray⟩]

theorem pEvKind (k : Int) (w : World) :
    Calls Tryz.prog 71 #[.int .i64 k] w fun e w' => e = .returned (.bool (evKind k)) ∧ w' = w := by
  go_enter Tryz.func71, Tryz.ntmps71
  go_wp2
  all_goals go_ret
  all_goals refine ⟨ret_bool ?_, rfl⟩
  all_goals (unfold evKind; rw [Bool.eq_iff_iff]; simp; try omega)

theorem pNamesN (k : Int) (w : World) :
    Calls Tryz.prog 73 #[.int .i64 k] w fun e w' => e = .returned (.bool (namesN k)) ∧ w' = w := by
  go_enter Tryz.func73, Tryz.ntmps73
  go_wp2
  all_goals go_ret
  all_goals refine ⟨ret_bool ?_, rfl⟩
  all_goals (unfold namesN; rw [Bool.eq_iff_iff]; simp_all)

theorem pNamesT (k : Int) (w : World) :
    Calls Tryz.prog 74 #[.int .i64 k] w fun e w' => e = .returned (.bool (namesT k)) ∧ w' = w := by
  go_enter Tryz.func74, Tryz.ntmps74
  go_wp2
  all_goals go_ret
  all_goals refine ⟨ret_bool ?_, rfl⟩
  all_goals (unfold namesT; rw [Bool.eq_iff_iff]; simp_all)

theorem pNamesF (k : Int) (w : World) :
    Calls Tryz.prog 72 #[.int .i64 k] w fun e w' => e = .returned (.bool (namesF k)) ∧ w' = w := by
  go_enter Tryz.func72, Tryz.ntmps72
  go_wp2_with (first
    | (go_at_call 73; refine (pNamesN _ _).mono ?_; rintro e w' ⟨rfl, rfl⟩)
    | (go_at_call 74; refine (pNamesT _ _).mono ?_; rintro e w' ⟨rfl, rfl⟩))
  all_goals go_ret
  all_goals refine ⟨ret_bool ?_, rfl⟩
  all_goals (unfold namesF; simp_all)

theorem empty_bytes (l : List UInt8) : (⟨l.toArray⟩ : ByteArray).toList.isEmpty = decide (l = []) := by
  rw [ByteArray.toList_eq]; cases l <;> simp

set_option maxHeartbeats 1600000 in
theorem pShape (e : EventT) (w : World) :
    Calls Tryz.prog 51 #[evV e] w fun r w' => r = .returned (.int .i64 (shapeE e)) ∧ Same w w' := by
  obtain ⟨k, ty, i, f, n, t⟩ := e
  have he := empty_bytes t
  go_enter Tryz.func51, Tryz.ntmps51
  go_wp2_with (first
    | (go_at_call 71; refine (pEvKind _ _).mono ?_; rintro e w' ⟨rfl, rfl⟩)
    | (go_at_call 72; refine (pNamesF _ _).mono ?_; rintro e w' ⟨rfl, rfl⟩)
    | (go_at_call 73; refine (pNamesN _ _).mono ?_; rintro e w' ⟨rfl, rfl⟩)
    | (go_at_call 74; refine (pNamesT _ _).mono ?_; rintro e w' ⟨rfl, rfl⟩))
  all_goals go_ret
  all_goals refine ⟨ret_int ?_, (by repeat' (first | assumption | exact Kept.refl _ _ | refine Kept.drewN ?_ _ | refine Kept.drew ?_ | refine Kept.alloc ?_ _ | refine Kept.setB ?_ _ _))⟩
  all_goals (unfold shapeE; simp_all)

end Go.Proofs.YtidodjbmlbjchaaGreat
