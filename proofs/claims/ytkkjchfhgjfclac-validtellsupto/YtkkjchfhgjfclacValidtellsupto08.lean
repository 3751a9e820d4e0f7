import Derived.Test.YtkkjchfhgjfclacChecked
import Derived.Test.YtkkjchfhgjfclacValidtellsupto07
import Derived.Test.YtkkjchfhgjfclacValidtellsupto01
import Derived.Laws.StructEq
import Derived.Deep.Strs
import Derived.Carry
import Derived.Test.YtkkjchfhgjfclacValidtellsupto06
import Derived.Lib.Bytealg
/- Slices of tokens in memory; halyardref.SameTokens. -/
namespace Go.Proofs.Ytkkjchfhgjfclac
open Go.RowKit

/-- v is a slice of the tokens l, in w -/
def TokSl (w : World) (v : Value) (l : List Tok) : Prop :=
  ∃ ao cap, v = .slice ao l.length cap ∧ l.length ≤ 9000000000000 ∧ ∀ i t, l[i]? = some t → ∃ b off, ao = some ⟨b, off, none⟩ ∧
    w.cell? ⟨b, off + i * 3, none⟩ = some (.int .i64 t.k) ∧ w.cell? ⟨b, off + i * 3 + 1, none⟩ = some (.string ⟨t.s.toArray⟩) ∧ w.cell? ⟨b, off + i * 3 + 2, none⟩ = some (.int .i64 t.n)

def tokEq (a b : Tok) : Bool := decide (a.k = b.k) && decide (a.s = b.s) && decide (a.n = b.n)

theorem neq_tok (x y : Tok) (w : World) :
    (binOp .neq 142 (.agg #[.int .i64 x.k, .string ⟨x.s.toArray⟩, .int .i64 x.n]) (.agg #[.int .i64 y.k, .string ⟨y.s.toArray⟩, .int .i64 y.n])).run Try.prog w = .ok (.bool (!tokEq x y)) w := by
  rw [run_neq_struct, run_equalIn_agg _ _ _ _ _ (by kernel_rfl) (by kernel_rfl)]
  rw [show (Try.prog.fieldsOf 142).toList = [{ name := "Kind", type := 3, offset := 0, embedded := false, tag := "", pkgPath := "", byteOffset := 0 }, { name := "Text", type := 9, offset := 1, embedded := false, tag := "", pkgPath := "", byteOffset := 8 }, { name := "N", type := 3, offset := 2, embedded := false, tag := "", pkgPath := "", byteOffset := 24 }] from by kernel_rfl]
  simp [Op.eqFields, go_sem]
  unfold tokEq
  by_cases h1 : x.k = y.k <;> by_cases h2 : x.s = y.s <;> by_cases h3 : x.n = y.n <;> simp [h1, h2, h3]


theorem tokEq_iff (a b : Tok) : tokEq a b = true ↔ a = b := by
  unfold tokEq
  cases a; cases b
  simp [and_assoc]

def sameT : List Tok → List Tok → Bool
  | [], [] => true
  | x :: r, y :: r' => tokEq x y && sameT r r'
  | _, _ => false
theorem sameT_iff (a : List Tok) : ∀ b, sameT a b = true ↔ a = b := by
  induction a with
  | nil => intro b; cases b <;> simp [sameT]
  | cons x r ih => intro b; cases b with
    | nil => simp [sameT]
    | cons y r' => simp [sameT, ih, tokEq_iff]
theorem sameT_false {a b : List Tok} (h : a ≠ b) : sameT a b = false := by
  cases hx : sameT a b with
  | false => rfl
  | true => exact absurd ((sameT_iff a b).1 hx) h

theorem TokSl.at {w : World} {ao : Option Addr} {n cap : Nat} {l : List Tok} (h : TokSl w (.slice ao n cap) l) (i : Nat) (hi : i < l.length) : ∃ b off, ao = some ⟨b, off, none⟩ ∧
    w.cell? ⟨b, off + i * 3, none⟩ = some (.int .i64 l[i].k) ∧ w.cell? ⟨b, off + i * 3 + 1, none⟩ = some (.string ⟨l[i].s.toArray⟩) ∧ w.cell? ⟨b, off + i * 3 + 2, none⟩ = some (.int .i64 l[i].n) := by
  obtain ⟨ao', cap', hv, _, h3⟩ := h
  cases hv
  exact h3 i l[i] (List.getElem?_eq_getElem hi)

theorem TokSl.keep {w w' : World} {v : Value} {l : List Tok} (h : TokSl w v l) {X : Nat → Prop} (hk : Kept X w w') (hX : ∀ k, X k → w.heap.size ≤ k) : TokSl w' v l := by
  obtain ⟨ao, cap, hv, hl, hc⟩ := h
  refine ⟨ao, cap, hv, hl, fun i t ht => ?_⟩
  obtain ⟨b, off, ha, h0, h1, h2⟩ := hc i t ht
  have hb : b < w.heap.size := World.block_lt_of_cell? w _ h0
  have hx : ¬ X b := fun x => by have := hX b x; omega
  exact ⟨b, off, ha, hk.cell h0 hx, hk.cell h1 hx, hk.cell h2 hx⟩

theorem TokSl.same {w w' : World} {v : Value} {l : List Tok} (h : TokSl w v l) (hk : Same w w') : TokSl w' v l := h.keep hk (fun _ f => f.elim)

theorem TokSl.nil (w : World) : TokSl w (.slice none 0 0) [] := ⟨none, 0, rfl, by simp, fun i t h => by simp at h⟩

end Go.Proofs.Ytkkjchfhgjfclac

/- Arguments that are slices of tokens: what the row's reading says of them. -/
namespace Go.Proofs.Ytkkjchfhgjfclac
open Go.ChangeShapes Go.WideShapes Go.RowKit

theorem add_none (b off j : Nat) : ((⟨b, off, none⟩ : Addr).add j) = ⟨b, off + j, none⟩ := by
  unfold Addr.add
  split
  · rename_i h; rw [h]; rfl
  · rfl

set_option maxRecDepth 20000 in
/-- an argument's slice of tokens -/
theorem toks_of {H : Type} {enc : TypeId × Value → H} {W : World} {r : Reach} {b0 : Nat} {v : Value} {d : DataW H} {ps : List MemPlace} {sp : Nat → Bool} {held : Bool}
    (hval : Value.okWide Try.prog W r b0 144 v) (h : DataW.Trod enc Try.prog W 0 sp held 144 v d ps)
    (hsz : ∀ elems spare, d = .slice elems spare → (elems.length + spare.length) * Try.prog.bytesOf 142 ≤ reachBytes) : ∃ l, TokSl W v l := by
  obtain ⟨ao, len, cap, rfl⟩ := okWide_slice Try.underlying144 hval
  obtain ⟨fuel, hf⟩ := h
  have hcells : Try.prog.cellsOf 142 = 3 := by kernel_rfl
  have hbytes : Try.prog.bytesOf 142 = 32 := by kernel_rfl
  have hint : Try.prog.cellsOf 3 = 1 := by kernel_rfl
  have hstr : Try.prog.cellsOf 9 = 1 := by kernel_rfl
  rcases Deep.open_slice Try.underlying144 hf with ⟨hc, _⟩ | ⟨a, len', cap', m, n, D, Pl, hc, hb, hl, hm, hmm, hx, hall⟩
  · simp only [Value.cells, List.cons.injEq, Value.slice.injEq, and_true] at hc
    obtain ⟨rfl, rfl, rfl⟩ := hc
    exact ⟨[], TokSl.nil W⟩
  · simp only [Value.cells, List.cons.injEq, Value.slice.injEq, and_true] at hc
    obtain ⟨rfl, rfl, rfl⟩ := hc
    have hlm : len ≤ m := by rw [hmm]; split <;> omega
    rw [hcells] at hall
    have each : ∀ i, i < len → ∃ t : Tok, W.cell? (a.add (i * 3)) = some (.int .i64 t.k) ∧ W.cell? (a.add (i * 3 + 1)) = some (.string ⟨t.s.toArray⟩) ∧ W.cell? (a.add (i * 3 + 2)) = some (.int .i64 t.n) := by
      intro i hi
      obtain ⟨cs', h1, h2⟩ := hall i (by omega)
      obtain ⟨_, hlen, hcell⟩ := World.cells?_some h1
      obtain ⟨y0, y1, y2, k, _, _, g0, g1, g2⟩ := Deep.trod_struct3 Try.underlying142 h2
      match cs', hlen with
      | [v0, v1, v2], _ =>
        simp only [hint, hstr, List.drop_zero, List.drop_succ_cons, List.take_succ_cons, List.take_zero] at g0 g1 g2
        obtain ⟨z0, e0, _, _⟩ := DataW.trod_int Try.underlying3 g0
        obtain ⟨z1, e1, _, _⟩ := DataW.trod_string Try.underlying9 g1
        obtain ⟨z2, e2, _, _⟩ := DataW.trod_int Try.underlying3 g2
        simp only [List.cons.injEq, and_true] at e0 e1 e2
        subst e0 e1 e2
        have c0 := hcell 0 (by omega)
        have c1 := hcell 1 (by omega)
        have c2 := hcell 2 (by omega)
        rw [Deep.add_add] at c0 c1 c2
        exact ⟨⟨z0, z1.data.toList, z2⟩, by simpa using c0, by simpa using c1, by simpa using c2⟩
    have : Inhabited Tok := ⟨⟨0, [], 0⟩⟩
    obtain ⟨T, hT⟩ := Deep.choose_lt each
    have hlen : ((List.range len).map T).length = len := by simp
    have hle : len ≤ 9000000000000 := by
      have e := hsz _ _ (Prod.mk.inj hx).1
      rw [hbytes] at e
      simp only [List.length_map, List.length_range] at e
      have : reachBytes < 2 ^ 47 := by decide
      omega
    refine ⟨(List.range len).map T, some a, cap, by rw [hlen], by rw [hlen]; exact hle, ?_⟩
    intro i t ht
    obtain ⟨hi, ht⟩ := List.getElem?_eq_some_iff.1 ht
    rw [hlen] at hi
    simp only [List.getElem_map, List.getElem_range] at ht
    subst ht
    obtain ⟨c0, c1, c2⟩ := hT i hi
    obtain ⟨b, off, spot⟩ := a
    have hspot : spot = none := by
      have := World.cell?_spot (hT 0 (by omega)).1
      simpa [Addr.add] using this
    subst hspot
    rw [add_none] at c0 c1 c2
    exact ⟨b, off, rfl, c0, by rw [Nat.add_assoc]; exact c1, by rw [Nat.add_assoc]; exact c2⟩

end Go.Proofs.Ytkkjchfhgjfclac

/- Slices of fields and of types in memory, and as a row's arguments. -/
namespace Go.Proofs.Ytkkjchfhgjfclac
open Go.ChangeShapes Go.WideShapes Go.RowKit

/-- v is a slice of the fields l, in w, in a block of which P holds -/
def FldSl (P : Nat → Prop) (w : World) (v : Value) (l : List FieldT) : Prop :=
  ∃ ao cap, v = .slice ao l.length cap ∧ (l.length ≤ maxLen ∧ l.length ≤ cap) ∧ ∀ i f, l[i]? = some f → ∃ b off, ao = some ⟨b, off, none⟩ ∧ P b ∧
    w.cell? ⟨b, off + i * 3, none⟩ = some (.string ⟨f.name.toArray⟩) ∧ w.cell? ⟨b, off + i * 3 + 1, none⟩ = some (.int .i64 f.kind) ∧ w.cell? ⟨b, off + i * 3 + 2, none⟩ = some (.string ⟨f.of.toArray⟩)

/-- v is a slice of the types l, in w; their fields in blocks of which P holds -/
def TypSl (P : Nat → Prop) (w : World) (v : Value) (l : List TypeT) : Prop :=
  ∃ ao cap, v = .slice ao l.length cap ∧ (l.length ≤ maxLen ∧ l.length ≤ cap) ∧ ∀ i t, l[i]? = some t → ∃ b off vf, ao = some ⟨b, off, none⟩ ∧ P b ∧
    w.cell? ⟨b, off + i * 2, none⟩ = some (.string ⟨t.name.toArray⟩) ∧ w.cell? ⟨b, off + i * 2 + 1, none⟩ = some vf ∧ FldSl P w vf t.fields

def anyB : Nat → Prop := fun _ => True

theorem FldSl.keep {P X : Nat → Prop} {w w' : World} {v : Value} {l : List FieldT} (h : FldSl P w v l) (hk : Kept X w w') (hx : ∀ b, P b → ¬ X b) : FldSl P w' v l := by
  obtain ⟨ao, cap, hv, hl, hc⟩ := h
  refine ⟨ao, cap, hv, hl, fun i t ht => ?_⟩
  obtain ⟨b, off, ha, hp, h0, h1, h2⟩ := hc i t ht
  exact ⟨b, off, ha, hp, hk.cell h0 (hx b hp), hk.cell h1 (hx b hp), hk.cell h2 (hx b hp)⟩

theorem FldSl.mono {P Q : Nat → Prop} {w : World} {v : Value} {l : List FieldT} (h : FldSl P w v l) (hq : ∀ b, b < w.heap.size → P b → Q b) : FldSl Q w v l := by
  obtain ⟨ao, cap, hv, hl, hc⟩ := h
  refine ⟨ao, cap, hv, hl, fun i t ht => ?_⟩
  obtain ⟨b, off, ha, hp, h0, h1, h2⟩ := hc i t ht
  exact ⟨b, off, ha, hq b (World.block_lt_of_cell? w _ h0) hp, h0, h1, h2⟩

theorem FldSl.same {P : Nat → Prop} {w w' : World} {v : Value} {l : List FieldT} (h : FldSl P w v l) (hk : Same w w') : FldSl P w' v l := h.keep hk (fun _ _ f => f)

theorem FldSl.any {P : Nat → Prop} {w : World} {v : Value} {l : List FieldT} (h : FldSl P w v l) : FldSl anyB w v l := h.mono (fun _ _ _ => trivial)

theorem TypSl.keep {P X : Nat → Prop} {w w' : World} {v : Value} {l : List TypeT} (h : TypSl P w v l) (hk : Kept X w w') (hx : ∀ b, P b → ¬ X b) : TypSl P w' v l := by
  obtain ⟨ao, cap, hv, hl, hc⟩ := h
  refine ⟨ao, cap, hv, hl, fun i t ht => ?_⟩
  obtain ⟨b, off, vf, ha, hp, h0, h1, h2⟩ := hc i t ht
  exact ⟨b, off, vf, ha, hp, hk.cell h0 (hx b hp), hk.cell h1 (hx b hp), h2.keep hk hx⟩

theorem TypSl.same {P : Nat → Prop} {w w' : World} {v : Value} {l : List TypeT} (h : TypSl P w v l) (hk : Same w w') : TypSl P w' v l := h.keep hk (fun _ _ f => f)

theorem TypSl.mono {P Q : Nat → Prop} {w : World} {v : Value} {l : List TypeT} (h : TypSl P w v l) (hq : ∀ b, b < w.heap.size → P b → Q b) : TypSl Q w v l := by
  obtain ⟨ao, cap, hv, hl, hc⟩ := h
  refine ⟨ao, cap, hv, hl, fun i t ht => ?_⟩
  obtain ⟨b, off, vf, ha, hp, h0, h1, h2⟩ := hc i t ht
  exact ⟨b, off, vf, ha, hq b (World.block_lt_of_cell? w _ h0) hp, h0, h1, h2.mono hq⟩

theorem TypSl.any {P : Nat → Prop} {w : World} {v : Value} {l : List TypeT} (h : TypSl P w v l) : TypSl anyB w v l := h.mono (fun _ _ _ => trivial)

theorem FldSl.at {P : Nat → Prop} {w : World} {ao : Option Addr} {n cap : Nat} {l : List FieldT} (h : FldSl P w (.slice ao n cap) l) (i : Nat) (hi : i < l.length) : ∃ b off, ao = some ⟨b, off, none⟩ ∧
    w.cell? ⟨b, off + i * 3, none⟩ = some (.string ⟨l[i].name.toArray⟩) ∧ w.cell? ⟨b, off + i * 3 + 1, none⟩ = some (.int .i64 l[i].kind) ∧ w.cell? ⟨b, off + i * 3 + 2, none⟩ = some (.string ⟨l[i].of.toArray⟩) := by
  obtain ⟨ao', cap', hv, _, h3⟩ := h
  cases hv
  obtain ⟨b, off, ha, _, h⟩ := h3 i l[i] (List.getElem?_eq_getElem hi)
  exact ⟨b, off, ha, h⟩

theorem TypSl.at {P : Nat → Prop} {w : World} {ao : Option Addr} {n cap : Nat} {l : List TypeT} (h : TypSl P w (.slice ao n cap) l) (i : Nat) (hi : i < l.length) : ∃ b off af nf cf, ao = some ⟨b, off, none⟩ ∧
    w.cell? ⟨b, off + i * 2, none⟩ = some (.string ⟨l[i].name.toArray⟩) ∧ w.cell? ⟨b, off + i * 2 + 1, none⟩ = some (.slice af nf cf) ∧ nf = l[i].fields.length ∧ FldSl P w (.slice af nf cf) l[i].fields := by
  obtain ⟨ao', cap', hv, _, h3⟩ := h
  cases hv
  obtain ⟨b, off, vf, ha, _, h0, h1, h2⟩ := h3 i l[i] (List.getElem?_eq_getElem hi)
  obtain ⟨af, cf, rfl, _, _⟩ := id h2
  exact ⟨b, off, af, _, cf, ha, h0, h1, rfl, h2⟩

theorem FldSl.take {P : Nat → Prop} {w : World} {ao : Option Addr} {n cap : Nat} {l : List FieldT} (h : FldSl P w (.slice ao n cap) l) (j : Nat) (hj : j ≤ l.length) : FldSl P w (.slice ao j cap) (l.take j) := by
  obtain ⟨ao', cap', hv, hm, h3⟩ := h
  cases hv
  refine ⟨ao, cap, by rw [List.length_take, Nat.min_eq_left hj], by rw [List.length_take]; exact ⟨by omega, by omega⟩, fun i a ha => ?_⟩
  rw [List.getElem?_take] at ha
  split at ha
  · exact h3 i a ha
  · cases ha

theorem TypSl.take {P : Nat → Prop} {w : World} {ao : Option Addr} {n cap : Nat} {l : List TypeT} (h : TypSl P w (.slice ao n cap) l) (j : Nat) (hj : j ≤ l.length) : TypSl P w (.slice ao j cap) (l.take j) := by
  obtain ⟨ao', cap', hv, hm, h3⟩ := h
  cases hv
  refine ⟨ao, cap, by rw [List.length_take, Nat.min_eq_left hj], by rw [List.length_take]; exact ⟨by omega, by omega⟩, fun i a ha => ?_⟩
  rw [List.getElem?_take] at ha
  split at ha
  · exact h3 i a ha
  · cases ha

theorem FldSl.nil (P : Nat → Prop) (w : World) : FldSl P w (.slice none 0 0) [] := ⟨none, 0, rfl, ⟨Nat.zero_le _, Nat.le_refl _⟩, fun i t h => by simp at h⟩
theorem TypSl.nil (P : Nat → Prop) (w : World) : TypSl P w (.slice none 0 0) [] := ⟨none, 0, rfl, ⟨Nat.zero_le _, Nat.le_refl _⟩, fun i t h => by simp at h⟩

set_option maxRecDepth 20000 in
/-- an argument's slice of fields, as cells -/
theorem flds_of {H : Type} {enc : TypeId × Value → H} {W : World} {fuel : Nat} {cs : List Value} {x : DataW H × List MemPlace} {sp : Nat → Bool} {held : Bool}
    (hf : DataW.trod enc Try.prog W 0 sp held fuel 70 cs = some x) : ∃ v l, cs = [v] ∧ FldSl anyB W v l := by
  have hcells : Try.prog.cellsOf 74 = 3 := by kernel_rfl
  have hint : Try.prog.cellsOf 3 = 1 := by kernel_rfl
  have hstr : Try.prog.cellsOf 9 = 1 := by kernel_rfl
  rcases Deep.open_slice Try.underlying70 hf with ⟨rfl, _⟩ | ⟨a, len, cap, m, n, D, Pl, rfl, hb, hl, hm, hmm, hx, hall⟩
  · exact ⟨_, [], rfl, FldSl.nil _ W⟩
  · have hlm : len ≤ m := by rw [hmm]; split <;> omega
    rw [hcells] at hall
    have each : ∀ i, i < len → ∃ t : FieldT, W.cell? (a.add (i * 3)) = some (.string ⟨t.name.toArray⟩) ∧ W.cell? (a.add (i * 3 + 1)) = some (.int .i64 t.kind) ∧ W.cell? (a.add (i * 3 + 2)) = some (.string ⟨t.of.toArray⟩) := by
      intro i hi
      obtain ⟨cs', h1, h2⟩ := hall i (by omega)
      obtain ⟨_, hlen, hcell⟩ := World.cells?_some h1
      obtain ⟨xs, q, _, _, _, hxl, hfd⟩ := DataW.trod_struct Try.underlying74 h2
      match xs, hxl, cs', hlen with
      | [y0, y1, y2], _, [v0, v1, v2], _ =>
        have g0 := hfd 0 _ rfl
        have g1 := hfd 1 _ rfl
        have g2 := hfd 2 _ rfl
        simp [hint, hstr] at g0 g1 g2
        obtain ⟨z0, e0, _, _⟩ := DataW.trod_string Try.underlying9 g0
        obtain ⟨z1, e1, _, _⟩ := DataW.trod_int Try.underlying3 g1
        obtain ⟨z2, e2, _, _⟩ := DataW.trod_string Try.underlying9 g2
        simp only [List.cons.injEq, and_true] at e0 e1 e2
        subst e0 e1 e2
        have c0 := hcell 0 (by omega)
        have c1 := hcell 1 (by omega)
        have c2 := hcell 2 (by omega)
        rw [Deep.add_add] at c0 c1 c2
        exact ⟨⟨z0.data.toList, z1, z2.data.toList⟩, by simpa using c0, by simpa using c1, by simpa using c2⟩
    have : Inhabited FieldT := ⟨⟨[], 0, []⟩⟩
    obtain ⟨T, hT⟩ := Deep.choose_lt each
    have hlen : ((List.range len).map T).length = len := by simp
    refine ⟨_, (List.range len).map T, rfl, some a, cap, by rw [hlen], by rw [hlen]; exact ⟨by omega, hl⟩, ?_⟩
    intro i t ht
    obtain ⟨hi, ht⟩ := List.getElem?_eq_some_iff.1 ht
    rw [hlen] at hi
    simp only [List.getElem_map, List.getElem_range] at ht
    subst ht
    obtain ⟨c0, c1, c2⟩ := hT i hi
    obtain ⟨b, off, spot⟩ := a
    have hspot : spot = none := by
      have := World.cell?_spot (hT 0 (by omega)).1
      simpa [Addr.add] using this
    subst hspot
    rw [add_none] at c0 c1 c2
    exact ⟨b, off, rfl, trivial, c0, by rw [Nat.add_assoc]; exact c1, by rw [Nat.add_assoc]; exact c2⟩

set_option maxRecDepth 20000 in
theorem typs_trod {H : Type} {enc : TypeId × Value → H} {W : World} {fuel : Nat} {cs : List Value} {x : DataW H × List MemPlace} {sp : Nat → Bool} {held : Bool}
    (hf : DataW.trod enc Try.prog W 0 sp held fuel 22 cs = some x) : ∃ v l, cs = [v] ∧ TypSl anyB W v l := by
  have hcells : Try.prog.cellsOf 79 = 2 := by kernel_rfl
  have hfl : Try.prog.cellsOf 70 = 1 := by kernel_rfl
  have hstr : Try.prog.cellsOf 9 = 1 := by kernel_rfl
  rcases Deep.open_slice Try.underlying22 hf with ⟨rfl, _⟩ | ⟨a, len, cap, m, n, D, Pl, rfl, hb, hl, hm, hmm, hx, hall⟩
  · exact ⟨_, [], rfl, TypSl.nil _ W⟩
  · have hlm : len ≤ m := by rw [hmm]; split <;> omega
    rw [hcells] at hall
    have each : ∀ i, i < len → ∃ t : TypeT, W.cell? (a.add (i * 2)) = some (.string ⟨t.name.toArray⟩) ∧ ∃ vf, W.cell? (a.add (i * 2 + 1)) = some vf ∧ FldSl anyB W vf t.fields := by
      intro i hi
      obtain ⟨cs', h1, h2⟩ := hall i (by omega)
      obtain ⟨_, hlen, hcell⟩ := World.cells?_some h1
      obtain ⟨xs, q, _, _, _, hxl, hfd⟩ := DataW.trod_struct Try.underlying79 h2
      match xs, hxl, cs', hlen with
      | [y0, y1], _, [v0, v1], _ =>
        have g0 := hfd 0 _ rfl
        have g1 := hfd 1 _ rfl
        simp [hfl, hstr] at g0 g1
        obtain ⟨z0, e0, _, _⟩ := DataW.trod_string Try.underlying9 g0
        obtain ⟨u1, l1, e1, s1⟩ := flds_of g1
        simp only [List.cons.injEq, and_true] at e0 e1
        subst e0 e1
        have c0 := hcell 0 (by omega)
        have c1 := hcell 1 (by omega)
        rw [Deep.add_add] at c0 c1
        exact ⟨⟨z0.data.toList, l1⟩, by simpa using c0, v1, by simpa using c1, s1⟩
    have : Inhabited TypeT := ⟨⟨[], []⟩⟩
    obtain ⟨T, hT⟩ := Deep.choose_lt each
    have hlen : ((List.range len).map T).length = len := by simp
    refine ⟨_, (List.range len).map T, rfl, some a, cap, by rw [hlen], by rw [hlen]; exact ⟨by omega, hl⟩, ?_⟩
    intro i t ht
    obtain ⟨hi, ht⟩ := List.getElem?_eq_some_iff.1 ht
    rw [hlen] at hi
    simp only [List.getElem_map, List.getElem_range] at ht
    subst ht
    obtain ⟨c0, vf, c1, hs⟩ := hT i hi
    obtain ⟨b, off, spot⟩ := a
    have hspot : spot = none := by
      have := World.cell?_spot (hT 0 (by omega)).1
      simpa [Addr.add] using this
    subst hspot
    rw [add_none] at c0 c1
    exact ⟨b, off, vf, rfl, trivial, c0, by rw [Nat.add_assoc]; exact c1, hs⟩

set_option maxRecDepth 20000 in
/-- an argument's slice of types -/
theorem typs_of {H : Type} {enc : TypeId × Value → H} {W : World} {r : Reach} {b0 : Nat} {v : Value} {d : DataW H} {ps : List MemPlace} {sp : Nat → Bool} {held : Bool}
    (hval : Value.okWide Try.prog W r b0 22 v) (h : DataW.Trod enc Try.prog W 0 sp held 22 v d ps) : ∃ l, TypSl anyB W v l := by
  obtain ⟨ao, len, cap, rfl⟩ := okWide_slice Try.underlying22 hval
  obtain ⟨fuel, hf⟩ := h
  obtain ⟨v, f, e, hs⟩ := typs_trod hf
  simp only [Value.cells, List.cons.injEq, and_true] at e
  subst e
  exact ⟨f, hs⟩

end Go.Proofs.Ytkkjchfhgjfclac

/- parse.IsDigit. -/
namespace Go.Proofs.Ytkkjchfhgjfclac
open Go.RowKit

theorem isDigit_any (c : UInt8) (w : World) :
    Calls Try.prog 140 #[.int .u8 c.toNat] w fun e w' => e = .returned (.bool (dig c)) ∧ w' = w := by
  go_enter Try.func140, Try.ntmps140
  go_wp2
  all_goals go_ret
  all_goals refine ⟨ret_bool ?_, rfl⟩
  all_goals (rw [Bool.eq_iff_iff]; simp; try omega)

end Go.Proofs.Ytkkjchfhgjfclac

/- Walks of lex's functions on bytes: those that Check meets. -/
namespace Go.Proofs.Ytkkjchfhgjfclac
open Go.RowKit

theorem begins_any (c : UInt8) (w : World) :
    Calls Try.prog 138 #[.int .u8 c.toNat] w fun e w' => e = .returned (.bool (beg c)) ∧ w' = w := by
  go_enter Try.func138, Try.ntmps138
  go_wp2
  all_goals go_ret
  all_goals refine ⟨ret_bool ?_, rfl⟩
  all_goals (rw [Bool.eq_iff_iff]; simp; try omega)

def begX (c : UInt8) : Bool := beg c
def digX (c : UInt8) : Bool := dig c

theorem goesOn_any (c : UInt8) (w : World) :
    Calls Try.prog 137 #[.int .u8 c.toNat] w fun e w' => e = .returned (.bool (onn c)) ∧ w' = w := by
  have hb : ∀ w, Calls Try.prog 138 #[.int .u8 c.toNat] w fun e w' => e = .returned (.bool (begX c)) ∧ w' = w := fun w => begins_any c w
  have hd : ∀ w, Calls Try.prog 140 #[.int .u8 c.toNat] w fun e w' => e = .returned (.bool (digX c)) ∧ w' = w := fun w => isDigit_any c w
  have Hb := hide (hb)
  have Hd := hide (hd)
  clear hb hd
  have key : ∀ b d : Bool, begX c = b → digX c = d → onn c = (b || d) := by intro b d h1 h2; rw [← h1, ← h2]; rfl
  have Key := hide (key)
  clear key
  cases h1 : begX c <;> cases h2 : digX c
  all_goals
    have hk := Key.out _ _ h1 h2
    have HK := hide (hk)
    clear hk
    go_enter Try.func137, Try.ntmps137
    go_wp2_with (first
      | (go_at_call 138; refine (Hb.out _).mono ?_; rintro e w' ⟨rfl, rfl⟩)
      | (go_at_call 140; refine (Hd.out _).mono ?_; rintro e w' ⟨rfl, rfl⟩))
    all_goals go_ret
    all_goals exact ⟨ret_bool (by rw [HK.out]; rfl), rfl⟩

theorem indexByte_sgn (c : UInt8) : decide (0 ≤ Lib.indexByte [123, 125, 40, 41, 58, 91, 93] c) = sgn c := by
  have h : ∀ n : Fin 256, decide (0 ≤ Lib.indexByte [123, 125, 40, 41, 58, 91, 93] (UInt8.ofNat n)) = sgn (UInt8.ofNat n) := by decide +kernel
  have h1 := h ⟨c.toNat, c.toNat_lt⟩
  simpa using h1

set_option maxRecDepth 100000 in
theorem indexByte_any (s : ByteArray) (c : UInt8) (w : World) :
    Calls Try.prog 141 #[.string s, .int .u8 c.toNat] w fun e w' => e = .returned (.int .i64 (Lib.indexByte s.data.toList c)) ∧ w' = w := by
  go_enter Try.func141, Try.ntmps141
  go_wp2
  rw [run_callFunc_extern Try.func142 (by kernel_rfl) (by kernel_rfl) (by kernel_rfl) (e := Extern.BytealgIndexByte.indexByte) (by kernel_rfl), Lib.run_indexByteString]
  simp only [Result.andThen]
  rw [Oper.upon_value]
  go_wp2
  go_ret
  exact ⟨ret_int (by congr 1), rfl⟩

theorem isSign_any (c : UInt8) (w : World) :
    Calls Try.prog 135 #[.int .u8 c.toNat] w fun e w' => e = .returned (.bool (sgn c)) ∧ w' = w := by
  go_enter Try.func135, Try.ntmps135
  go_wp2_with (first
    | (go_at_call 139; go_in)
    | (go_at_call 141; refine (indexByte_any _ c _).mono ?_; rintro e w' ⟨rfl, rfl⟩))
  all_goals go_ret
  all_goals refine ⟨ret_bool ?_, rfl⟩
  all_goals (rw [← indexByte_sgn c]; try rfl)

theorem size_toList (s : ByteArray) : s.data.toList.length = s.size := by rw [Array.length_toList]; rfl
theorem take_at {s : ByteArray} {k : Nat} (h : k < s.size) : s.data.toList.take (k + 1) = s.data.toList.take k ++ [s[k]] := by
  rw [List.take_succ_eq_append_getElem (by rw [size_toList]; exact h)]; rfl


end Go.Proofs.Ytkkjchfhgjfclac
