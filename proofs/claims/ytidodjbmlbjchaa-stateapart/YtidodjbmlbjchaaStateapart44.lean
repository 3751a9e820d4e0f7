import Derived.Test.YtidodjbmlbjchaaStateapart18
import Derived.Test.YtidodjbmlbjchaaStateapart08
import Derived.Test.YtidodjbmlbjchaaStateapart10
/- Regions that draw their order: by what holds behind whatever operations were carried out, in whatever order. Over any program. -/
namespace Go.Proofs.Ytidodjbmlbjchaa
open Go

section
variable {P : Program} {ops : Array Oper} {Q : Exit → Act → World → Prop} {md : Region.Mode}

theorem count_set_true {l : List Bool} {i : Nat} (h : i < l.length) (hi : l[i] = false) : (l.set i true).count false + 1 = l.count false := by
  induction l generalizing i with
  | nil => simp at h
  | cons b r ih =>
    cases i with
    | zero =>
      simp at hi
      subst hi
      simp
    | succ i =>
      have := ih (i := i) (by simpa using h) (by simpa using hi)
      rw [List.set_cons_succ, List.count_cons, List.count_cons]
      omega

theorem wpAny_inv (I : Array Bool → Act → World → Prop)
    (hstep : ∀ listed a w i, listed.size = ops.size → I listed a w → i ∈ Region.ready md ops listed → wpOp P ops Q i (fun a' w' => I (listed.setIfInBounds i true) a' w') a w)
    (hend : ∀ listed a w, listed.size = ops.size → Region.ready md ops listed = [] → I listed a w → Q .normal a w) :
    ∀ (fuel : Nat) (listed : Array Bool) (a : Act) (w : World), listed.size = ops.size → listed.toList.count false ≤ fuel → I listed a w → wpAny P md ops Q fuel listed a w := by
  intro fuel
  induction fuel with
  | zero =>
    intro listed a w hs hc hI
    have hr : Region.ready md ops listed = [] := by
      rw [List.eq_nil_iff_forall_not_mem]
      intro i hi
      have h0 := (mem_ready.1 hi).1
      have hz : listed.toList.count false = 0 := by omega
      rw [List.count_eq_zero] at hz
      apply hz
      rw [Array.getD_eq_getD_getElem?] at h0
      cases hx : listed[i]? with
      | none => rw [hx] at h0; cases h0
      | some b =>
        rw [hx] at h0
        simp at h0
        subst h0
        have := Array.mem_of_getElem? hx
        exact Array.mem_def.1 this
    exact ⟨hr, hend _ _ _ hs hr hI⟩
  | succ fuel ih =>
    intro listed a w hs hc hI
    refine ⟨fun hr => hend _ _ _ hs hr hI, fun i hi => ?_⟩
    refine wpOp_mono (fun a' w' h => ih _ a' w' (by rw [Array.size_setIfInBounds]; exact hs) ?_ h) (hstep _ _ _ i hs hI hi)
    have h0 := (mem_ready.1 hi).1
    rw [Array.getD_eq_getD_getElem?] at h0
    cases hx : listed[i]? with
    | none => rw [hx] at h0; cases h0
    | some b =>
      rw [hx] at h0
      simp at h0
      subst h0
      obtain ⟨hl, hv⟩ := Array.getElem?_eq_some_iff.1 hx
      have := count_set_true (l := listed.toList) (i := i) (by simpa using hl) (by simpa using hv)
      rw [Array.toList_setIfInBounds]
      omega

theorem wp_inv {id : Nat} {a : Act} {w : World} (I : Array Bool → Act → World → Prop) (hm : P.follows .mixedOrders = true)
    (h0 : I (Array.replicate ops.size false) a w.drew)
    (hstep : ∀ listed a w i, listed.size = ops.size → I listed a w → i ∈ Region.ready .any ops listed → wpOp P ops Q i (fun a' w' => I (listed.setIfInBounds i true) a' w') a w)
    (hend : ∀ listed a w, listed.size = ops.size → Region.ready .any ops listed = [] → I listed a w → Q .normal a w) :
    (Code.region id ops true).wp P Q a w :=
  wp_region_any hm (wpAny_inv I hstep hend _ _ _ _ (by simp) (Nat.le_trans List.count_le_length (by simp)) h0)

theorem ready_waits {i j : Nat} {listed : Array Bool} (h : i ∈ Region.ready md ops listed) (hw : waits md ops i j = true) : listed.getD j false = true := by
  obtain ⟨_, o, ho, hall⟩ := mem_ready.1 h
  unfold waits at hw
  rw [ho] at hw
  simp only [Option.map_some, Option.getD_some] at hw
  obtain ⟨e, he, hb⟩ := Array.any_eq_true'.1 hw
  simp only [Bool.and_eq_true, beq_iff_eq] at hb
  have := hall e he hb.1
  rwa [hb.2] at this
theorem ready_lt {i : Nat} {listed : Array Bool} (h : i ∈ Region.ready md ops listed) : i < ops.size := by
  obtain ⟨_, o, ho, _⟩ := mem_ready.1 h
  exact (Array.getElem?_eq_some_iff.1 ho).1
/-- where all are carried out, each is -/
theorem getD_set {l : Array Bool} {i j : Nat} (h : (l.setIfInBounds i true).getD j false = true) : j = i ∨ l.getD j false = true := by
  by_cases e : i = j
  · exact .inl e.symm
  · rw [getD_set_ne false e] at h; exact .inr h
theorem all_listed {listed : Array Bool} (hb : (List.range ops.size).all (fun j => ((ops[j]?).map fun o => o.after.all fun e => decide (e.on < j)).getD true) = true) (hs : listed.size = ops.size) (hr : Region.ready md ops listed = []) : ∀ n j, j < n → j < ops.size → listed.getD j false = true := by
  intro n
  induction n with
  | zero => intro j hj; omega
  | succ n ih =>
    intro j hj hjs
    rcases Nat.lt_or_ge j n with h | h
    · exact ih j h hjs
    · by_cases hl : listed.getD j false = true
      · exact hl
      · exfalso
        have hnot : j ∉ Region.ready md ops listed := by rw [hr]; simp
        apply hnot
        obtain ⟨o, ho⟩ : ∃ o, ops[j]? = some o := ⟨_, Array.getElem?_eq_getElem hjs⟩
        refine mem_ready.2 ⟨?_, o, ho, fun e he _ => ?_⟩
        · rw [Array.getD_eq_getD_getElem?] at hl ⊢
          have hx : listed[j]? = some (listed[j]'(by omega)) := Array.getElem?_eq_getElem (by omega)
          rw [hx] at hl ⊢
          simpa using hl
        · have h1 := List.all_eq_true.1 hb j (List.mem_range.2 hjs)
          rw [ho] at h1
          simp only [Option.map_some, Option.getD_some] at h1
          have h2 := (Array.all_eq_true_iff_forall_mem.1 h1) e he
          simp only [decide_eq_true_eq] at h2
          exact ih e.on (by omega) (by omega)
end

theorem arr17 {α : Type} (a : Array α) (h : a.size = 17) : ∃ x0 x1 x2 x3 x4 x5 x6 x7 x8 x9 x10 x11 x12 x13 x14 x15 x16, a = #[x0, x1, x2, x3, x4, x5, x6, x7, x8, x9, x10, x11, x12, x13, x14, x15, x16] := by
  obtain ⟨l⟩ := a
  match l, h with
  | [x0, x1, x2, x3, x4, x5, x6, x7, x8, x9, x10, x11, x12, x13, x14, x15, x16], _ => exact ⟨_, _, _, _, _, _, _, _, _, _, _, _, _, _, _, _, _, rfl⟩

end Go.Proofs.Ytidodjbmlbjchaa

/- Fields as cells, and rows of them. -/
namespace Go.Proofs.Ytidodjbmlbjchaa
open Go.RowKit

def fldC (f : FieldT) : List Value := [.string ⟨f.name.toArray⟩, .int .i64 f.kind, .string ⟨f.of.toArray⟩]
def fldCells (l : List FieldT) : List Value := l.flatMap fldC
theorem fldCells_snoc (l : List FieldT) (f : FieldT) : fldCells (l ++ [f]) = fldCells l ++ fldC f := by simp [fldCells]
theorem fldC_one (f : FieldT) : ∀ u ∈ fldC f, u.oneCell' = true := by intro u hu; simp [fldC] at hu; rcases hu with rfl | rfl | rfl <;> rfl

theorem fldCells_get (l : List FieldT) : ∀ (i : Nat) (f : FieldT), l[i]? = some f → (fldCells l)[3 * i]? = some (.string ⟨f.name.toArray⟩) ∧ (fldCells l)[3 * i + 1]? = some (.int .i64 f.kind) ∧ (fldCells l)[3 * i + 2]? = some (.string ⟨f.of.toArray⟩) := by
  induction l with
  | nil => intro i t h; simp at h
  | cons x r ih =>
    intro i t h
    have e : fldCells (x :: r) = .string ⟨x.name.toArray⟩ :: .int .i64 x.kind :: .string ⟨x.of.toArray⟩ :: fldCells r := by simp [fldCells, fldC]
    cases i with
    | zero => simp at h; subst h; rw [e]; simp
    | succ i =>
      simp at h
      have := ih i t h
      rw [e, show 3 * (i + 1) = 3 * i + 1 + 1 + 1 from by omega, show 3 * i + 1 + 1 + 1 + 1 = (3 * i + 1) + 1 + 1 + 1 from rfl, show 3 * i + 1 + 1 + 1 + 2 = (3 * i + 2) + 1 + 1 + 1 from by omega]
      simpa using this

/-- a row of fields that the call owns is a slice of fields -/
theorem own_flds {w : World} {base : Nat} {v : Value} {l : List FieldT} (h : w.ownsRow base 58 3 v l.length (fldCells l)) (hl : l.length ≤ 9000000000000) : FldSl (fun b => base ≤ b) w v l := by
  have hc := fun g => World.ownsRow.cells h (g := g)
  rcases h.2 with ⟨rfl, h0⟩ | ⟨g, cap, cur, rfl, hg, hb, hc1, hc2, hc3, htk⟩
  · obtain rfl : l = [] := List.length_eq_zero_iff.1 h0
    exact FldSl.nil _ w
  · refine ⟨_, cap, rfl, ⟨by unfold maxLen; omega, hc1⟩, fun i t ht => ⟨g, 0, rfl, hg, ?_⟩⟩
    obtain ⟨h1, h2, h3⟩ := fldCells_get l i t ht
    have k1 := hc g rfl _ _ h1
    have k2 := hc g rfl _ _ h2
    have k3 := hc g rfl _ _ h3
    rw [add_none] at k1 k2 k3
    rw [show 0 + i * 3 = 0 + 3 * i from by omega]
    exact ⟨k1, k2, k3⟩

theorem infoF : (Try.prog.info? 58).map (fun i => (i.zero, i.size, i.bytes)) = some (some (.agg #[.string ⟨#[]⟩, .int .i64 0, .string ⟨#[]⟩]), 3, 40) := by kernel_rfl

end Go.Proofs.Ytidodjbmlbjchaa

/- The laws' own schema. -/
namespace Go.Proofs.Ytidodjbmlbjchaa
open Go.RowKit

def tyA : TypeT := ⟨[65], [⟨[110], 1, []⟩, ⟨[116], 2, []⟩, ⟨[98], 3, [66]⟩, ⟨[108], 4, [65]⟩]⟩
def tyB : TypeT := ⟨[66], [⟨[109], 1, []⟩]⟩
def types2 : List TypeT := [tyA, tyB]

/-- fields in a new block -/
theorem FldSl.new (w : World) (l : List FieldT) (hl : l.length ≤ 1000) (x : Array Value) (hx : x.toList = l.flatMap (fun f => [.string ⟨f.name.toArray⟩, .int .i64 f.kind, .string ⟨f.of.toArray⟩])) (w' : World) (hk : Same (w.alloc (.cells x 58)) w') (c : Nat) (hc : l.length ≤ c) :
    FldSl (fun b => b = w.heap.size) w' (.slice (some ⟨w.heap.size, 0, none⟩) l.length c) l := by
  refine ⟨_, c, rfl, ⟨by unfold maxLen; omega, hc⟩, fun i f hf => ⟨w.heap.size, 0, rfl, rfl, ?_⟩⟩
  have key : ∀ j u, x.toList[j]? = some u → w'.cell? ⟨w.heap.size, j, none⟩ = some u := by
    intro j u hj
    refine hk.cell ?_ (fun f => f)
    rw [World.cell?_alloc_new]
    simpa using hj
  have hg : ∀ (l : List FieldT) (i : Nat) (f : FieldT), l[i]? = some f → (l.flatMap (fun f => [Value.string ⟨f.name.toArray⟩, .int .i64 f.kind, .string ⟨f.of.toArray⟩]))[i * 3]? = some (.string ⟨f.name.toArray⟩) ∧ (l.flatMap (fun f => [Value.string ⟨f.name.toArray⟩, .int .i64 f.kind, .string ⟨f.of.toArray⟩]))[i * 3 + 1]? = some (.int .i64 f.kind) ∧ (l.flatMap (fun f => [Value.string ⟨f.name.toArray⟩, .int .i64 f.kind, .string ⟨f.of.toArray⟩]))[i * 3 + 2]? = some (.string ⟨f.of.toArray⟩) := by
    intro l i f hf
    have := fldCells_get l i f hf
    rw [show i * 3 = 3 * i from by omega]
    exact this
  obtain ⟨h1, h2, h3⟩ := hg l i f hf
  rw [← hx] at h1 h2 h3
  rw [Nat.zero_add]
  exact ⟨key _ _ h1, key _ _ h2, key _ _ h3⟩

theorem types_any (w : World) :
    Calls Try.prog 22 #[] w fun e w' => ∃ b, e = .returned (.slice (some ⟨b, 0, none⟩) 2 2) ∧ TypSl (fun b => w.heap.size ≤ b) w' (.slice (some ⟨b, 0, none⟩) 2 2) types2 ∧ Same w w' := by
  go_enter Try.func22, Try.ntmps22
  go_wp2
  go_ret
  obtain ⟨w1, hw1⟩ : ∃ w1, w1 = w.alloc (.cells #[.string ⟨#[110]⟩, .int .i64 1, .string ⟨#[]⟩, .string ⟨#[116]⟩, .int .i64 2, .string ⟨#[]⟩, .string ⟨#[98]⟩, .int .i64 3, .string ⟨#[66]⟩, .string ⟨#[108]⟩, .int .i64 4, .string ⟨#[65]⟩] 58) := ⟨_, rfl⟩
  obtain ⟨w2, hw2⟩ : ∃ w2, w2 = w1.alloc (.cells #[.string ⟨#[109]⟩, .int .i64 1, .string ⟨#[]⟩] 58) := ⟨_, rfl⟩
  obtain ⟨w3, hw3⟩ : ∃ w3, w3 = w2.alloc (.cells #[.string ⟨#[65]⟩, .slice (some ⟨w.heap.size, 0, none⟩) 4 4, .string ⟨#[66]⟩, .slice (some ⟨w1.heap.size, 0, none⟩) 1 1] 56) := ⟨_, rfl⟩
  have k12 : Same w1 w2 := by rw [hw2]; exact (Kept.refl _ _).alloc _
  have k23 : Same w2 w3 := by rw [hw3]; exact (Kept.refl _ _).alloc _
  have k01 : Same w w1 := by rw [hw1]; exact (Kept.refl _ _).alloc _
  have s1 : w1.heap.size = w.heap.size + 1 := by rw [hw1]; simp
  have s2 : w2.heap.size = w.heap.size + 2 := by rw [hw2, World.size_alloc, s1]
  have k13 : Same w1 w3 := k12.trans k23 (fun _ _ f => f.elim)
  have k13' := k13
  rw [hw1] at k13'
  have k23' := k23
  rw [hw2] at k23'
  have f1 := FldSl.new w tyA.fields (by decide) _ (by rfl) w3 k13' 4 (by decide)
  have f2 := FldSl.new w1 tyB.fields (by decide) _ (by rfl) w3 k23' 1 (by decide)
  have key : ∀ j u, [Value.string ⟨#[65]⟩, .slice (some ⟨w.heap.size, 0, none⟩) 4 4, .string ⟨#[66]⟩, .slice (some ⟨w1.heap.size, 0, none⟩) 1 1][j]? = some u → w3.cell? ⟨w2.heap.size, j, none⟩ = some u := by
    intro j u hj
    rw [hw3, World.cell?_alloc_new]
    simpa using hj
  refine ⟨w.heap.size + 2, ?_, ?_, ?_⟩
  · rfl
  · have : TypSl (fun b => w.heap.size ≤ b) w3 (.slice (some ⟨w2.heap.size, 0, none⟩) 2 2) types2 := by
      refine ⟨_, 2, rfl, ⟨by decide, by decide⟩, fun i t ht => ?_⟩
      match i, ht with
      | 0, ht =>
        simp [types2] at ht
        subst ht
        exact ⟨w2.heap.size, 0, _, rfl, by omega, key 0 _ rfl, key 1 _ rfl, f1.mono (fun b _ hb => by omega)⟩
      | 1, ht =>
        simp [types2] at ht
        subst ht
        exact ⟨w2.heap.size, 0, _, rfl, by omega, key 2 _ rfl, key 3 _ rfl, f2.mono (fun b _ hb => by omega)⟩
      | i + 2, ht => simp [types2] at ht
    rw [s2, hw3, hw2, hw1] at this
    simpa using this
  · have := k01.trans (k12.trans k23 (fun _ _ f => f.elim)) (fun _ _ f => f.elim)
    rw [hw3, hw2, hw1] at this
    simpa using this

theorem ck1 : checkSc types2 = 0 := by kernel_rfl

end Go.Proofs.Ytidodjbmlbjchaa
