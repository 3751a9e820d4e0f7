import Derived.Test.YtidodjbmlbjchaaGreatHistorystaysupto21
import Derived.RegionIn
/- Regions that draw their order: by what holds behind whatever operations were carried out, in whatever order. Over any program. -/
namespace Go.Proofs.YtidodjbmlbjchaaGreat
open Go

section
variable {P : Program} {ops : Array Oper} {Q : Exit → Act → World → Prop} {md : Region.Mode}

theorem count_set_true {l : List Bool} {i : Nat} (h : i < l.length) (hi : l[i] = false) : (l.set i true).count false + 1 = l.count false := by
  induction l generalizing i with
  | nil => simp at h
  | cons b r ih =>
    cases i with
    | zero =>
      simp at hi
      subst hi
      simp
    | succ i =>
      have := ih (i := i) (by simpa using h) (by simpa using hi)
      rw [List.set_cons_succ, List.count_cons, List.count_cons]
      omega

theorem wpAny_inv (I : Array Bool → Act → World → Prop)
    (hstep : ∀ listed a w i, listed.size = ops.size → I listed a w → i ∈ Region.ready md ops listed → wpOp P ops Q i (fun a' w' => I (listed.setIfInBounds i true) a' w') a w)
    (hend : ∀ listed a w, listed.size = ops.size → Region.ready md ops listed = [] → I listed a w → Q .normal a w) :
    ∀ (fuel : Nat) (listed : Array Bool) (a : Act) (w : World), listed.size = ops.size → listed.toList.count false ≤ fuel → I listed a w → wpAny P md ops Q fuel listed a w := by
  intro fuel
  induction fuel with
  | zero =>
    intro listed a w hs hc hI
    have hr : Region.ready md ops listed = [] := by
      rw [List.eq_nil_iff_forall_not_mem]
      intro i hi
      have h0 := (mem_ready.1 hi).1
      have hz : listed.toList.count false = 0 := by omega
      rw [List.count_eq_zero] at hz
      apply hz
      rw [Array.getD_eq_getD_getElem?] at h0
      cases hx : listed[i]? with
      | none => rw [hx] at h0; cases h0
      | some b =>
        rw [hx] at h0
        simp at h0
        subst h0
        have := Array.mem_of_getElem? hx
        exact Array.mem_def.1 this
    exact ⟨hr, hend _ _ _ hs hr hI⟩
  | succ fuel ih =>
    intro listed a w hs hc hI
    refine ⟨fun hr => hend _ _ _ hs hr hI, fun i hi => ?_⟩
    refine wpOp_mono (fun a' w' h => ih _ a' w' (by rw [Array.size_setIfInBounds]; exact hs) ?_ h) (hstep _ _ _ i hs hI hi)
    have h0 := (mem_ready.1 hi).1
    rw [Array.getD_eq_getD_getElem?] at h0
    cases hx : listed[i]? with
    | none => rw [hx] at h0; cases h0
    | some b =>
      rw [hx] at h0
      simp at h0
      subst h0
      obtain ⟨hl, hv⟩ := Array.getElem?_eq_some_iff.1 hx
      have := count_set_true (l := listed.toList) (i := i) (by simpa using hl) (by simpa using hv)
      rw [Array.toList_setIfInBounds]
      omega

theorem wp_inv {id : Nat} {a : Act} {w : World} (I : Array Bool → Act → World → Prop) (hm : P.follows .mixedOrders = true)
    (h0 : I (Array.replicate ops.size false) a w.drew)
    (hstep : ∀ listed a w i, listed.size = ops.size → I listed a w → i ∈ Region.ready .any ops listed → wpOp P ops Q i (fun a' w' => I (listed.setIfInBounds i true) a' w') a w)
    (hend : ∀ listed a w, listed.size = ops.size → Region.ready .any ops listed = [] → I listed a w → Q .normal a w) :
    (Code.region id ops true).wp P Q a w :=
  wp_region_any hm (wpAny_inv I hstep hend _ _ _ _ (by simp) (Nat.le_trans List.count_le_length (by simp)) h0)

theorem ready_waits {i j : Nat} {listed : Array Bool} (h : i ∈ Region.ready md ops listed) (hw : waits md ops i j = true) : listed.getD j false = true := by
  obtain ⟨_, o, ho, hall⟩ := mem_ready.1 h
  unfold waits at hw
  rw [ho] at hw
  simp only [Option.map_some, Option.getD_some] at hw
  obtain ⟨e, he, hb⟩ := Array.any_eq_true'.1 hw
  simp only [Bool.and_eq_true, beq_iff_eq] at hb
  have := hall e he hb.1
  rwa [hb.2] at this
theorem ready_lt {i : Nat} {listed : Array Bool} (h : i ∈ Region.ready md ops listed) : i < ops.size := by
  obtain ⟨_, o, ho, _⟩ := mem_ready.1 h
  exact (Array.getElem?_eq_some_iff.1 ho).1
/-- where all are carried out, each is -/
theorem getD_set {l : Array Bool} {i j : Nat} (h : (l.setIfInBounds i true).getD j false = true) : j = i ∨ l.getD j false = true := by
  by_cases e : i = j
  · exact .inl e.symm
  · rw [getD_set_ne false e] at h; exact .inr h
theorem all_listed {listed : Array Bool} (hb : (List.range ops.size).all (fun j => ((ops[j]?).map fun o => o.after.all fun e => !Region.binds md e || decide (e.on < j)).getD true) = true) (hs : listed.size = ops.size) (hr : Region.ready md ops listed = []) : ∀ n j, j < n → j < ops.size → listed.getD j false = true := by
  intro n
  induction n with
  | zero => intro j hj; omega
  | succ n ih =>
    intro j hj hjs
    rcases Nat.lt_or_ge j n with h | h
    · exact ih j h hjs
    · by_cases hl : listed.getD j false = true
      · exact hl
      · exfalso
        have hnot : j ∉ Region.ready md ops listed := by rw [hr]; simp
        apply hnot
        obtain ⟨o, ho⟩ : ∃ o, ops[j]? = some o := ⟨_, Array.getElem?_eq_getElem hjs⟩
        refine mem_ready.2 ⟨?_, o, ho, fun e he hbd => ?_⟩
        · rw [Array.getD_eq_getD_getElem?] at hl ⊢
          have hx : listed[j]? = some (listed[j]'(by omega)) := Array.getElem?_eq_getElem (by omega)
          rw [hx] at hl ⊢
          simpa using hl
        · have h1 := List.all_eq_true.1 hb j (List.mem_range.2 hjs)
          rw [ho] at h1
          simp only [Option.map_some, Option.getD_some] at h1
          have h2 := (Array.all_eq_true_iff_forall_mem.1 h1) e he
          rw [hbd] at h2
          simp only [Bool.not_true, Bool.false_or, decide_eq_true_eq] at h2
          exact ih e.on (by omega) (by omega)
end

theorem arr17 {α : Type} (a : Array α) (h : a.size = 17) : ∃ x0 x1 x2 x3 x4 x5 x6 x7 x8 x9 x10 x11 x12 x13 x14 x15 x16, a = #[x0, x1, x2, x3, x4, x5, x6, x7, x8, x9, x10, x11, x12, x13, x14, x15, x16] := by
  obtain ⟨l⟩ := a
  match l, h with
  | [x0, x1, x2, x3, x4, x5, x6, x7, x8, x9, x10, x11, x12, x13, x14, x15, x16], _ => exact ⟨_, _, _, _, _, _, _, _, _, _, _, _, _, _, _, _, _, rfl⟩

end Go.Proofs.YtidodjbmlbjchaaGreat

/- INV inside a fence. Over any program. -/
namespace Go.Proofs.YtidodjbmlbjchaaGreat
open Go

section
variable {F : Fence} {n : Nat} {P : Program} {ops : Array Oper} {Q : Exit → Act → World → Prop} {md : Region.Mode}

theorem wpAnyIn_inv (I : Array Bool → Act → World → Prop)
    (hstep : ∀ listed a w i, listed.size = ops.size → I listed a w → i ∈ Region.ready md ops listed → wpOpIn F n P ops Q i (fun a' w' => I (listed.setIfInBounds i true) a' w') a w)
    (hend : ∀ listed a w, listed.size = ops.size → Region.ready md ops listed = [] → I listed a w → Q .normal a w) :
    ∀ (fuel : Nat) (listed : Array Bool) (a : Act) (w : World), listed.size = ops.size → listed.toList.count false ≤ fuel → I listed a w → wpAnyIn F n P md ops Q fuel listed a w := by
  intro fuel
  induction fuel with
  | zero =>
    intro listed a w hs hc hI
    have hr : Region.ready md ops listed = [] := by
      rw [List.eq_nil_iff_forall_not_mem]
      intro i hi
      have h0 := (mem_ready.1 hi).1
      have hz : listed.toList.count false = 0 := by omega
      rw [List.count_eq_zero] at hz
      apply hz
      rw [Array.getD_eq_getD_getElem?] at h0
      cases hx : listed[i]? with
      | none => rw [hx] at h0; cases h0
      | some b =>
        rw [hx] at h0
        simp at h0
        subst h0
        have := Array.mem_of_getElem? hx
        exact Array.mem_def.1 this
    exact ⟨hr, hend _ _ _ hs hr hI⟩
  | succ fuel ih =>
    intro listed a w hs hc hI
    refine ⟨fun hr => hend _ _ _ hs hr hI, fun i hi => ?_⟩
    refine wpOpIn_mono (fun a' w' h => ih _ a' w' (by rw [Array.size_setIfInBounds]; exact hs) ?_ h) (hstep _ _ _ i hs hI hi)
    have h0 := (mem_ready.1 hi).1
    rw [Array.getD_eq_getD_getElem?] at h0
    cases hx : listed[i]? with
    | none => rw [hx] at h0; cases h0
    | some b =>
      rw [hx] at h0
      simp at h0
      subst h0
      obtain ⟨hl, hv⟩ := Array.getElem?_eq_some_iff.1 hx
      have := count_set_true (l := listed.toList) (i := i) (by simpa using hl) (by simpa using hv)
      rw [Array.toList_setIfInBounds]
      omega

theorem wpIn_inv {id : Nat} {a : Act} {w : World} (I : Array Bool → Act → World → Prop) (hm : P.follows .mixedOrders = true)
    (h0 : I (Array.replicate ops.size false) a w.drew)
    (hstep : ∀ listed a w i, listed.size = ops.size → I listed a w → i ∈ Region.ready .any ops listed → wpOpIn F n P ops Q i (fun a' w' => I (listed.setIfInBounds i true) a' w') a w)
    (hend : ∀ listed a w, listed.size = ops.size → Region.ready .any ops listed = [] → I listed a w → Q .normal a w) :
    (Code.region id ops true).wpIn F n P Q a w :=
  wpIn_region_any hm (wpAnyIn_inv I hstep hend _ _ _ _ (by simp) (Nat.le_trans List.count_le_length (by simp)) h0)

end
end Go.Proofs.YtidodjbmlbjchaaGreat
