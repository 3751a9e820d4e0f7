/- States and events, in plain Lean: what an event makes of a right state is right. -/
import Derived.Test.YtidodjbmlbjchaaGreatHistorystaysupto07
namespace Go.Proofs.YtidodjbmlbjchaaGreat

theorem wrongC_0 (f : FieldT) : wrongC f cell0 = 0 := by
  unfold wrongC onlyN cell0 riseI
  simp

theorem okTh_new {types : List TypeT} {e : EventT} (h1 : isIx e.ty types.length = true) (h2 : isIdT e.id = true) : okTh types (newTh types e) := by
  refine ⟨h1, h2, by simp [newTh], (eachC_iff _ _ _).2 fun i f c _ hc => ?_⟩
  simp only [newTh, List.getElem?_replicate] at hc
  split at hc
  · cases hc; exact wrongC_0 f
  · cases hc

structure RightEv (types : List TypeT) (e : EventT) : Prop where
  kind : 1 ≤ e.kind ∧ e.kind ≤ 6
  named : e = namedE e
  ty : isIx e.ty types.length = true
  id : isIdT e.id = true

theorem wrongEv_iff (types : List TypeT) (e : EventT) : wrongEv types e = 0 ↔ RightEv types e := by
  unfold wrongEv
  by_cases h1 : e.kind < 1 ∨ 6 < e.kind
  · rw [if_pos h1]; exact ⟨fun h => absurd h (by decide), fun h => absurd h.kind (by omega)⟩
  · rw [if_neg h1]
    by_cases h2 : e = namedE e
    · rw [if_neg (not_not_intro h2)]
      by_cases h3 : isIx e.ty types.length = true
      · rw [if_neg (by simp [h3])]
        by_cases h4 : isIdT e.id = true
        · rw [if_neg (by simp [h4])]; exact ⟨fun _ => ⟨by omega, h2, h3, h4⟩, fun _ => rfl⟩
        · rw [if_pos (by simpa using h4)]; exact ⟨fun h => absurd h (by decide), fun h => absurd h.id h4⟩
      · rw [if_pos (by simpa using h3)]; exact ⟨fun h => absurd h (by decide), fun h => absurd h.ty h3⟩
    · rw [if_pos h2]; exact ⟨fun h => absurd h (by decide), fun h => absurd h.named h2⟩

theorem insertIdx_eq {α : Type} (t : α) (l : List α) : ∀ p, p ≤ l.length → l.insertIdx p t = l.take p ++ t :: l.drop p := by
  induction l with
  | nil => intro p hp; simp at hp; subst hp; rfl
  | cons x r ih =>
    intro p hp
    cases p with
    | zero => rfl
    | succ p => simp only [List.insertIdx_succ_cons, List.take_succ_cons, List.drop_succ_cons, List.cons_append]; rw [ih p (by simpa using hp)]

theorem sort_insert {l : List ThingT} (h : sortT l) {t : ThingT} (hn : hasTh l t.ty t.id = false) : sortT (l.insertIdx (placeT l t.ty t.id) t) := by
  obtain ⟨p, hp⟩ : ∃ p, p = placeT l t.ty t.id := ⟨_, rfl⟩
  have hle : p ≤ l.length := by rw [hp]; exact placeT_le _ _ _
  have e : l.insertIdx p t = l.take p ++ t :: l.drop p := insertIdx_eq t l p hle
  rw [← hp, e]
  have hb : ∀ x ∈ l.take p, aheadT x t = true := by
    intro x hx
    obtain ⟨j, hj, rfl⟩ := List.getElem_of_mem hx
    rw [List.length_take] at hj
    rw [List.getElem_take]
    exact placeT_lt (by omega) (by omega)
  have ha : ∀ x ∈ l.drop p, aheadT t x = true := by
    intro x hx
    obtain ⟨j, hj, rfl⟩ := List.getElem_of_mem hx
    rw [List.length_drop] at hj
    rw [List.getElem_drop]
    have g := placeT_at (l := l) (ty := t.ty) (id := t.id) (by omega)
    have hne := (hasTh_not _ _ _).1 hn _ (List.getElem_mem (show p < l.length by omega))
    simp only [← hp] at g
    rw [aheadK_not] at g
    have g0 : aheadT t l[p] = true := by rw [aheadT, aheadK_iff]; omega
    rcases Nat.eq_zero_or_pos j with rfl | hj0
    · simpa using g0
    · exact aheadT_trans g0 (sort_get h (by omega) (by omega))
  unfold sortT at *
  rw [List.pairwise_append]
  refine ⟨h.take .., List.pairwise_cons.2 ⟨ha, h.drop ..⟩, ?_⟩
  intro a ha' b hb'
  rcases List.mem_cons.1 hb' with rfl | hb'
  · exact hb a ha'
  · obtain ⟨j, hj, rfl⟩ := List.getElem_of_mem ha'
    obtain ⟨k, hk, rfl⟩ := List.getElem_of_mem hb'
    rw [List.length_take] at hj
    rw [List.length_drop] at hk
    rw [List.getElem_take, List.getElem_drop]
    exact List.pairwise_iff_getElem.1 h j (p + k) (by omega) (by omega) (by omega)

theorem right_make {s : StateT} (h : Right s) {e : EventT} (he : RightEv s.types e) (hn : hasTh s.things e.ty e.id = false) (hl : s.things.length < 12) :
    Right { s with things := s.things.insertIdx (placeT s.things e.ty e.id) (newTh s.types e) } := by
  have hmem : ∀ x, x ∈ s.things.insertIdx (placeT s.things e.ty e.id) (newTh s.types e) ↔ x = newTh s.types e ∨ x ∈ s.things := fun x => List.mem_insertIdx (placeT_le _ _ _)
  refine ⟨h.schema, ?_, ?_, ?_, ?_⟩
  · simp only [List.length_insertIdx]
    split <;> omega
  · intro t ht
    rcases (hmem t).1 ht with rfl | ht
    · exact okTh_new he.ty he.id
    · exact h.each t ht
  · exact sort_insert (t := newTh s.types e) h.sorted hn
  · intro t ht i f c hf hc x hx
    rcases (hmem t).1 ht with rfl | ht
    · simp only [newTh, List.getElem?_replicate] at hc
      split at hc
      · cases hc; cases hx
      · cases hc
    · exact hasTh_perm (fun u hu => ⟨u, (hmem u).2 (.inr hu), rfl, rfl⟩) (h.meant t ht i f c hf hc x hx)

theorem meansC_iff (nm : List UInt8) (id : Int) (f : FieldT) (c : CellT) : meansC nm id f c = 0 ↔ ¬ (f.of = nm ∧ id ∈ c.ids) := by
  unfold meansC
  split <;> simp_all

theorem right_drop {s : StateT} (h : Right s) {e : EventT} (he : RightEv s.types e) (hh : hasTh s.things e.ty e.id = true) (hm : eachT s.types (meansC (nameOf s.types e.ty) e.id) s.things = 0) :
    Right { s with things := s.things.eraseIdx (placeT s.things e.ty e.id) } := by
  obtain ⟨hk, k1, k2⟩ := place_has h.sorted hh
  have hsub : ∀ x ∈ s.things.eraseIdx (placeT s.things e.ty e.id), x ∈ s.things := fun x hx => (List.eraseIdx_sublist _ _).subset hx
  refine ⟨h.schema, ?_, ?_, ?_, ?_⟩
  · have := h.few
    have := (List.eraseIdx_sublist s.things (placeT s.things e.ty e.id)).length_le
    simp only; omega
  · exact fun t ht => h.each t (hsub t ht)
  · exact List.Pairwise.sublist (List.eraseIdx_sublist _ _) h.sorted
  · intro t ht i f c hf hc x hx
    have g := h.meant t (hsub t ht) i f c hf hc x hx
    have gm := (meansC_iff _ _ _ _).1 ((eachC_iff _ _ _).1 ((eachT_iff _ _ _).1 hm t (hsub t ht)) i f c hf hc)
    obtain ⟨u, hu, u1, u2⟩ := (hasTh_iff _ _ _).1 g
    obtain ⟨j, hj, rfl⟩ := List.getElem_of_mem hu
    refine (hasTh_iff _ _ _).2 ⟨_, ?_, u1, u2⟩
    rw [List.mem_eraseIdx_iff_getElem]
    refine ⟨j, hj, ?_, rfl⟩
    rintro rfl
    refine gm ⟨?_, ?_⟩
    · refine typeNo_name (by have := he.ty; simp [isIx] at this; omega) (u1.symm.trans k1)
    · rw [← k2, u2]; exact hx

theorem mem_set_key {l : List ThingT} {k : Nat} (hk : k < l.length) {t' : ThingT} (h1 : t'.ty = l[k].ty) (h2 : t'.id = l[k].id) : ∀ x ∈ l, ∃ u ∈ l.set k t', u.ty = x.ty ∧ u.id = x.id := by
  intro x hx
  obtain ⟨j, hj, rfl⟩ := List.getElem_of_mem hx
  by_cases e : k = j
  · subst e
    exact ⟨t', List.mem_set hk _, h1, h2⟩
  · refine ⟨l[j], ?_, rfl, rfl⟩
    have : (l.set k t')[j]'(by simpa using hj) = l[j] := by rw [List.getElem_set_ne e]
    rw [← this]
    exact List.getElem_mem _
theorem set_mem_key {l : List ThingT} {k : Nat} (hk : k < l.length) {t' : ThingT} (h1 : t'.ty = l[k].ty) (h2 : t'.id = l[k].id) : ∀ x ∈ l.set k t', ∃ u ∈ l, u.ty = x.ty ∧ u.id = x.id := by
  intro x hx
  rcases List.mem_or_eq_of_mem_set hx with hx | rfl
  · exact ⟨x, hx, rfl, rfl⟩
  · exact ⟨l[k], List.getElem_mem hk, h1.symm, h2.symm⟩
theorem hasTh_set {l : List ThingT} {k : Nat} (hk : k < l.length) {t' : ThingT} (h1 : t'.ty = l[k].ty) (h2 : t'.id = l[k].id) (ty id : Int) : hasTh (l.set k t') ty id = hasTh l ty id := by
  rw [Bool.eq_iff_iff]
  exact ⟨hasTh_perm (set_mem_key hk h1 h2), hasTh_perm (mem_set_key hk h1 h2)⟩
theorem sort_set {l : List ThingT} (h : sortT l) {k : Nat} (hk : k < l.length) {t' : ThingT} (h1 : t'.ty = l[k].ty) (h2 : t'.id = l[k].id) : sortT (l.set k t') := by
  unfold sortT at *
  rw [List.pairwise_iff_getElem] at *
  intro i j hi hj hij
  rw [List.length_set] at hi hj
  have := h i j hi hj hij
  rw [List.getElem_set, List.getElem_set]
  unfold aheadT at *
  rw [aheadK_iff] at *
  split
  · subst_vars
    rw [if_neg (by omega)]
    rw [h1, h2]; exact this
  · split
    · subst_vars
      rw [h1, h2]; exact this
    · exact this
theorem place_set {l : List ThingT} (h : sortT l) {k : Nat} (hk : k < l.length) {t' : ThingT} (h1 : t'.ty = l[k].ty) (h2 : t'.id = l[k].id) {ty id : Int} (hh : hasTh l ty id = true) : placeT (l.set k t') ty id = placeT l ty id := by
  obtain ⟨hp, p1, p2⟩ := place_has h hh
  refine place_ix (sort_set h hk h1 h2) (by simpa using hp) ?_ ?_
  · rw [List.getElem_set]; split
    · subst_vars; rw [h1]; simpa using p1
    · exact p1
  · rw [List.getElem_set]; split
    · subst_vars; rw [h2]; simpa using p2
    · exact p2

/-- a state with a cell changed is right, where the cell is, and its ids mean something -/
theorem right_set {s : StateT} (h : Right s) {k : Nat} (hk : k < s.things.length) {i : Nat} {f : FieldT} (hf : (fieldsOf s.types s.things[k].ty)[i]? = some f) {c : CellT} (hc : wrongC f c = 0) (hi : ∀ x ∈ c.ids, hasTh s.things (typeNo s.types f.of) x = true) :
    Right { s with things := s.things.set k { s.things[k] with cells := s.things[k].cells.set i c } } := by
  have ok := h.each _ (List.getElem_mem hk)
  refine ⟨h.schema, by simpa using h.few, ?_, sort_set h.sorted hk rfl rfl, ?_⟩
  · intro t ht
    rcases List.mem_or_eq_of_mem_set ht with ht | rfl
    · exact h.each t ht
    · refine ⟨ok.1, ok.2.1, by simpa using ok.2.2.1, (eachC_iff _ _ _).2 fun j g d hg hd => ?_⟩
      rw [List.getElem?_set] at hd
      split at hd
      · split at hd
        · cases hd
          subst_vars
          simp only at hg
          rw [hf] at hg
          cases hg
          exact hc
        · cases hd
      · exact (eachC_iff _ _ _).1 ok.2.2.2 j g d hg hd
  · intro t ht j g d hg hd x hx
    refine (hasTh_set (t' := { s.things[k] with cells := s.things[k].cells.set i c }) hk rfl rfl _ _).trans ?_
    rcases List.mem_or_eq_of_mem_set ht with ht | rfl
    · exact h.meant t ht j g d hg hd x hx
    · simp only at hg hd
      rw [List.getElem?_set] at hd
      split at hd
      · split at hd
        · cases hd
          subst_vars
          rw [hf] at hg
          cases hg
          exact hi x hx
        · cases hd
      · exact h.meant _ (List.getElem_mem hk) j g d hg hd x hx

/-- what there is of an event that changes a cell, and is done -/
structure Chg (s : StateT) (e : EventT) (f : FieldT) (c c' : CellT) : Prop where
  lt : placeT s.things e.ty e.id < s.things.length
  ty : s.things[placeT s.things e.ty e.id].ty = e.ty
  id : s.things[placeT s.things e.ty e.id].id = e.id
  ix : 0 ≤ e.field
  field : (fieldsOf s.types e.ty)[e.field.toNat]? = some f
  suits : suitsE e.kind f.kind = true
  cell : s.things[placeT s.things e.ty e.id].cells[e.field.toNat]? = some c
  set : setC s.types s.things f e c = .ok c'
  right : wrongC f c' = 0
  old : wrongC f c = 0
  means : ∀ x ∈ c.ids, hasTh s.things (typeNo s.types f.of) x = true

def chgS (s : StateT) (e : EventT) (h : placeT s.things e.ty e.id < s.things.length) (c : CellT) : StateT :=
  { s with things := s.things.set (placeT s.things e.ty e.id) { s.things[placeT s.things e.ty e.id] with cells := s.things[placeT s.things e.ty e.id].cells.set e.field.toNat c } }

theorem change_inv {s s' : StateT} (h : Right s) {e : EventT} (hh : hasTh s.things e.ty e.id = true) (hd : changeSt s e = .ok s') : ∃ f c c', ∃ hc : Chg s e f c c', s' = chgS s e hc.lt c' := by
  obtain ⟨hk, k1, k2⟩ := place_has h.sorted hh
  have ok := h.each _ (List.getElem_mem hk)
  unfold changeSt at hd
  by_cases h1 : isIx e.field (fieldsOf s.types e.ty).length = true
  · rw [if_neg (by simp [h1])] at hd
    simp only [isIx, Bool.and_eq_true, decide_eq_true_eq] at h1
    have hlt : e.field.toNat < (fieldsOf s.types e.ty).length := by omega
    have hf : getF (fieldsOf s.types e.ty) e.field = (fieldsOf s.types e.ty)[e.field.toNat] := by simp [getF, hlt]
    rw [getT_at hk] at hd
    have hcl : e.field.toNat < s.things[placeT s.things e.ty e.id].cells.length := by rw [ok.2.2.1, k1]; exact hlt
    have hc : getC s.things[placeT s.things e.ty e.id].cells e.field = s.things[placeT s.things e.ty e.id].cells[e.field.toNat] := by simp [getC, hcl]
    rw [hf, hc] at hd
    by_cases h2 : suitsE e.kind (fieldsOf s.types e.ty)[e.field.toNat].kind = true
    · rw [if_neg (by simp [h2])] at hd
      have g1 : (fieldsOf s.types e.ty)[e.field.toNat]? = some (fieldsOf s.types e.ty)[e.field.toNat] := List.getElem?_eq_getElem hlt
      have g2 : s.things[placeT s.things e.ty e.id].cells[e.field.toNat]? = some s.things[placeT s.things e.ty e.id].cells[e.field.toNat] := List.getElem?_eq_getElem hcl
      generalize hset : setC s.types s.things (fieldsOf s.types e.ty)[e.field.toNat] e s.things[placeT s.things e.ty e.id].cells[e.field.toNat] = r at hd
      cases r with
      | error m => cases hd
      | ok c' =>
        simp only at hd
        by_cases h3 : wrongC (fieldsOf s.types e.ty)[e.field.toNat] c' = 0
        · rw [if_neg (not_not_intro h3)] at hd
          cases hd
          refine ⟨_, _, c', ⟨hk, k1, k2, h1.1, g1, h2, g2, hset, h3, ?_, ?_⟩, ?_⟩
          · exact (eachC_iff _ _ _).1 ok.2.2.2 _ _ _ (by rw [k1]; exact g1) g2
          · exact h.meant _ (List.getElem_mem hk) _ _ _ (by rw [k1]; exact g1) g2
          · rfl
        · rw [if_pos h3] at hd; cases hd
    · rw [if_pos (by simpa using h2)] at hd; cases hd
  · rw [if_pos (by simpa using h1)] at hd; cases hd

theorem change_mk {s : StateT} {e : EventT} {f : FieldT} {c c' : CellT} (hc : Chg s e f c c') : changeSt s e = .ok (chgS s e hc.lt c') := by
  obtain ⟨hlt, hfe⟩ := List.getElem?_eq_some_iff.1 hc.field
  obtain ⟨hcl, hce⟩ := List.getElem?_eq_some_iff.1 hc.cell
  have hf : getF (fieldsOf s.types e.ty) e.field = f := by simp [getF, hc.field]
  have hcc : getC (s.things[placeT s.things e.ty e.id]'hc.lt).cells e.field = c := by simp [getC, hc.cell]
  unfold changeSt
  rw [if_neg (by simp [isIx]; have := hc.ix; omega), getT_at hc.lt, hf, hcc, if_neg (by simp [hc.suits]), hc.set]
  simp only
  rw [if_neg (not_not_intro hc.right)]
  rfl

theorem placeI_le (l : List Int) (n : Int) : placeI l n ≤ l.length := List.findIdx_le_length

theorem setC_means {types : List TypeT} {things : List ThingT} {f : FieldT} {e : EventT} {c c' : CellT} (h : setC types things f e c = .ok c') (hm : ∀ x ∈ c.ids, hasTh things (typeNo types f.of) x = true) : ∀ x ∈ c'.ids, hasTh things (typeNo types f.of) x = true := by
  unfold setC at h
  by_cases k3 : e.kind = 3
  · rw [if_pos k3] at h; cases h; exact hm
  · rw [if_neg k3] at h
    by_cases k4 : e.kind = 4
    · rw [if_pos k4] at h; cases h; exact hm
    · rw [if_neg k4] at h
      by_cases k5 : e.kind = 5
      · rw [if_pos k5] at h
        by_cases h1 : hasTh things (typeNo types f.of) e.n = true
        · rw [if_neg (by simp [h1])] at h
          by_cases h2 : e.n ∈ c.ids
          · rw [if_pos h2] at h; cases h
          · rw [if_neg h2] at h
            by_cases h3 : f.kind = 3
            · rw [if_pos h3] at h
              cases h
              intro x hx
              simp at hx
              subst hx
              exact h1
            · rw [if_neg h3] at h
              cases h
              intro x hx
              rcases (List.mem_insertIdx (placeI_le _ _)).1 hx with rfl | hx
              · exact h1
              · exact hm x hx
        · rw [if_pos (by simpa using h1)] at h; cases h
      · rw [if_neg k5] at h
        by_cases h2 : e.n ∈ c.ids
        · rw [if_pos h2] at h
          cases h
          exact fun x hx => hm x ((List.eraseIdx_sublist _ _).subset hx)
        · rw [if_neg h2] at h; cases h

theorem right_chg {s : StateT} (h : Right s) {e : EventT} {f : FieldT} {c c' : CellT} (hc : Chg s e f c c') : Right (chgS s e hc.lt c') :=
  right_set h hc.lt (by rw [hc.ty]; exact hc.field) hc.right (setC_means hc.set hc.means)

/-- what comes is right, its types are what they were -/
theorem doSt_right {s s' : StateT} {e : EventT} (hd : doSt s e = .ok s') : Right s ∧ RightEv s.types e ∧ doIt s e = .ok s' := by
  unfold doSt at hd
  by_cases h1 : checkSt s = 0
  · rw [if_neg (not_not_intro h1)] at hd
    by_cases h2 : wrongEv s.types e = 0
    · rw [if_neg (not_not_intro h2)] at hd
      exact ⟨(checkSt_iff s).1 h1, (wrongEv_iff _ _).1 h2, hd⟩
    · rw [if_pos h2] at hd; cases hd
  · rw [if_pos h1] at hd; cases hd
theorem doSt_mk {s : StateT} {e : EventT} (h : Right s) (he : RightEv s.types e) : doSt s e = doIt s e := by
  unfold doSt
  rw [if_neg (not_not_intro ((checkSt_iff s).2 h)), if_neg (not_not_intro ((wrongEv_iff _ _).2 he))]

/-- the three ways of an event that is done -/
theorem doIt_inv {s s' : StateT} {e : EventT} (h : Right s) (hd : doIt s e = .ok s') :
    (e.kind = 1 ∧ hasTh s.things e.ty e.id = false ∧ s.things.length < 12 ∧ s' = { s with things := s.things.insertIdx (placeT s.things e.ty e.id) (newTh s.types e) }) ∨
    (e.kind = 2 ∧ hasTh s.things e.ty e.id = true ∧ eachT s.types (meansC (nameOf s.types e.ty) e.id) s.things = 0 ∧ s' = { s with things := s.things.eraseIdx (placeT s.things e.ty e.id) }) ∨
    (e.kind ≠ 1 ∧ e.kind ≠ 2 ∧ hasTh s.things e.ty e.id = true ∧ ∃ f c c', ∃ hc : Chg s e f c c', s' = chgS s e hc.lt c') := by
  unfold doIt at hd
  by_cases k1 : e.kind = 1
  · rw [if_pos k1] at hd
    by_cases h1 : hasTh s.things e.ty e.id = true
    · rw [if_pos h1] at hd; cases hd
    · rw [if_neg h1] at hd
      by_cases h2 : 12 ≤ s.things.length
      · rw [if_pos h2] at hd; cases hd
      · rw [if_neg h2] at hd
        cases hd
        exact .inl ⟨k1, by simpa using h1, by omega, rfl⟩
  · rw [if_neg k1] at hd
    by_cases h1 : hasTh s.things e.ty e.id = true
    · rw [if_neg (by simp [h1])] at hd
      by_cases k2 : e.kind = 2
      · rw [if_pos k2] at hd
        by_cases h2 : eachT s.types (meansC (nameOf s.types e.ty) e.id) s.things = 0
        · rw [if_neg (not_not_intro h2)] at hd
          cases hd
          exact .inr (.inl ⟨k2, h1, h2, rfl⟩)
        · rw [if_pos h2] at hd; cases hd
      · rw [if_neg k2] at hd
        exact .inr (.inr ⟨k1, k2, h1, change_inv h h1 hd⟩)
    · rw [if_pos (by simpa using h1)] at hd; cases hd

theorem do_right {s s' : StateT} {e : EventT} (hd : doSt s e = .ok s') : Right s' ∧ s'.types = s.types := by
  obtain ⟨h, he, hi⟩ := doSt_right hd
  rcases doIt_inv h hi with ⟨_, h1, h2, rfl⟩ | ⟨_, h1, h2, rfl⟩ | ⟨_, _, _, f, c, c', hc, rfl⟩
  · exact ⟨right_make h he h1 h2, rfl⟩
  · exact ⟨right_drop h he h1 h2, rfl⟩
  · exact ⟨right_chg h hc, rfl⟩

end Go.Proofs.YtidodjbmlbjchaaGreat
