/- States and events, in plain Lean: a change is unchanged; an event of one thing leaves the others; two of two fields may come in either order. -/
import Derived.Test.YtidodjbmlbjchaaGreatHistorystaysupto09
namespace Go.Proofs.YtidodjbmlbjchaaGreat

theorem rise_pair : ∀ l : List Int, riseI l = true → l.Pairwise (· < ·)
  | [], _ => List.Pairwise.nil
  | [_], _ => List.pairwise_singleton _ _
  | a :: b :: r, h => by
    rw [riseI, Bool.and_eq_true, decide_eq_true_eq] at h
    have ih := rise_pair (b :: r) h.2
    refine List.pairwise_cons.2 ⟨fun x hx => ?_, ih⟩
    rcases List.mem_cons.1 hx with rfl | hx
    · exact h.1
    · exact Int.lt_trans h.1 ((List.pairwise_cons.1 ih).1 x hx)

theorem placeI_lt {l : List Int} {x : Int} {j : Nat} (h : j < placeI l x) (hj : j < l.length) : l[j] < x := by
  have := List.not_of_lt_findIdx (p := fun y => !decide (y < x)) (xs := l) h
  simpa using this
theorem placeI_at {l : List Int} {x : Int} (h : placeI l x < l.length) : ¬ l[placeI l x] < x := by
  have := List.findIdx_getElem (xs := l) (p := fun y => !decide (y < x)) (w := h)
  unfold placeI
  simpa using this
theorem placeI_is {l : List Int} {x : Int} {a : Nat} (hl : a ≤ l.length) (h1 : ∀ k (hk : k < l.length), k < a → l[k] < x) (h2 : ∀ hk : a < l.length, ¬ l[a] < x) : placeI l x = a := by
  have hle := placeI_le l x
  rcases Nat.lt_trichotomy (placeI l x) a with hc | hc | hc
  · exact absurd (h1 _ (by omega) hc) (placeI_at (l := l) (by omega))
  · exact hc
  · exact absurd (placeI_lt (l := l) hc (by omega)) (h2 (by omega))

theorem ids_in (l : List Int) (x : Int) : (l.insertIdx (placeI l x) x).eraseIdx (placeI (l.insertIdx (placeI l x) x) x) = l := by
  have hle := placeI_le l x
  have hp : placeI (l.insertIdx (placeI l x) x) x = placeI l x := by
    refine placeI_is (by rw [List.length_insertIdx, if_pos hle]; omega) (fun k hk hkp => ?_) (fun hk => ?_)
    · rw [List.getElem_insertIdx_of_lt hkp]
      exact placeI_lt hkp (by omega)
    · rw [List.getElem_insertIdx_self]; omega
  rw [hp, er_in]

theorem ids_place {l : List Int} {x : Int} (h : l.Pairwise (· < ·)) (hx : x ∈ l) : ∃ hk : placeI l x < l.length, l[placeI l x] = x := by
  obtain ⟨j, hj, rfl⟩ := List.getElem_of_mem hx
  have hle : placeI l l[j] ≤ j := by
    rcases Nat.lt_or_ge j (placeI l l[j]) with hlt | hge
    · exact absurd (placeI_lt hlt hj) (by omega)
    · exact hge
  have hk : placeI l l[j] < l.length := by omega
  refine ⟨hk, ?_⟩
  rcases Nat.lt_or_ge (placeI l l[j]) j with hlt | hge
  · exact absurd (List.pairwise_iff_getElem.1 h _ _ hk hj hlt) (placeI_at hk)
  · have : placeI l l[j] = j := by omega
    simp only [this]

theorem ids_er {l : List Int} {x : Int} (h : l.Pairwise (· < ·)) (hx : x ∈ l) : x ∉ l.eraseIdx (placeI l x) ∧ (l.eraseIdx (placeI l x)).insertIdx (placeI (l.eraseIdx (placeI l x)) x) x = l := by
  obtain ⟨hk, hv⟩ := ids_place h hx
  obtain ⟨p, hp⟩ : ∃ p, placeI l x = p := ⟨_, rfl⟩
  simp only [hp] at hk hv ⊢
  have hlen : (l.eraseIdx p).length = l.length - 1 := List.length_eraseIdx_of_lt hk
  constructor
  · intro hm
    rw [List.mem_eraseIdx_iff_getElem] at hm
    obtain ⟨j, hj, hjp, hjx⟩ := hm
    rcases Nat.lt_or_gt_of_ne hjp with hlt | hgt
    · have := List.pairwise_iff_getElem.1 h _ _ hj hk hlt
      omega
    · have := List.pairwise_iff_getElem.1 h _ _ hk hj hgt
      omega
  · have hpx : placeI (l.eraseIdx p) x = p := by
      refine placeI_is (by omega) (fun k hk2 hkp => ?_) (fun hk2 => ?_)
      · rw [List.getElem_eraseIdx_of_lt _ hkp]
        exact placeI_lt (by rw [hp]; exact hkp) (by omega)
      · rw [List.getElem_eraseIdx_of_ge _ (Nat.le_refl _)]
        have := List.pairwise_iff_getElem.1 h p (p + 1) hk (by omega) (by omega)
        omega
    have := in_er l p hk
    rw [hv] at this
    rw [hpx, this]

theorem wrongC_facts {f : FieldT} {c : CellT} (hw : wrongC f c = 0) : riseI c.ids = true ∧ c.ids.length ≤ mostI f.kind := by
  unfold wrongC at hw
  repeat' (split at hw)
  all_goals (first | exact absurd hw (by decide) | skip)
  rename_i _ _ h7 h8
  exact ⟨by simpa using h8, by omega⟩

theorem setC_congr {types : List TypeT} {a b : List ThingT} (h : ∀ ty id, hasTh a ty id = hasTh b ty id) (f : FieldT) (e : EventT) (c : CellT) : setC types a f e c = setC types b f e c := by
  unfold setC
  rw [h]

theorem setC_back {types : List TypeT} {things : List ThingT} {f : FieldT} {e : EventT} {c c' : CellT} (hk : 3 ≤ e.kind ∧ e.kind ≤ 6) (hs : suitsE e.kind f.kind = true) (hset : setC types things f e c = .ok c')
    (hw : wrongC f c = 0) (hm : ∀ x ∈ c.ids, hasTh things (typeNo types f.of) x = true) :
    setC types things f (unchangeE f c e) c' = .ok c ∧ suitsE (unchangeE f c e).kind f.kind = true := by
  obtain ⟨hr, hl⟩ := wrongC_facts hw
  obtain ⟨n, tx, ids⟩ := c
  obtain ⟨k, ty, i, fi, en, et⟩ := e
  simp only at hk hs hset hm hr hl
  have hk4 : k = 3 ∨ k = 4 ∨ k = 5 ∨ k = 6 := by omega
  rcases hk4 with rfl | rfl | rfl | rfl
  · simp only [setC, if_true] at hset
    cases hset
    exact ⟨by simp [unchangeE, setC], by simpa [unchangeE] using hs⟩
  · simp [setC] at hset
    cases hset
    exact ⟨by simp [unchangeE, setC], by simpa [unchangeE] using hs⟩
  · have hset2 : (if hasTh things (typeNo types f.of) en = false then .error 5 else if en ∈ ids then .error 6
      else if f.kind = 3 then .ok ⟨n, tx, [en]⟩ else .ok ⟨n, tx, ids.insertIdx (placeI ids en) en⟩ : Except Int CellT) = .ok c' := hset
    by_cases h1 : hasTh things (typeNo types f.of) en = false
    · rw [if_pos h1] at hset2; cases hset2
    rw [if_neg h1] at hset2
    by_cases h2 : en ∈ ids
    · rw [if_pos h2] at hset2; cases hset2
    rw [if_neg h2] at hset2
    by_cases h3 : f.kind = 3
    · rw [if_pos h3] at hset2
      cases hset2
      rw [h3, mostI, if_pos rfl] at hl
      cases ids with
      | nil => exact ⟨by simp [unchangeE, setC, h3, placeI], by simp [unchangeE, h3, suitsE]⟩
      | cons z r =>
        have hz : r = [] := List.length_eq_zero_iff.1 (by simp at hl; simpa using hl)
        subst hz
        have hz2 := hm z (by simp)
        have hne : ¬ z = en := fun hx => h2 (by rw [hx]; simp)
        exact ⟨by simp [unchangeE, setC, h3, hz2, hne], by simp [unchangeE, h3, suitsE]⟩
    · rw [if_neg h3] at hset2
      cases hset2
      have hmem : en ∈ ids.insertIdx (placeI ids en) en := (List.mem_insertIdx (placeI_le _ _)).2 (.inl rfl)
      have hu : unchangeE f ⟨n, tx, ids⟩ ⟨5, ty, i, fi, en, et⟩ = ⟨6, ty, i, fi, en, et⟩ := by simp [unchangeE, h3]
      rw [hu]
      refine ⟨?_, by simpa [suitsE] using hs⟩
      show (if en ∈ ids.insertIdx (placeI ids en) en then .ok ⟨n, tx, (ids.insertIdx (placeI ids en) en).eraseIdx (placeI (ids.insertIdx (placeI ids en) en) en)⟩ else .error 5 : Except Int CellT) = _
      rw [if_pos hmem, ids_in]
  · have hset2 : (if en ∈ ids then .ok ⟨n, tx, ids.eraseIdx (placeI ids en)⟩ else .error 5 : Except Int CellT) = .ok c' := hset
    by_cases h2 : en ∈ ids
    · rw [if_pos h2] at hset2
      cases hset2
      obtain ⟨g1, g2⟩ := ids_er (rise_pair _ hr) h2
      have hz2 := hm en h2
      have hu : unchangeE f ⟨n, tx, ids⟩ ⟨6, ty, i, fi, en, et⟩ = ⟨5, ty, i, fi, en, et⟩ := by simp [unchangeE]
      rw [hu]
      refine ⟨?_, by simpa [suitsE] using hs⟩
      show (if hasTh things (typeNo types f.of) en = false then .error 5 else if en ∈ ids.eraseIdx (placeI ids en) then .error 6
        else if f.kind = 3 then .ok ⟨n, tx, [en]⟩ else .ok ⟨n, tx, (ids.eraseIdx (placeI ids en)).insertIdx (placeI (ids.eraseIdx (placeI ids en)) en) en⟩ : Except Int CellT) = _
      rw [if_neg (by rw [hz2]; decide), if_neg g1]
      by_cases h3 : f.kind = 3
      · rw [if_pos h3]
        rw [h3, mostI, if_pos rfl] at hl
        cases ids with
        | nil => cases h2
        | cons z r =>
          have hz : r = [] := List.length_eq_zero_iff.1 (by simp at hl; simpa using hl)
          subst hz
          simp at h2
          rw [h2]
      · rw [if_neg h3, g2]
    · rw [if_neg h2] at hset2; cases hset2

theorem unchange_right {types : List TypeT} {e : EventT} (he : RightEv types e) (hk : 3 ≤ e.kind) (f : FieldT) (c : CellT) : RightEv types (unchangeE f c e) ∧ (unchangeE f c e).ty = e.ty ∧ (unchangeE f c e).id = e.id ∧ (unchangeE f c e).field = e.field ∧ 3 ≤ (unchangeE f c e).kind := by
  obtain ⟨⟨h1, h2⟩, h3, h4, h5⟩ := he
  obtain ⟨k, ty, i, fi, en, et⟩ := e
  simp only at h1 h2 h4 h5 hk
  have hk4 : k = 3 ∨ k = 4 ∨ k = 5 ∨ k = 6 := by omega
  rcases hk4 with rfl | rfl | rfl | rfl
  · simp [namedE] at h3
    subst h3
    simp [unchangeE]
    exact ⟨by simp, by simp [namedE], h4, h5⟩
  · simp [namedE] at h3
    subst h3
    simp [unchangeE]
    exact ⟨by simp, by simp [namedE], h4, h5⟩
  · simp [namedE] at h3
    subst h3
    by_cases hf : f.kind = 3
    · cases hi : c.ids with
      | nil =>
        simp [unchangeE, hf, hi]
        exact ⟨by simp, by simp [namedE], h4, h5⟩
      | cons z r =>
        simp [unchangeE, hf, hi]
        exact ⟨by simp, by simp [namedE], h4, h5⟩
    · simp [unchangeE, hf]
      exact ⟨by simp, by simp [namedE], h4, h5⟩
  · simp [namedE] at h3
    subst h3
    simp [unchangeE]
    exact ⟨by simp, by simp [namedE], h4, h5⟩

/-- what an event makes of the cell that it changes -/
def cellA (types : List TypeT) (things : List ThingT) (e : EventT) : Except Int CellT :=
  if isIx e.field (fieldsOf types e.ty).length = false then .error 5
  else if suitsE e.kind (getF (fieldsOf types e.ty) e.field).kind = false then .error 7
  else match setC types things (getF (fieldsOf types e.ty) e.field) e (getC (getT things (placeT things e.ty e.id)).cells e.field) with
    | .error m => .error m
    | .ok c => if wrongC (getF (fieldsOf types e.ty) e.field) c ≠ 0 then .error (wrongC (getF (fieldsOf types e.ty) e.field) c) else .ok c
def putC (things : List ThingT) (e : EventT) (c : CellT) : List ThingT := things.set (placeT things e.ty e.id) (withC (getT things (placeT things e.ty e.id)) e.field c)

theorem changeSt_cell (s : StateT) (e : EventT) : changeSt s e = match cellA s.types s.things e with | .error m => .error m | .ok c => .ok { s with things := putC s.things e c } := by
  unfold changeSt cellA
  split
  · rfl
  · split
    · rfl
    · split
      · rename_i h; rw [h]
      · rename_i h; rw [h]; simp only; split <;> rfl

theorem cellA_inv {types : List TypeT} {things : List ThingT} {e : EventT} {c : CellT} (h : cellA types things e = .ok c) :
    isIx e.field (fieldsOf types e.ty).length = true ∧ suitsE e.kind (getF (fieldsOf types e.ty) e.field).kind = true ∧ setC types things (getF (fieldsOf types e.ty) e.field) e (getC (getT things (placeT things e.ty e.id)).cells e.field) = .ok c ∧ wrongC (getF (fieldsOf types e.ty) e.field) c = 0 := by
  unfold cellA at h
  split at h
  · cases h
  · rename_i h1
    split at h
    · cases h
    · rename_i h2
      split at h
      · cases h
      · rename_i h3
        split at h
        · cases h
        · rename_i h4
          cases h
          exact ⟨by simpa using h1, by simpa using h2, h3, by simpa using h4⟩

theorem cell_facts {s : StateT} (h : Right s) {e : EventT} (hh : hasTh s.things e.ty e.id = true) (hix : isIx e.field (fieldsOf s.types e.ty).length = true) :
    wrongC (getF (fieldsOf s.types e.ty) e.field) (getC (getT s.things (placeT s.things e.ty e.id)).cells e.field) = 0 ∧
    (∀ x ∈ (getC (getT s.things (placeT s.things e.ty e.id)).cells e.field).ids, hasTh s.things (typeNo s.types (getF (fieldsOf s.types e.ty) e.field).of) x = true) ∧
    placeT s.things e.ty e.id < s.things.length ∧ (getT s.things (placeT s.things e.ty e.id)).ty = e.ty ∧ (getT s.things (placeT s.things e.ty e.id)).id = e.id ∧ e.field.toNat < (getT s.things (placeT s.things e.ty e.id)).cells.length := by
  obtain ⟨hk, k1, k2⟩ := place_has h.sorted hh
  have ok := h.each _ (List.getElem_mem hk)
  have hmn := h.meant _ (List.getElem_mem hk)
  rw [getT_at hk]
  simp only [isIx, Bool.and_eq_true, decide_eq_true_eq] at hix
  have hlt : e.field.toNat < (fieldsOf s.types e.ty).length := by omega
  have hcl : e.field.toNat < s.things[placeT s.things e.ty e.id].cells.length := by rw [ok.2.2.1, k1]; exact hlt
  have hf : getF (fieldsOf s.types e.ty) e.field = (fieldsOf s.types e.ty)[e.field.toNat] := by simp [getF, hlt]
  have hc : getC s.things[placeT s.things e.ty e.id].cells e.field = s.things[placeT s.things e.ty e.id].cells[e.field.toNat] := by simp [getC, hcl]
  have g1 : (fieldsOf s.types s.things[placeT s.things e.ty e.id].ty)[e.field.toNat]? = some (getF (fieldsOf s.types e.ty) e.field) := by rw [k1, hf]; exact List.getElem?_eq_getElem hlt
  have g2 : s.things[placeT s.things e.ty e.id].cells[e.field.toNat]? = some (getC s.things[placeT s.things e.ty e.id].cells e.field) := by rw [hc]; exact List.getElem?_eq_getElem hcl
  exact ⟨(eachC_iff _ _ _).1 ok.2.2.2 _ _ _ g1 g2, hmn _ _ _ g1 g2, hk, k1, k2, hcl⟩

theorem withC_withC (t : ThingT) (i : Int) (c d : CellT) : withC (withC t i c) i d = withC t i d := by simp [withC]
theorem withC_self {t : ThingT} {i : Int} (h : i.toNat < t.cells.length) : withC t i (getC t.cells i) = t := by
  simp [withC, getC, h]
theorem getC_withC {t : ThingT} {i : Int} (c : CellT) (h : i.toNat < t.cells.length) : getC (withC t i c).cells i = c := by
  simp [withC, getC, h]
theorem getC_other {t : ThingT} {i j : Int} (c : CellT) (h : i.toNat ≠ j.toNat) : getC (withC t i c).cells j = getC t.cells j := by
  simp [withC, getC, List.getElem?_set_ne h]
theorem withC_comm (t : ThingT) {i j : Int} (c d : CellT) (h : i.toNat ≠ j.toNat) : withC (withC t i c) j d = withC (withC t j d) i c := by
  simp only [withC]
  rw [List.set_comm _ _ h]
theorem getT_set_self {l : List ThingT} {k : Nat} (h : k < l.length) (t : ThingT) : getT (l.set k t) k = t := by simp [getT, h]
theorem getT_set_ne {l : List ThingT} {k j : Nat} (h : k ≠ j) (t : ThingT) : getT (l.set k t) j = getT l j := by simp [getT, List.getElem?_set_ne h]

/-- putting a cell leaves the keys -/
theorem put_has {s : StateT} (h : Right s) {e : EventT} (hh : hasTh s.things e.ty e.id = true) (c : CellT) : (∀ ty id, hasTh (putC s.things e c) ty id = hasTh s.things ty id) ∧ ∀ ty id, hasTh s.things ty id = true → placeT (putC s.things e c) ty id = placeT s.things ty id := by
  obtain ⟨hk, k1, k2⟩ := place_has h.sorted hh
  unfold putC
  rw [getT_at hk]
  exact ⟨fun ty id => hasTh_set (t' := withC s.things[placeT s.things e.ty e.id] e.field c) hk rfl rfl ty id, fun ty id hx => place_set (t' := withC s.things[placeT s.things e.ty e.id] e.field c) h.sorted hk rfl rfl hx⟩

theorem undo_change {s a : StateT} {e : EventT} (h : Right s) (he : RightEv s.types e) (h3 : 3 ≤ e.kind) (hh : hasTh s.things e.ty e.id = true) (hd : changeSt s e = .ok a) (hra : Right a) :
    doSt a (unchangeE (getF (fieldsOf s.types e.ty) e.field) (getC (getT s.things (placeT s.things e.ty e.id)).cells e.field) e) = .ok s := by
  rw [changeSt_cell] at hd
  cases hc : cellA s.types s.things e with
  | error m => rw [hc] at hd; cases hd
  | ok c' =>
    rw [hc] at hd
    simp only [Except.ok.injEq] at hd
    obtain ⟨i1, i2, i3, i4⟩ := cellA_inv hc
    obtain ⟨f1, f2, f3, f4, f5, f6⟩ := cell_facts h hh i1
    obtain ⟨p1, p2⟩ := put_has h hh c'
    have hpx := p2 _ _ hh
    obtain ⟨f, hf⟩ : ∃ f, getF (fieldsOf s.types e.ty) e.field = f := ⟨_, rfl⟩
    obtain ⟨t, ht⟩ : ∃ t, getT s.things (placeT s.things e.ty e.id) = t := ⟨_, rfl⟩
    obtain ⟨c, hcc⟩ : ∃ c, getC t.cells e.field = c := ⟨_, rfl⟩
    rw [ht] at i3 f1 f2 f4 f5 f6 ⊢
    rw [hf, hcc] at i3 f1 f2
    rw [hf] at i2 i4
    rw [hf, hcc]
    obtain ⟨b1, b2⟩ := setC_back ⟨h3, he.kind.2⟩ i2 i3 f1 f2
    obtain ⟨u1, u2, u3, u4, u5⟩ := unchange_right he h3 f c
    obtain ⟨u, hu⟩ : ∃ u, unchangeE f c e = u := ⟨_, rfl⟩
    rw [hu] at b1 b2 u1 u2 u3 u4 u5 ⊢
    subst hd
    rw [doSt_mk hra u1]
    have hhu : hasTh (putC s.things e c') u.ty u.id = true := by rw [p1, u2, u3]; exact hh
    have hgt : getT (putC s.things e c') (placeT s.things e.ty e.id) = withC t e.field c' := by unfold putC; rw [ht, getT_set_self f3]
    have hcu : cellA s.types (putC s.things e c') u = .ok c := by
      unfold cellA
      rw [u2, u3, u4, hpx, hgt, getC_withC _ f6, hf, if_neg (by rw [i1]; decide), if_neg (by rw [b2]; decide), setC_congr p1, b1]
      simp only
      rw [if_neg (by rw [f1]; decide)]
    have hpu : putC (putC s.things e c') u c = s.things := by
      have e1 : putC (putC s.things e c') u c = (putC s.things e c').set (placeT s.things e.ty e.id) (withC (withC t e.field c') e.field c) := by
        rw [putC, u2, u3, u4, hpx, hgt]
      rw [e1, withC_withC, ← hcc, withC_self f6, putC, List.set_set, ← ht, getT_at f3, List.set_getElem_self]
    unfold doIt
    simp only
    rw [if_neg (by omega), if_neg (by rw [hhu]; decide), if_neg (by omega), changeSt_cell]
    simp only
    rw [hcu]
    simp only
    rw [hpu]

/-- D4: what is done is undone -/
theorem undone {s a : StateT} {e u : EventT} (hd : doSt s e = .ok a) (hu : undoSt s e = .ok u) : doSt a u = .ok s := by
  obtain ⟨hra, _⟩ := do_right hd
  obtain ⟨h, he, hi⟩ := doSt_right hd
  unfold undoSt at hu
  rw [hd] at hu
  simp only at hu
  unfold doIt at hi
  by_cases k1 : e.kind = 1
  · rw [if_pos k1] at hi hu
    cases hu
    by_cases h1 : hasTh s.things e.ty e.id = true
    · rw [if_pos h1] at hi; cases hi
    · rw [if_neg h1] at hi
      by_cases h2 : 12 ≤ s.things.length
      · rw [if_pos h2] at hi; cases hi
      · rw [if_neg h2] at hi
        cases hi
        exact undo_make h he (by simpa using h1) (by omega)
  · rw [if_neg k1] at hi hu
    by_cases h1 : hasTh s.things e.ty e.id = true
    · rw [if_neg (by simp [h1])] at hi
      by_cases k2 : e.kind = 2
      · rw [if_pos k2] at hi hu
        by_cases h2 : eachT s.types (meansC (nameOf s.types e.ty) e.id) s.things = 0
        · rw [if_neg (not_not_intro h2)] at hi
          cases hi
          split at hu
          · cases hu
          · rename_i h3
            cases hu
            exact undo_drop h he h1 h2 (by simpa using h3)
        · rw [if_pos h2] at hi; cases hi
      · rw [if_neg k2] at hi hu
        cases hu
        exact undo_change h he (by have := he.kind; omega) h1 hi hra
    · rw [if_pos (by simpa using h1)] at hi; cases hi

/-- .. or it is a drop that can't be undone -/
theorem undo_err {s a : StateT} {e : EventT} {m : Int} (hd : doSt s e = .ok a) (hu : undoSt s e = .error m) : m = 4 ∧ e.kind = 2 := by
  unfold undoSt at hu
  rw [hd] at hu
  simp only at hu
  split at hu
  · cases hu
  · split at hu
    · split at hu
      · cases hu; exact ⟨rfl, by assumption⟩
      · cases hu
    · cases hu

/-- D2: an event of one thing leaves all others as they are -/
theorem others {s a : StateT} {e : EventT} (hd : doSt s e = .ok a) {t : ThingT} (ht : t ∈ s.things) (hn : ¬ (t.ty = e.ty ∧ t.id = e.id)) : t ∈ a.things := by
  obtain ⟨h, he, hi⟩ := doSt_right hd
  rcases doIt_inv h hi with ⟨_, h1, h2, rfl⟩ | ⟨_, h1, h2, rfl⟩ | ⟨_, _, _, f, c, c', hc, rfl⟩
  · exact (List.mem_insertIdx (placeT_le _ _ _)).2 (.inr ht)
  · obtain ⟨hk, k1, k2⟩ := place_has h.sorted h1
    rw [List.mem_eraseIdx_iff_getElem]
    obtain ⟨j, hj, rfl⟩ := List.getElem_of_mem ht
    refine ⟨j, hj, fun hx => ?_, rfl⟩
    subst hx
    exact hn ⟨k1, k2⟩
  · obtain ⟨j, hj, rfl⟩ := List.getElem_of_mem ht
    have hne : placeT s.things e.ty e.id ≠ j := fun hx => by
      subst hx
      exact hn ⟨hc.ty, hc.id⟩
    show s.things[j] ∈ s.things.set _ _
    have : (s.things.set (placeT s.things e.ty e.id) { s.things[placeT s.things e.ty e.id]'hc.lt with cells := (s.things[placeT s.things e.ty e.id]'hc.lt).cells.set e.field.toNat c' })[j]'(by simpa using hj) = s.things[j] := by rw [List.getElem_set_ne hne]
    rw [← this]
    exact List.getElem_mem _

theorem isIx_ne {i j : Int} {n m : Nat} (hi : isIx i n = true) (hj : isIx j m = true) (h : i ≠ j) : i.toNat ≠ j.toNat := by
  simp only [isIx, Bool.and_eq_true, decide_eq_true_eq] at hi hj
  omega

theorem place_inj {l : List ThingT} (h : sortT l) {t1 i1 t2 i2 : Int} (h1 : hasTh l t1 i1 = true) (h2 : hasTh l t2 i2 = true) (hp : placeT l t1 i1 = placeT l t2 i2) : t1 = t2 ∧ i1 = i2 := by
  obtain ⟨k1, a1, a2⟩ := place_has h h1
  obtain ⟨k2, b1, b2⟩ := place_has h h2
  simp only [hp] at a1 a2
  exact ⟨a1.symm.trans b1, a2.symm.trans b2⟩

theorem cellA_other {s : StateT} (h : Right s) {x y : EventT} (hx : hasTh s.things x.ty x.id = true) (hy : hasTh s.things y.ty y.id = true) (hix : isIx x.field (fieldsOf s.types x.ty).length = true) (hne : ¬ (x.ty = y.ty ∧ x.id = y.id ∧ x.field = y.field)) (c : CellT) :
    cellA s.types (putC s.things x c) y = cellA s.types s.things y := by
  obtain ⟨p1, p2⟩ := put_has h hx c
  obtain ⟨hk, k1, k2⟩ := place_has h.sorted hx
  unfold cellA
  by_cases hiy : isIx y.field (fieldsOf s.types y.ty).length = true
  · rw [p2 _ _ hy]
    have hg : getC (getT (putC s.things x c) (placeT s.things y.ty y.id)).cells y.field = getC (getT s.things (placeT s.things y.ty y.id)).cells y.field := by
      by_cases hp : placeT s.things x.ty x.id = placeT s.things y.ty y.id
      · obtain ⟨e1, e2⟩ := place_inj h.sorted hx hy hp
        have hf : x.field ≠ y.field := fun e3 => hne ⟨e1, e2, e3⟩
        rw [← hp]
        unfold putC
        rw [getT_set_self hk, getC_other _ (isIx_ne hix hiy hf)]
      · unfold putC
        rw [getT_set_ne hp]
    rw [hg, setC_congr p1]
  · have : isIx y.field (fieldsOf s.types y.ty).length = false := by simpa using hiy
    rw [if_pos this, if_pos this]

theorem putC_comm {s : StateT} (h : Right s) {x y : EventT} (hx : hasTh s.things x.ty x.id = true) (hy : hasTh s.things y.ty y.id = true) (hix : isIx x.field (fieldsOf s.types x.ty).length = true) (hiy : isIx y.field (fieldsOf s.types y.ty).length = true) (hne : ¬ (x.ty = y.ty ∧ x.id = y.id ∧ x.field = y.field)) (c d : CellT) :
    putC (putC s.things x c) y d = putC (putC s.things y d) x c := by
  obtain ⟨p1, p2⟩ := put_has h hx c
  obtain ⟨q1, q2⟩ := put_has h hy d
  obtain ⟨hk, _, _⟩ := place_has h.sorted hx
  obtain ⟨hl, _, _⟩ := place_has h.sorted hy
  have e1 : putC (putC s.things x c) y d = (putC s.things x c).set (placeT s.things y.ty y.id) (withC (getT (putC s.things x c) (placeT s.things y.ty y.id)) y.field d) := by rw [putC, p2 _ _ hy]
  have e2 : putC (putC s.things y d) x c = (putC s.things y d).set (placeT s.things x.ty x.id) (withC (getT (putC s.things y d) (placeT s.things x.ty x.id)) x.field c) := by rw [putC, q2 _ _ hx]
  rw [e1, e2]
  unfold putC
  by_cases hp : placeT s.things x.ty x.id = placeT s.things y.ty y.id
  · obtain ⟨g1, g2⟩ := place_inj h.sorted hx hy hp
    have hf : x.field ≠ y.field := fun e3 => hne ⟨g1, g2, e3⟩
    rw [← hp, getT_set_self hk, getT_set_self hk, List.set_set, List.set_set, withC_comm _ _ _ (isIx_ne hix hiy hf)]
  · rw [getT_set_ne hp, getT_set_ne (Ne.symm hp), List.set_comm _ _ hp]

/-- D2: two events of two fields may come in either order -/
theorem either {s a : StateT} {x y : EventT} (hd : doSt s x = .ok a) (hx3 : 3 ≤ x.kind) (hy3 : 3 ≤ y.kind) (hne : ¬ (x.ty = y.ty ∧ x.id = y.id ∧ x.field = y.field)) :
    match doSt s y with
    | .error m => doSt a y = .error m
    | .ok c => ∃ b, doSt a y = .ok b ∧ doSt c x = .ok b := by
  obtain ⟨hra, hta⟩ := do_right hd
  obtain ⟨h, he, hi⟩ := doSt_right hd
  by_cases hy : RightEv s.types y
  rotate_left
  · have hw : wrongEv s.types y ≠ 0 := fun h0 => hy ((wrongEv_iff _ _).1 h0)
    have h1 : doSt s y = .error (wrongEv s.types y) := by
      unfold doSt
      rw [if_neg (not_not_intro ((checkSt_iff s).2 h)), if_pos hw]
    have h2 : doSt a y = .error (wrongEv s.types y) := by
      unfold doSt
      rw [if_neg (not_not_intro ((checkSt_iff a).2 hra)), hta, if_pos hw]
    rw [h1]
    exact h2
  have hya : RightEv a.types y := by rw [hta]; exact hy
  have hxh : hasTh s.things x.ty x.id = true := by
    unfold doIt at hi
    rw [if_neg (by omega)] at hi
    by_cases hh : hasTh s.things x.ty x.id = true
    · exact hh
    · rw [if_pos (by simpa using hh)] at hi; cases hi
  have hix : changeSt s x = .ok a := by
    unfold doIt at hi
    rwa [if_neg (by omega), if_neg (by rw [hxh]; decide), if_neg (by omega)] at hi
  rw [changeSt_cell] at hix
  cases hcx : cellA s.types s.things x with
  | error m => rw [hcx] at hix; cases hix
  | ok cx =>
    rw [hcx] at hix
    simp only [Except.ok.injEq] at hix
    obtain ⟨i1, _⟩ := cellA_inv hcx
    obtain ⟨p1, p2⟩ := put_has h hxh cx
    have hay : ∀ z : StateT, Right z → RightEv z.types y → doSt z y = if hasTh z.things y.ty y.id = false then .error 5 else match cellA z.types z.things y with | .error m => .error m | .ok c => .ok { z with things := putC z.things y c } := by
      intro z hz hzy
      rw [doSt_mk hz hzy]
      unfold doIt
      rw [if_neg (by omega)]
      split
      · rfl
      · rw [if_neg (by omega), changeSt_cell]
    rw [hay s h hy, hay a hra hya]
    subst hix
    simp only at hra hya ⊢
    rw [p1]
    by_cases hyh : hasTh s.things y.ty y.id = true
    · rw [if_neg (by rw [hyh]; decide), if_neg (by rw [hyh]; decide), cellA_other h hxh hyh i1 hne]
      cases hcy : cellA s.types s.things y with
      | error m => rfl
      | ok cy =>
        obtain ⟨j1, _⟩ := cellA_inv hcy
        simp only
        refine ⟨_, rfl, ?_⟩
        have hdy : doSt s y = .ok { s with things := putC s.things y cy } := by
          rw [hay s h hy, if_neg (by rw [hyh]; decide), hcy]
        obtain ⟨hrc, _⟩ := do_right hdy
        obtain ⟨q1, q2⟩ := put_has h hyh cy
        rw [doSt_mk hrc he]
        unfold doIt
        rw [if_neg (by omega), if_neg (by show ¬ hasTh (putC s.things y cy) x.ty x.id = false; rw [q1, hxh]; decide), if_neg (by omega), changeSt_cell]
        simp only
        rw [cellA_other h hyh hxh j1 (fun hz => hne ⟨hz.1.symm, hz.2.1.symm, hz.2.2.symm⟩), hcx]
        simp only
        rw [putC_comm h hxh hyh i1 j1 hne]
    · rw [if_pos (by simpa using hyh), if_pos (by simpa using hyh)]

end Go.Proofs.YtidodjbmlbjchaaGreat
