/- States and events, in plain Lean: what is done is undone. -/
import Derived.Test.YtidodjbmlbjchaaGreatHistorystaysupto08
namespace Go.Proofs.YtidodjbmlbjchaaGreat

theorem er_in {α : Type} (x : α) : ∀ (l : List α) (p : Nat), (l.insertIdx p x).eraseIdx p = l
  | [], 0 => rfl
  | [], _ + 1 => rfl
  | _ :: _, 0 => rfl
  | y :: l, p + 1 => by simp [er_in x l p]
theorem in_er {α : Type} : ∀ (l : List α) (p : Nat) (h : p < l.length), (l.eraseIdx p).insertIdx p l[p] = l
  | [], _, h => absurd h (by simp)
  | _ :: _, 0, _ => rfl
  | y :: l, p + 1, h => by simp [in_er l p (by simpa using h)]

theorem place_is {l : List ThingT} {ty ix : Int} {a : Nat} (hl : a ≤ l.length) (h1 : ∀ k (hk : k < l.length), k < a → aheadK l[k] ty ix = true) (h2 : ∀ hk : a < l.length, aheadK l[a] ty ix = false) : placeT l ty ix = a := by
  have hle := placeT_le l ty ix
  rcases Nat.lt_trichotomy (placeT l ty ix) a with hc | hc | hc
  · have g := placeT_at (l := l) (ty := ty) (id := ix) (by omega)
    rw [h1 _ (by omega) hc] at g
    cases g
  · exact hc
  · have g := placeT_lt (l := l) (ty := ty) (id := ix) hc (by omega)
    rw [h2 (by omega)] at g
    cases g

theorem meant_not {s : StateT} (h : Right s) {ty id : Int} (hix : isIx ty s.types.length = true) (hn : hasTh s.things ty id = false) : ∀ t ∈ s.things, eachC (meansC (nameOf s.types ty) id) (fieldsOf s.types t.ty) t.cells = 0 := by
  intro t ht
  refine (eachC_iff _ _ _).2 fun i f c hf hc => (meansC_iff _ _ _ _).2 fun hx => ?_
  have g := h.meant t ht i f c hf hc id hx.2
  rw [hx.1, name_typeNo h.names hix, hn] at g
  cases g

theorem undo_make {s : StateT} {e : EventT} (h : Right s) (he : RightEv s.types e) (hn : hasTh s.things e.ty e.id = false) (hl : s.things.length < 12) :
    doSt { s with things := s.things.insertIdx (placeT s.things e.ty e.id) (newTh s.types e) } ⟨2, e.ty, e.id, 0, 0, []⟩ = .ok s := by
  have hr := right_make h he hn hl
  obtain ⟨p, hp⟩ : ∃ p, placeT s.things e.ty e.id = p := ⟨_, rfl⟩
  have hpl : p ≤ s.things.length := by rw [← hp]; exact placeT_le _ _ _
  rw [hp] at hr ⊢
  have he2 : RightEv s.types ⟨2, e.ty, e.id, 0, 0, []⟩ := ⟨by simp, by simp [namedE], he.ty, he.id⟩
  rw [doSt_mk hr he2]
  have hlen : p < (s.things.insertIdx p (newTh s.types e)).length := by rw [List.length_insertIdx, if_pos hpl]; omega
  have hg : (s.things.insertIdx p (newTh s.types e))[p] = newTh s.types e := by rw [List.getElem_insertIdx_self]
  have hpx : placeT (s.things.insertIdx p (newTh s.types e)) e.ty e.id = p := place_ix hr.sorted hlen (by rw [hg]; rfl) (by rw [hg]; rfl)
  have hmem : newTh s.types e ∈ s.things.insertIdx p (newTh s.types e) := (List.mem_insertIdx hpl).2 (.inl rfl)
  have hh : hasTh (s.things.insertIdx p (newTh s.types e)) e.ty e.id = true := (hasTh_iff _ _ _).2 ⟨_, hmem, rfl, rfl⟩
  have hm : eachT s.types (meansC (nameOf s.types e.ty) e.id) (s.things.insertIdx p (newTh s.types e)) = 0 := by
    refine (eachT_iff _ _ _).2 fun t ht => ?_
    rcases (List.mem_insertIdx hpl).1 ht with rfl | ht
    · refine (eachC_iff _ _ _).2 fun i f c _ hc => (meansC_iff _ _ _ _).2 fun hx => ?_
      simp only [newTh, List.getElem?_replicate] at hc
      split at hc
      · cases hc; simp [cell0] at hx
      · cases hc
    · exact meant_not h he.ty hn t ht
  unfold doIt
  simp only
  rw [if_neg (by decide), if_neg (by rw [hh]; decide), if_pos trivial, if_neg (by rw [hm]; decide), hpx, er_in]

theorem first_cells {fs : List FieldT} : ∀ {cs : List CellT}, cs.length = fs.length → eachC firstC fs cs = 0 → cs = List.replicate fs.length cell0 := by
  intro cs hl h
  refine List.ext_getElem (by simpa using hl) fun i h1 h2 => ?_
  have h3 : i < fs.length := by omega
  have g := (eachC_iff _ _ _).1 h i fs[i] cs[i] (List.getElem?_eq_getElem h3) (List.getElem?_eq_getElem h1)
  rw [List.getElem_replicate]
  generalize cs[i] = c at g
  obtain ⟨n, t, l⟩ := c
  unfold firstC at g
  simp only at g
  split at g
  · cases g
  · rename_i hx
    simp only [ne_eq, not_or, Decidable.not_not] at hx
    obtain ⟨rfl, rfl, rfl⟩ := hx
    rfl

theorem undo_drop {s : StateT} {e : EventT} (h : Right s) (he : RightEv s.types e) (hh : hasTh s.things e.ty e.id = true) (hm : eachT s.types (meansC (nameOf s.types e.ty) e.id) s.things = 0)
    (hf : eachC firstC (fieldsOf s.types (getT s.things (placeT s.things e.ty e.id)).ty) (getT s.things (placeT s.things e.ty e.id)).cells = 0) :
    doSt { s with things := s.things.eraseIdx (placeT s.things e.ty e.id) } ⟨1, (getT s.things (placeT s.things e.ty e.id)).ty, (getT s.things (placeT s.things e.ty e.id)).id, 0, 0, []⟩ = .ok s := by
  have hr := right_drop h he hh hm
  obtain ⟨hk, k1, k2⟩ := place_has h.sorted hh
  obtain ⟨p, hp⟩ : ∃ p, placeT s.things e.ty e.id = p := ⟨_, rfl⟩
  simp only [hp] at hr hf hk k1 k2 ⊢
  rw [getT_at hk] at hf ⊢
  rw [k1] at hf
  rw [k1, k2]
  have ok := h.each _ (List.getElem_mem hk)
  have hc := first_cells (by rw [ok.2.2.1, k1]) hf
  have he2 : RightEv s.types ⟨1, e.ty, e.id, 0, 0, []⟩ := ⟨by simp, by simp [namedE], he.ty, he.id⟩
  rw [doSt_mk hr he2]
  have hlen := h.few
  have hle : (s.things.eraseIdx p).length = s.things.length - 1 := List.length_eraseIdx_of_lt hk
  have hno : hasTh (s.things.eraseIdx p) e.ty e.id = false := by
    refine (hasTh_not _ _ _).2 fun t ht hx => ?_
    rw [List.mem_eraseIdx_iff_getElem] at ht
    obtain ⟨j, hj, hjp, rfl⟩ := ht
    exact hjp (key_inj h.sorted hj hk (by rw [hx.1, k1]) (by rw [hx.2, k2]))
  have hpx : placeT (s.things.eraseIdx p) e.ty e.id = p := by
    refine place_is (by omega) (fun k hk2 hkp => ?_) (fun hk2 => ?_)
    · rw [List.getElem_eraseIdx_of_lt _ hkp]
      exact placeT_lt (by rw [hp]; exact hkp) (by omega)
    · rw [List.getElem_eraseIdx_of_ge _ (Nat.le_refl _)]
      have g := sort_get h.sorted (show p < p + 1 by omega) (by omega)
      rw [aheadT, aheadK_iff] at g
      rw [aheadK_not]
      rw [k1, k2] at g
      omega
  have hnew : newTh s.types ⟨1, e.ty, e.id, 0, 0, []⟩ = s.things[p] := by
    unfold newTh
    rw [← hc]
    generalize s.things[p] = t at k1 k2
    obtain ⟨a, b, c⟩ := t
    simp only at k1 k2
    rw [← k1, ← k2]
  unfold doIt
  simp only
  rw [if_pos trivial, if_neg (by rw [hno]; decide), if_neg (by omega), hpx, hnew, in_er]

end Go.Proofs.YtidodjbmlbjchaaGreat
