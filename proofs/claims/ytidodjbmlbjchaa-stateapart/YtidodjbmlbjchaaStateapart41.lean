import Derived.Test.YtidodjbmlbjchaaStateapart40
import Derived.Test.YtidodjbmlbjchaaStateapart28
/- state.undrop: its walk. -/
namespace Go.Proofs.Ytidodjbmlbjchaa
open Go.RowKit

abbrev ev0 : EventT := ⟨0, 0, 0, 0, 0, []⟩

theorem cells6e {w : World} {g : Nat} {a0 a1 a2 a3 a4 a5 : Value} {t : TypeId} (h : w.heap[g]? = some (.cells #[a0, a1, a2, a3, a4, a5] t (0, 0))) :
    w.cell? ⟨g, 0, none⟩ = some a0 ∧ w.cell? ⟨g, 1, none⟩ = some a1 ∧ w.cell? ⟨g, 2, none⟩ = some a2 ∧ w.cell? ⟨g, 3, none⟩ = some a3 ∧ w.cell? ⟨g, 4, none⟩ = some a4 ∧ w.cell? ⟨g, 5, none⟩ = some a5 ∧ ∀ o, w.frozen? ⟨g, o, none⟩ = false := by
  simp [World.cell?, World.frozen?, h]
theorem put6e {w : World} {g : Nat} {a0 a1 a2 a3 a4 a5 : Value} {t : TypeId} (h : w.heap[g]? = some (.cells #[a0, a1, a2, a3, a4, a5] t (0, 0))) (b0 b1 b2 b3 b4 b5 : Value) :
    ((((((w.setCell ⟨g, 0, none⟩ b0).setCell ⟨g, 1, none⟩ b1).setCell ⟨g, 2, none⟩ b2).setCell ⟨g, 3, none⟩ b3).setCell ⟨g, 4, none⟩ b4).setCell ⟨g, 5, none⟩ b5).heap[g]? = some (.cells #[b0, b1, b2, b3, b4, b5] t (0, 0)) ∧
    Kept (· = g) w ((((((w.setCell ⟨g, 0, none⟩ b0).setCell ⟨g, 1, none⟩ b1).setCell ⟨g, 2, none⟩ b2).setCell ⟨g, 3, none⟩ b3).setCell ⟨g, 4, none⟩ b4).setCell ⟨g, 5, none⟩ b5) :=
  ⟨by simp [World.setCell, Array.getElem?_modify, h], ((((((Kept.refl (· = g) w).setB 0 b0).setB 1 b1).setB 2 b2).setB 3 b3).setB 4 b4).setB 5 b5⟩

/-- what undrop and Undo answer -/
def unA (w w' : World) (r : Ending) (x : Except Int EventT) : Prop :=
  Same w w' ∧ match x with
  | .error m => r = .returned (.tuple #[evV ev0, .int .i64 m])
  | .ok u => r = .returned (.tuple #[evV u, .int .i64 0])

def undropE (types : List TypeT) (t : ThingT) : Except Int EventT := if eachC firstC (fieldsOf types t.ty) t.cells ≠ 0 then .error 4 else .ok ⟨1, t.ty, t.id, 0, 0, []⟩

theorem cell_lt {w : World} {p : Addr} {v : Value} (h : w.cell? p = some v) : p.block < w.heap.size := by
  rcases Nat.lt_or_ge p.block w.heap.size with h1 | h1
  · exact h1
  · simp [World.cell?, Array.getElem?_eq_none h1] at h

theorem eachC_first : ∀ {fs : List FieldT} {cs : List CellT}, eachC firstC fs cs ≠ 0 → eachC firstC fs cs = 4
  | f :: fs, c :: cs, h => by
    unfold eachC at h ⊢
    by_cases h0 : firstC f c ≠ 0
    · rw [if_pos h0]
      unfold firstC at h0 ⊢
      split
      · rfl
      · rename_i h1; rw [if_neg h1] at h0; exact absurd rfl h0
    · rw [if_neg h0] at h ⊢
      exact eachC_first h
  | [], _, h => absurd (by unfold eachC; rfl) h
  | _ :: _, [], h => absurd (by unfold eachC; rfl) h

set_option maxRecDepth 20000 in
set_option maxHeartbeats 1600000 in
theorem undrop_any (w : World) (vt vh : Value) (types : List TypeT) (l : List ThingT) (i : Nat) (ht : TypSl anyB w vt types) (hh : ThgSl anyB w vh l) (hi : i < l.length) (hi8 : l.length ≤ 1000) (hfit : fitTh types l[i]) :
    Calls Try.prog 20 #[stV vt vh, .int .i64 i] w fun r w' => unA w w' r (undropE types l[i]) := by
  obtain ⟨at', ct, rfl, _, _⟩ := id ht
  obtain ⟨ah, ch, rfl, ⟨_, hcap⟩, _⟩ := id hh
  obtain ⟨b, off, ac, nc, cc, rfl, _, t0, t1, hu2, hu3, hu4⟩ := hh.at i hi
  obtain ⟨W, hW⟩ : ∃ W, W = (w.alloc (.cells #[.slice at' types.length ct, .slice (some ⟨b, off, none⟩) l.length ch] 25)).alloc (.cells #[.int .i64 0, .int .i64 0, .int .i64 0, .int .i64 0, .int .i64 0, .string ⟨#[]⟩] 27) := ⟨_, rfl⟩
  obtain ⟨gs, hgs⟩ : ∃ g, g = w.heap.size := ⟨_, rfl⟩
  obtain ⟨gr, hgr⟩ : ∃ g, g = w.heap.size + 1 := ⟨_, rfl⟩
  have HKW := hide (show Same w W by rw [hW]; exact ((Kept.refl _ w).alloc _).alloc _)
  have hGS : W.heap[gs]? = some (.cells #[.slice at' types.length ct, .slice (some ⟨b, off, none⟩) l.length ch] 25 (0, 0)) := by rw [hW, hgs]; exact al_o _ _ _
  have HGR := hide (show W.heap[gr]? = some (.cells #[.int .i64 0, .int .i64 0, .int .i64 0, .int .i64 0, .int .i64 0, .string ⟨#[]⟩] 27 (0, 0)) by rw [hW, hgr]; exact al_n _ _ _)
  have hbw : b < w.heap.size := cell_lt t0
  have HLT := hide (show w.heap.size ≤ gr by omega)
  have HNE := hide (show gr ≠ gs ∧ gs ≠ gr ∧ gr ≠ b ∧ b ≠ gr by omega)
  obtain ⟨c0, c1⟩ := blk2' hGS
  have HALL := hide (fun wy (hy : Same W wy) => (⟨hy.cell c0 (fun f => f), hy.cell c1 (fun f => f), (tra HKW.out hy).cell t0 (fun f => f), (tra HKW.out hy).cell t1 (fun f => f)⟩ : wy.cell? ⟨gs, 0, none⟩ = _ ∧ wy.cell? ⟨gs, 1, none⟩ = _ ∧ wy.cell? ⟨b, off + i * 3, none⟩ = _ ∧ wy.cell? ⟨b, off + i * 3 + 1, none⟩ = _))
  have HEC := hide (fun wy (hy : Same W wy) => eachCell_any wy _ _ types [l[i]] 39 #[] firstC (by intro args w; kernel_rfl) (ht.same (tra HKW.out hy)) ((hh.one i hi (ch - i) (by omega)).same (tra HKW.out hy)) (fun u hu => by simp at hu; subst hu; exact hfit) (undropAsk_any wy))
  obtain ⟨i1, hi1⟩ : ∃ i1, i1 = i + 1 := ⟨_, rfl⟩
  have hwr : IntKind.i64.wrap ((i : Int) + 1) = (i1 : Int) := by rw [IntKind.wrap_i64]; omega
  have hj0 : (0 : Int) ≤ (i1 : Int) := by omega
  have hj1 : (i1 : Int) ≤ (ch : Int) := by omega
  have hj2 : (i : Int) ≤ (i1 : Int) := by omega
  have hj3 : (i : Int) < (l.length : Int) := by omega
  have hj4 : i1 - i = 1 := by omega
  have hj5 : ¬ ch = i := by omega
  have HU := hide (show undropE types l[i] = if eachC firstC (fieldsOf types l[i].ty) l[i].cells ≠ 0 then .error 4 else .ok ⟨1, l[i].ty, l[i].id, 0, 0, []⟩ from rfl)
  have H4 := hide (fun (h : eachC firstC (fieldsOf types l[i].ty) l[i].cells ≠ 0) => eachC_first h)
  obtain ⟨x, hx⟩ : ∃ x, undropE types l[i] = x := ⟨_, rfl⟩
  obtain ⟨m, hm⟩ : ∃ m, eachC firstC (fieldsOf types l[i].ty) l[i].cells = m := ⟨_, rfl⟩
  rw [eachT_one] at HEC
  rw [hm] at HEC HU H4
  rw [hx] at HU ⊢
  obtain ⟨t, het⟩ : ∃ t, l[i] = t := ⟨_, rfl⟩
  rw [het] at HU HALL
  clear hbw hx hm het hfit ht hh t0 t1 hGS hcap c0 c1 hu2 hu3 hu4
  go_enter Try.func20, Try.ntmps20
  go_upto_region 1 with fail
  rw [← hW, ← hgr, ← hgs]
  clear hW hgr hgs hi1 hi8
  obtain ⟨c0, c1, t0, t1⟩ := HALL.out W (Kept.refl _ _)
  go_region_held3 (fun w' => w'.cell? ⟨gs, 0, none⟩ = some (.slice at' types.length ct) ∧ w'.cell? ⟨gs, 1, none⟩ = some (.slice (some ⟨b, off, none⟩) l.length ch)) (go_keep)
    ((go_at_call 33; refine (HEC.out _ (by exact (by repeat' (first | assumption | exact Kept.refl _ _ | refine Kept.drewN ?_ _ | refine Kept.drew ?_ | refine Kept.alloc ?_ _ | refine Kept.setB ?_ _ _)))).mono ?_; rintro r9 w3 ⟨rfl, hK3⟩; have u0 := hK3.cell (p := ⟨gs, 0, none⟩) (by exact c0) (fun f => f); have u1 := hK3.cell (p := ⟨gs, 1, none⟩) (by exact c1) (fun f => f)))
  have HK3 := hide (show Same W w3 from hK3.unD)
  have hR := blk_kept HGR.out HK3.out (fun f => f)
  have HR3 := hide hR
  obtain ⟨p0, p1, p2, p3, p4, p5, pf⟩ := cells6e hR
  clear hK3 u0 u1 c0 c1 t0 t1 hR
  by_cases h1 : m = 0
  rotate_left
  · obtain ⟨q, hKg⟩ := put6e HR3.out (.int .i64 0) (.int .i64 0) (.int .i64 0) (.int .i64 0) (.int .i64 0) (.string ⟨#[]⟩)
    obtain ⟨q0, q1, q2, q3, q4, q5, _⟩ := cells6e q
    have hqb : (m != 0) = true := by simp [h1]
    have hlt := HLT.out
    have HF := hide (show unA w _ (.returned (.tuple #[evV ev0, .int .i64 m])) x from ⟨(tra HKW.out HK3.out).trans hKg (fun i hi e => by omega), by rw [HU.out, if_pos h1]; rw [H4.out h1]⟩)
    clear h1 hKg q hlt
    go_wp2_with fail
    exact bodyPost_ret (v := .tuple #[evV ev0, .int .i64 m]) (by simp [results, Try.results20, go_sem, q0, q1, q2, q3, q4, q5]) rfl HF.out
  obtain ⟨q, hKg⟩ := put6e HR3.out (.int .i64 1) (.int .i64 t.ty) (.int .i64 t.id) (.int .i64 0) (.int .i64 0) (.string ⟨#[]⟩)
  obtain ⟨q0, q1, q2, q3, q4, q5, _⟩ := cells6e q
  have hlt := HLT.out
  have HF := hide (show unA w _ (.returned (.tuple #[evV ⟨1, t.ty, t.id, 0, 0, []⟩, .int .i64 0])) x from ⟨(tra HKW.out HK3.out).trans hKg (fun i hi e => by omega), by rw [HU.out, if_neg (not_not_intro h1)]⟩)
  subst h1
  clear hKg q hlt
  obtain ⟨c0, c1, t0, t1⟩ := HALL.out w3 HK3.out
  obtain ⟨n1, n2, n3, n4⟩ := HNE.out
  go_upto_region 4 with fail
  go_region_held3 (fun w' => w'.cell? ⟨gs, 1, none⟩ = some (.slice (some ⟨b, off, none⟩) l.length ch) ∧ w'.cell? ⟨b, off + i * 3, none⟩ = some (.int .i64 t.ty) ∧ w'.cell? ⟨b, off + i * 3 + 1, none⟩ = some (.int .i64 t.id)) (go_keep) (fail)
  go_wp2_with fail
  exact bodyPost_ret (v := .tuple #[evV ⟨1, t.ty, t.id, 0, 0, []⟩, .int .i64 0]) (by simp [results, Try.results20, go_sem, q0, q1, q2, q3, q4, q5]) rfl ⟨by exact HF.out.1.drew, HF.out.2⟩

end Go.Proofs.Ytidodjbmlbjchaa

/- States and events, in plain Lean: what is done is undone. -/
namespace Go.Proofs.Ytidodjbmlbjchaa

theorem er_in {α : Type} (x : α) : ∀ (l : List α) (p : Nat), (l.insertIdx p x).eraseIdx p = l
  | [], 0 => rfl
  | [], _ + 1 => rfl
  | _ :: _, 0 => rfl
  | y :: l, p + 1 => by simp [er_in x l p]
theorem in_er {α : Type} : ∀ (l : List α) (p : Nat) (h : p < l.length), (l.eraseIdx p).insertIdx p l[p] = l
  | [], _, h => absurd h (by simp)
  | _ :: _, 0, _ => rfl
  | y :: l, p + 1, h => by simp [in_er l p (by simpa using h)]

theorem place_is {l : List ThingT} {ty ix : Int} {a : Nat} (hl : a ≤ l.length) (h1 : ∀ k (hk : k < l.length), k < a → aheadK l[k] ty ix = true) (h2 : ∀ hk : a < l.length, aheadK l[a] ty ix = false) : placeT l ty ix = a := by
  have hle := placeT_le l ty ix
  rcases Nat.lt_trichotomy (placeT l ty ix) a with hc | hc | hc
  · have g := placeT_at (l := l) (ty := ty) (id := ix) (by omega)
    rw [h1 _ (by omega) hc] at g
    cases g
  · exact hc
  · have g := placeT_lt (l := l) (ty := ty) (id := ix) hc (by omega)
    rw [h2 (by omega)] at g
    cases g

theorem meant_not {s : StateT} (h : Right s) {ty id : Int} (hix : isIx ty s.types.length = true) (hn : hasTh s.things ty id = false) : ∀ t ∈ s.things, eachC (meansC (nameOf s.types ty) id) (fieldsOf s.types t.ty) t.cells = 0 := by
  intro t ht
  refine (eachC_iff _ _ _).2 fun i f c hf hc => (meansC_iff _ _ _ _).2 fun hx => ?_
  have g := h.meant t ht i f c hf hc id hx.2
  rw [hx.1, name_typeNo h.names hix, hn] at g
  cases g

theorem undo_make {s : StateT} {e : EventT} (h : Right s) (he : RightEv s.types e) (hn : hasTh s.things e.ty e.id = false) (hl : s.things.length < 12) :
    doSt { s with things := s.things.insertIdx (placeT s.things e.ty e.id) (newTh s.types e) } ⟨2, e.ty, e.id, 0, 0, []⟩ = .ok s := by
  have hr := right_make h he hn hl
  obtain ⟨p, hp⟩ : ∃ p, placeT s.things e.ty e.id = p := ⟨_, rfl⟩
  have hpl : p ≤ s.things.length := by rw [← hp]; exact placeT_le _ _ _
  rw [hp] at hr ⊢
  have he2 : RightEv s.types ⟨2, e.ty, e.id, 0, 0, []⟩ := ⟨by simp, by simp [namedE], he.ty, he.id⟩
  rw [doSt_mk hr he2]
  have hlen : p < (s.things.insertIdx p (newTh s.types e)).length := by rw [List.length_insertIdx, if_pos hpl]; omega
  have hg : (s.things.insertIdx p (newTh s.types e))[p] = newTh s.types e := by rw [List.getElem_insertIdx_self]
  have hpx : placeT (s.things.insertIdx p (newTh s.types e)) e.ty e.id = p := place_ix hr.sorted hlen (by rw [hg]; rfl) (by rw [hg]; rfl)
  have hmem : newTh s.types e ∈ s.things.insertIdx p (newTh s.types e) := (List.mem_insertIdx hpl).2 (.inl rfl)
  have hh : hasTh (s.things.insertIdx p (newTh s.types e)) e.ty e.id = true := (hasTh_iff _ _ _).2 ⟨_, hmem, rfl, rfl⟩
  have hm : eachT s.types (meansC (nameOf s.types e.ty) e.id) (s.things.insertIdx p (newTh s.types e)) = 0 := by
    refine (eachT_iff _ _ _).2 fun t ht => ?_
    rcases (List.mem_insertIdx hpl).1 ht with rfl | ht
    · refine (eachC_iff _ _ _).2 fun i f c _ hc => (meansC_iff _ _ _ _).2 fun hx => ?_
      simp only [newTh, List.getElem?_replicate] at hc
      split at hc
      · cases hc; simp [cell0] at hx
      · cases hc
    · exact meant_not h he.ty hn t ht
  unfold doIt
  simp only
  rw [if_neg (by decide), if_neg (by rw [hh]; decide), if_pos trivial, if_neg (by rw [hm]; decide), hpx, er_in]

theorem first_cells {fs : List FieldT} : ∀ {cs : List CellT}, cs.length = fs.length → eachC firstC fs cs = 0 → cs = List.replicate fs.length cell0 := by
  intro cs hl h
  refine List.ext_getElem (by simpa using hl) fun i h1 h2 => ?_
  have h3 : i < fs.length := by omega
  have g := (eachC_iff _ _ _).1 h i fs[i] cs[i] (List.getElem?_eq_getElem h3) (List.getElem?_eq_getElem h1)
  rw [List.getElem_replicate]
  generalize cs[i] = c at g
  obtain ⟨n, t, l⟩ := c
  unfold firstC at g
  simp only at g
  split at g
  · cases g
  · rename_i hx
    simp only [ne_eq, not_or, Decidable.not_not] at hx
    obtain ⟨rfl, rfl, rfl⟩ := hx
    rfl

theorem undo_drop {s : StateT} {e : EventT} (h : Right s) (he : RightEv s.types e) (hh : hasTh s.things e.ty e.id = true) (hm : eachT s.types (meansC (nameOf s.types e.ty) e.id) s.things = 0)
    (hf : eachC firstC (fieldsOf s.types (getT s.things (placeT s.things e.ty e.id)).ty) (getT s.things (placeT s.things e.ty e.id)).cells = 0) :
    doSt { s with things := s.things.eraseIdx (placeT s.things e.ty e.id) } ⟨1, (getT s.things (placeT s.things e.ty e.id)).ty, (getT s.things (placeT s.things e.ty e.id)).id, 0, 0, []⟩ = .ok s := by
  have hr := right_drop h he hh hm
  obtain ⟨hk, k1, k2⟩ := place_has h.sorted hh
  obtain ⟨p, hp⟩ : ∃ p, placeT s.things e.ty e.id = p := ⟨_, rfl⟩
  simp only [hp] at hr hf hk k1 k2 ⊢
  rw [getT_at hk] at hf ⊢
  rw [k1] at hf
  rw [k1, k2]
  have ok := h.each _ (List.getElem_mem hk)
  have hc := first_cells (by rw [ok.2.2.1, k1]) hf
  have he2 : RightEv s.types ⟨1, e.ty, e.id, 0, 0, []⟩ := ⟨by simp, by simp [namedE], he.ty, he.id⟩
  rw [doSt_mk hr he2]
  have hlen := h.few
  have hle : (s.things.eraseIdx p).length = s.things.length - 1 := List.length_eraseIdx_of_lt hk
  have hno : hasTh (s.things.eraseIdx p) e.ty e.id = false := by
    refine (hasTh_not _ _ _).2 fun t ht hx => ?_
    rw [List.mem_eraseIdx_iff_getElem] at ht
    obtain ⟨j, hj, hjp, rfl⟩ := ht
    exact hjp (key_inj h.sorted hj hk (by rw [hx.1, k1]) (by rw [hx.2, k2]))
  have hpx : placeT (s.things.eraseIdx p) e.ty e.id = p := by
    refine place_is (by omega) (fun k hk2 hkp => ?_) (fun hk2 => ?_)
    · rw [List.getElem_eraseIdx_of_lt _ hkp]
      exact placeT_lt (by rw [hp]; exact hkp) (by omega)
    · rw [List.getElem_eraseIdx_of_ge _ (Nat.le_refl _)]
      have g := sort_get h.sorted (show p < p + 1 by omega) (by omega)
      rw [aheadT, aheadK_iff] at g
      rw [aheadK_not]
      rw [k1, k2] at g
      omega
  have hnew : newTh s.types ⟨1, e.ty, e.id, 0, 0, []⟩ = s.things[p] := by
    unfold newTh
    rw [← hc]
    generalize s.things[p] = t at k1 k2
    obtain ⟨a, b, c⟩ := t
    simp only at k1 k2
    rw [← k1, ← k2]
  unfold doIt
  simp only
  rw [if_pos trivial, if_neg (by rw [hno]; decide), if_neg (by omega), hpx, hnew, in_er]

end Go.Proofs.Ytidodjbmlbjchaa
