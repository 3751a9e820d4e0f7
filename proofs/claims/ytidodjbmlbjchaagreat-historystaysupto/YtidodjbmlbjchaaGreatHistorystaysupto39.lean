import Derived.Test.YtidodjbmlbjchaaGreatHistorystaysupto38
import Derived.Test.YtidodjbmlbjchaaGreatHistorystaysupto08
/- Cells of the call's own lie apart from the row of things and from the doer. -/
namespace Go.Proofs.YtidodjbmlbjchaaGreat
open Go.RowKit

theorem ids_own {P : Nat → Prop} {base : Nat} {w : World} {v : Value} {l : List Int} (h : w.ownsRow base 3 1 v l.length (idCells l)) (hr : ∀ k, Row v k → P k) (hl : l.length ≤ maxLen) : IdsSl P w v l := by
  rcases h.2 with ⟨rfl, h0⟩ | ⟨g, cap, cur, rfl, hg, hb, hc1, hc2, hc3, htk⟩
  · obtain rfl : l = [] := List.length_eq_zero_iff.1 h0
    exact IdsSl.nil _ _
  · have hown : w.ownsRow base 3 1 (.slice (some ⟨g, 0, none⟩) l.length cap) l.length (idCells l) := h
    refine ⟨some ⟨g, 0, none⟩, cap, rfl, ⟨hl, by omega⟩, fun i e he => ⟨g, 0, rfl, hr g rfl, ?_⟩⟩
    have hi : i < l.length := (List.getElem?_eq_some_iff.1 he).1
    have := World.ownsRow.cellAt hown i (by omega)
    rw [idCells_get he] at this
    rw [Nat.zero_add]
    exact this

theorem cel_apart {lo hi base n gd : Nat} {w : World} {v vh : Value} {l : List CellT} {xs : List Value} {cs : Array Value} (h : CeO lo hi w v l) (hl : l.length ≤ maxLen) (hi6 : ∀ c ∈ l, c.ids.length ≤ maxLen) (hlo : base ≤ lo)
    (hrow : w.ownsRow base 68 3 vh n xs) (hG : w.heap[gd]? = some (.cells cs 52 (0, 0))) : CelSl (fun k => base ≤ k ∧ k ≠ gd ∧ ¬ Row vh k) w v l := by
  obtain ⟨cp, D, rfl, hown, hhi, hD0, hDm, hDn, hids⟩ := h
  have hlen : (cp.map Prod.fst).length = cp.length := by simp
  refine cel_own hown (fun k hr => ⟨by have := (own_up hown k hr).1; omega, fun e => row_blk hown hG (by decide) (by rw [← e]; exact hr), fun hx => rows_apart hown hrow (by decide) k hr hx⟩) (by rw [← hlen]; exact hl) ?_ rfl
  intro p hp
  obtain ⟨i, hi⟩ := List.getElem?_of_mem hp
  have hI := hids i p hi
  have hil : i < cp.length := (List.getElem?_eq_some_iff.1 hi).1
  have h0 := D_mono hDm i 0 (by omega) (by omega)
  exact ids_own hI.1 (fun k hr => ⟨by have := (own_up hI.1 k hr).1; omega, fun e => row_blk hI.1 hG (by decide) (by rw [← e]; exact hr), fun hx => rows_apart hI.1 hrow (by decide) k hr hx⟩) (hi6 p.1 (List.mem_map_of_mem hp))

end Go.Proofs.YtidodjbmlbjchaaGreat

/- doer.do. -/
namespace Go.Proofs.YtidodjbmlbjchaaGreat
open Go.RowKit

theorem changeSt_A (s : StateT) (e : EventT) : changeSt s e = match chgA s.types s.things (placeT s.things e.ty e.id) e with | .error m => .error m | .ok th => .ok { s with things := th } := by
  unfold changeSt chgA
  split
  · rfl
  · split
    · rfl
    · split
      · rename_i h; rw [h]
      · rename_i h; rw [h]; simp only; split <;> rfl

theorem eachC_four {nm : List UInt8} {id : Int} : ∀ {fs : List FieldT} {cs : List CellT}, eachC (meansC nm id) fs cs ≠ 0 → eachC (meansC nm id) fs cs = 4
  | f :: fs, c :: cs, h => by
    unfold eachC at h ⊢
    by_cases h0 : meansC nm id f c ≠ 0
    · rw [if_pos h0]
      unfold meansC at h0 ⊢
      split
      · rfl
      · rename_i h1; rw [if_neg h1] at h0; exact absurd rfl h0
    · rw [if_neg h0] at h ⊢
      exact eachC_four h
  | [], _, h => absurd (by unfold eachC; rfl) h
  | _ :: _, [], h => absurd (by unfold eachC; rfl) h

theorem eachT_four {types : List TypeT} {nm : List UInt8} {id : Int} : ∀ {l : List ThingT}, eachT types (meansC nm id) l ≠ 0 → eachT types (meansC nm id) l = 4
  | [], h => absurd (by unfold eachT; rfl) h
  | t :: r, h => by
    unfold eachT at h ⊢
    by_cases h0 : eachC (meansC nm id) (fieldsOf types t.ty) t.cells ≠ 0
    · rw [if_pos h0]; exact eachC_four h0
    · rw [if_neg h0] at h ⊢
      exact eachT_four h

def doP (w w' : World) (r : Ending) (base hi gd : Nat) (vt : Value) (e : EventT) (x : Except Int StateT) : Prop :=
  Kept (fun k => base ≤ k ∧ k < hi ∨ k = gd) w w' ∧ match x with
  | .error m => r = .returned (.int .i64 m)
  | .ok s => r = .returned (.int .i64 0) ∧ ∃ vh', w'.heap[gd]? = some (.cells (doC vt vh' e) 52 (0, 0)) ∧ ThgSl (base ≤ ·) w' vh' s.things

set_option maxRecDepth 20000 in
set_option maxHeartbeats 6400000 in
theorem do_any (w : World) (gd base hi : Nat) (vt vh : Value) (types : List TypeT) (tp : List (ThingT × Value)) (D : Nat → Nat) (e : EventT)
    (hG : w.heap[gd]? = some (.cells (doC vt vh e) 52 (0, 0))) (hty : TypSl anyB w vt types)
    (hown : w.ownsRow base 68 3 vh tp.length (thCells tp)) (hth : ThgSl anyB w vh (tp.map Prod.fst)) (hD0 : base ≤ D 0) (hDm : ∀ i, i < tp.length → D i ≤ D (i + 1)) (hDn : D tp.length ≤ hi) (hhr : ∀ k, Row vh k → k < hi) (hceo : ∀ i p, tp[i]? = some p → CeO (D i) (D (i + 1)) w p.2 p.1.cells)
    (hs : sortT (tp.map Prod.fst)) (hl : tp.length ≤ 1000) (hix : isIx e.ty types.length = true) (hf : ∀ t ∈ types, t.fields.length ≤ 1000) (hfit : ∀ t ∈ tp.map Prod.fst, fitTh types t)
    (hcn : ∀ t ∈ tp.map Prod.fst, t.cells.length ≤ 1000) (hcl : ∀ t ∈ tp.map Prod.fst, ∀ c ∈ t.cells, riseI c.ids = true ∧ c.ids.length ≤ 1000) (hbase : base ≤ w.heap.size) (hk : 1 ≤ e.kind ∧ e.kind ≤ 6) :
    Calls Tryz.prog 27 #[.pointer (some ⟨gd, 0, none⟩)] w fun r w' => doP w w' r base hi gd vt e (doIt ⟨types, tp.map Prod.fst⟩ e) := by
  obtain ⟨x0, x1, x2, x3, x4, x5, x6, x7, xf⟩ := do_cells hG
  obtain ⟨ah, ch, rfl⟩ := own_slice hown
  have hgd : ¬ Row (.slice ah tp.length ch) gd := row_blk hown hG (by decide)
  have hlm : (tp.map Prod.fst).length = tp.length := by simp
  obtain ⟨things, hthi⟩ : ∃ l, tp.map Prod.fst = l := ⟨_, rfl⟩
  obtain ⟨p, hp⟩ : ∃ p, placeT things e.ty e.id = p := ⟨_, rfl⟩
  obtain ⟨q, hq⟩ : ∃ q, hasTh things e.ty e.id = q := ⟨_, rfl⟩
  have hpl : p ≤ tp.length := by rw [← hlm, hthi, ← hp]; exact placeT_le _ _ _
  have HTA := hide (fun wy (hy : Same w wy) => thingAt_any wy _ things anyB (hthi ▸ hth.same hy) (hthi ▸ hs) (by rw [← hthi, hlm]; exact hl) e.ty e.id)
  rw [hp, hq] at HTA
  have hup : ∀ k, (k = gd ∨ Row (.slice ah tp.length ch) k) → (base ≤ k ∧ k < hi ∨ k = gd) := fun k h => by
    rcases h with rfl | h
    · exact .inr rfl
    · exact .inl ⟨(own_up hown k h).1, hhr k h⟩
  have HUP := hide hup
  have hcel : ∀ u ∈ tp, CelSl (fun k => base ≤ k ∧ k ≠ gd ∧ ¬ Row (.slice ah tp.length ch) k) w u.2 u.1.cells := by
    intro u hu
    obtain ⟨i, hi⟩ := List.getElem?_of_mem hu
    have hum : u.1 ∈ tp.map Prod.fst := List.mem_map_of_mem hu
    have hil : i < tp.length := (List.getElem?_eq_some_iff.1 hi).1
    exact cel_apart (hceo i u hi) (by have := hcn u.1 hum; unfold maxLen; omega) (fun c hc => by have := (hcl u.1 hum c hc).2; unfold maxLen; omega) (Nat.le_trans hD0 (D_mono hDm i 0 (by omega) (by omega))) hown hG
  have HMK := hide (fun wy (hy : Same w wy) => makeThing_any wy gd base p vt _ types tp e (blk_kept hG hy (fun f => f)) (hty.same hy) (own_kept hown hy (fun _ _ f => f)) (fun u hu => (hcel u hu).same hy) hix hpl hl hf (Nat.le_trans hbase hy.size) hgd)
  have HDR := hide (fun wy (hy : Same w wy) (hpq : p < tp.length) => drop_any wy gd base p vt _ types tp e (blk_kept hG hy (fun f => f)) (hty.same hy) (own_kept hown hy (fun _ _ f => f)) (fun u hu => (hcel u hu).same hy) hix hpq hl hfit (Nat.le_trans hbase hy.size) hgd)
  have HCH := hide (fun wy (hy : Same w wy) (u : ThingT × Value) (hu : tp[p]? = some u) (hut : u.1.ty = e.ty) (hk3 : e.kind = 3 ∨ e.kind = 4 ∨ e.kind = 5 ∨ e.kind = 6) => change_any wy gd base hi p vt _ types tp D e (blk_kept hG hy (fun f => f)) (hty.same hy) (own_kept hown hy (fun _ _ f => f)) (hth.same hy) hD0 hDm hDn (fun i u hu => (hceo i u hu).keep hy (fun _ _ _ f => f)) hs hl u hu hut hfit hcn hcl (Nat.le_trans hbase hy.size) hk3)
  have HPH := hide (fun (hh : hasTh things e.ty e.id = true) => place_has (hthi ▸ hs) hh)
  rw [hp] at HPH
  rw [hthi] at HMK HDR HCH ⊢
  have HTH := hide hthi
  have HP := hide hp
  have HQ := hide hq
  have HK := hide hk
  have HALL := hide (fun wy (hy : Same w wy) => hy.cell x2 (fun f => f))
  clear hG hty hown hth hD0 hDm hDn hhr hceo hs hix hf hfit hcn hcl hbase hk hup hcel hgd hlm hthi hp hq x0 x2 x5 x6 x7 xf hl
  go_enter Tryz.func27, Tryz.ntmps27
  go_wp2_with fail
  go_region_held3 (fun w' => w'.cell? ⟨gd, 1, none⟩ = some (.slice ah tp.length ch) ∧ w'.cell? ⟨gd, 3, none⟩ = some (.int .i64 e.ty) ∧ w'.cell? ⟨gd, 4, none⟩ = some (.int .i64 e.id)) (go_keep)
    ((go_at_call 28; refine (HTA.out _ (by exact (by repeat' (first | assumption | exact Kept.refl _ _ | refine Kept.drewN ?_ _ | refine Kept.drew ?_ | refine Kept.alloc ?_ _ | refine Kept.setB ?_ _ _)))).mono ?_; rintro e9 w3 ⟨rfl, hK3⟩; have u0 := hK3.cell (p := ⟨gd, 1, none⟩) (by exact x1) (fun f => f); have u1 := hK3.cell (p := ⟨gd, 3, none⟩) (by exact x3) (fun f => f); have u2 := hK3.cell (p := ⟨gd, 4, none⟩) (by exact x4) (fun f => f)))
  have HK3 := hide (show Same w w3 from hK3.unD)
  clear hK3 u0 u1 u2 x1 x3 x4
  have x2 := HALL.out w3 HK3.out
  have HLN := hide (show things.length = tp.length by rw [← HTH.out]; simp)
  by_cases h1 : e.kind = 1
  · rw [h1] at x2
    have HE := hide (show doIt ⟨types, things⟩ e = if q = true then .error 6 else if 12 ≤ things.length then .error 2 else .ok ⟨types, things.insertIdx p (newTh types e)⟩ by
      unfold doIt
      rw [if_pos h1]
      simp only [HP.out, HQ.out])
    clear h1
    cases q
    rotate_left
    · go_wp2_with fail
      go_ret
      rw [HE.out, if_pos (by simp)]
      exact ⟨HK3.out.to, rfl⟩
    go_wp2_with fail
    refine (HMK.out _ (tra HK3.out (by exact (by repeat' (first | assumption | exact Kept.refl _ _ | refine Kept.drewN ?_ _ | refine Kept.drew ?_ | refine Kept.alloc ?_ _ | refine Kept.setB ?_ _ _))))).mono ?_
    rintro r w5 (⟨m1, rfl, hK⟩ | ⟨m1, rfl, vh', hG', hT, hK⟩)
    · have HF := hide (And.intro m1 (tra HK3.out (tra (by exact (by repeat' (first | assumption | exact Kept.refl _ _ | refine Kept.drewN ?_ _ | refine Kept.drew ?_ | refine Kept.alloc ?_ _ | refine Kept.setB ?_ _ _))) hK)))
      clear m1 hK
      go_wp2_with fail
      go_ret
      rw [HE.out, if_neg (by simp), if_pos (by rw [HLN.out]; exact HF.out.1)]
      exact ⟨HF.out.2.to, rfl⟩
    · have HF := hide (And.intro m1 (And.intro hG' (And.intro hT (HK3.out.to.trans (hK.mono (fun x _ hx => HUP.out x hx)) (fun _ _ e => e)))))
      clear m1 hG' hT hK
      go_wp2_with fail
      go_ret
      rw [HE.out, if_neg (by simp), if_neg (by rw [HLN.out]; have := HF.out.1; omega)]
      exact ⟨HF.out.2.2.2, rfl, vh', HF.out.2.1, HF.out.2.2.1⟩
  have e1 : (e.kind == 1) = false := by simp [h1]
  cases q
  · have HE := hide (show doIt ⟨types, things⟩ e = .error 5 by
      unfold doIt
      rw [if_neg h1, if_pos HQ.out])
    clear h1
    go_wp2_with fail
    go_ret
    rw [HE.out]
    exact ⟨HK3.out.to, rfl⟩
  obtain ⟨hpq, ht1, ht2⟩ := HPH.out HQ.out
  have HPL := hide (show p < tp.length by rw [← HLN.out]; exact hpq)
  by_cases h2 : e.kind = 2
  · have HE := hide (show doIt ⟨types, things⟩ e = if eachT types (meansC (nameOf types e.ty) e.id) things ≠ 0 then .error 4 else .ok ⟨types, things.eraseIdx p⟩ by
      unfold doIt
      rw [if_neg h1, if_neg (by rw [HQ.out]; simp), if_pos h2]
      simp only [HP.out])
    have HM4 := hide (fun (h : eachT types (meansC (nameOf types e.ty) e.id) things ≠ 0) => eachT_four h)
    rw [h2] at x2
    clear h1 h2 e1 ht2 ht1 hpq
    go_wp2_with fail
    refine (HDR.out _ (tra HK3.out (by exact (by repeat' (first | assumption | exact Kept.refl _ _ | refine Kept.drewN ?_ _ | refine Kept.drew ?_ | refine Kept.alloc ?_ _ | refine Kept.setB ?_ _ _)))) HPL.out).mono ?_
    rintro r w5 (⟨m1, rfl, hK⟩ | ⟨m1, rfl, vh', hG', hT, hK⟩)
    · have HF := hide (And.intro m1 (tra HK3.out (tra (by exact (by repeat' (first | assumption | exact Kept.refl _ _ | refine Kept.drewN ?_ _ | refine Kept.drew ?_ | refine Kept.alloc ?_ _ | refine Kept.setB ?_ _ _))) hK)))
      clear m1 hK
      rw [HM4.out HF.out.1]
      go_wp2_with fail
      go_ret
      rw [HE.out, if_pos HF.out.1]
      exact ⟨HF.out.2.to, rfl⟩
    · have HF := hide (And.intro m1 (And.intro hG' (And.intro hT (HK3.out.to.trans (hK.mono (fun x _ hx => HUP.out x hx)) (fun _ _ e => e)))))
      clear m1 hG' hT hK
      go_wp2_with fail
      go_ret
      rw [HE.out, if_neg (by rw [HF.out.1]; simp)]
      exact ⟨HF.out.2.2.2, rfl, vh', HF.out.2.1, HF.out.2.2.1⟩
  have e2 : (e.kind == 2) = false := by simp [h2]
  have HE := hide (show doIt ⟨types, things⟩ e = match chgA types things p e with | .error m => .error m | .ok th => .ok ⟨types, th⟩ by
    unfold doIt
    rw [if_neg h1, if_neg (by rw [HQ.out]; simp), if_neg h2, changeSt_A]
    simp only [HP.out])
  have HU := hide (show ∃ u, tp[p]? = some u ∧ u.1.ty = e.ty by
    refine ⟨_, List.getElem?_eq_getElem HPL.out, ?_⟩
    have h9 : things[p] = (tp[p]'HPL.out).1 := by
      have h8 : things[p]? = some (tp[p]'HPL.out).1 := by rw [← HTH.out, List.getElem?_map, List.getElem?_eq_getElem HPL.out]; rfl
      rw [List.getElem?_eq_getElem hpq] at h8
      exact Option.some.inj h8
    rw [← h9]
    exact ht1)
  have HK36 := hide (show e.kind = 3 ∨ e.kind = 4 ∨ e.kind = 5 ∨ e.kind = 6 by have := HK.out; omega)
  clear h1 h2 ht2 ht1 hpq
  go_wp2_with fail
  obtain ⟨u, hu⟩ := HU.out
  have HU2 := hide hu
  clear hu
  refine (HCH.out _ (tra HK3.out (by exact (by repeat' (first | assumption | exact Kept.refl _ _ | refine Kept.drewN ?_ _ | refine Kept.drew ?_ | refine Kept.alloc ?_ _ | refine Kept.setB ?_ _ _)))) u HU2.out.1 HU2.out.2 HK36.out).mono ?_
  intro r w5 hQ
  obtain ⟨hKb, hm⟩ := hQ
  have HKB := hide (show Kept (fun k => base ≤ k ∧ k < hi ∨ k = gd) w w5 from HK3.out.to.trans hKb (fun _ _ e => .inl e))
  clear hKb
  cases hx : chgA types things p e with
  | error m =>
    rw [hx] at hm HE
    simp only at hm
    subst hm
    clear hx
    go_wp2_with fail
    go_ret
    rw [HE.out]
    exact ⟨HKB.out, rfl⟩
  | ok th =>
    rw [hx] at hm HE
    simp only at hm
    obtain ⟨rfl, hG', hT⟩ := hm
    have HF := hide (And.intro hG' hT)
    clear hx hG' hT
    go_wp2_with fail
    go_ret
    rw [HE.out]
    exact ⟨HKB.out, rfl, _, HF.out.1, HF.out.2⟩

end Go.Proofs.YtidodjbmlbjchaaGreat

/- What a right state gives to doer.do and CloneState. -/
namespace Go.Proofs.YtidodjbmlbjchaaGreat

theorem right_types {s : StateT} (h : Right s) : s.types.length ≤ 5 ∧ ∀ t ∈ s.types, t.fields.length ≤ 6 := by
  obtain ⟨⟨_, h2⟩, h3, _⟩ := (checkSc_iff s.types).1 h.schema
  exact ⟨h2, fun t ht => (h3 t ht).2.2.2.1.2⟩

theorem right_fit {s : StateT} (h : Right s) : ∀ t ∈ s.things, fitTh s.types t := by
  intro t ht
  obtain ⟨h1, _, h3, _⟩ := h.each t ht
  exact ⟨by simpa [isIx] using h1, h3⟩

theorem fields_le {s : StateT} (h : Right s) (i : Int) : (fieldsOf s.types i).length ≤ 6 := by
  unfold fieldsOf
  cases hx : s.types[i.toNat]? with
  | none => simp
  | some t => exact (right_types h).2 t (List.mem_of_getElem? hx)

theorem right_cells {s : StateT} (h : Right s) : ∀ t ∈ s.things, t.cells.length ≤ 6 ∧ ∀ c ∈ t.cells, riseI c.ids = true ∧ c.ids.length ≤ 6 := by
  intro t ht
  obtain ⟨_, _, h3, h4⟩ := h.each t ht
  have h6 := fields_le h t.ty
  refine ⟨by omega, fun c hc => ?_⟩
  obtain ⟨i, hi⟩ := List.getElem?_of_mem hc
  have hil : i < t.cells.length := (List.getElem?_eq_some_iff.1 hi).1
  have hf : (fieldsOf s.types t.ty)[i]? = some ((fieldsOf s.types t.ty)[i]'(by omega)) := List.getElem?_eq_getElem (by omega)
  have hw := (eachC_iff wrongC _ _).1 h4 i _ c hf hi
  generalize (fieldsOf s.types t.ty)[i]'(by omega) = f at hw
  unfold wrongC at hw
  repeat' (split at hw)
  all_goals (first | exact absurd hw (by decide) | skip)
  rename_i _ _ h7 h8
  refine ⟨by simpa using h8, ?_⟩
  have : mostI f.kind ≤ 6 := by unfold mostI; split <;> omega
  omega

theorem right_small {s : StateT} (h : Right s) : Small s.types s.things :=
  ⟨by have := (right_types h).1; omega, fun t ht => by have := (right_types h).2 t ht; omega, by have := h.few; omega, fun t ht => ⟨by have := (right_cells h t ht).1; omega, fun c hc => by have := ((right_cells h t ht).2 c hc).2; omega⟩⟩

end Go.Proofs.YtidodjbmlbjchaaGreat
