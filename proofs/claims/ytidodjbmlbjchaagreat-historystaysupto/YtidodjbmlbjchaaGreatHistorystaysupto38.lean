import Derived.Test.YtidodjbmlbjchaaGreatHistorystaysupto37
/- doer.change: its walk. -/
namespace Go.Proofs.YtidodjbmlbjchaaGreat
open Go.RowKit

/-- what change leaves of the row of cells -/
def chgQ (w w' : World) (r : Ending) (base gc co : Nat) (cs : Array Value) (tc : TypeId) (v : Value) (f : FieldT) (x : Except Int CellT) : Prop :=
  match x with
  | .error m => r = .returned (.int .i64 m) ∧ Same w w'
  | .ok c' => r = .returned (.int .i64 (wrongC f c')) ∧ ∃ w1 v', Kept (Row v) w w1 ∧ w1.ownsRow base 3 1 v' c'.ids.length (idCells c'.ids) ∧ Kept (· = gc) w1 w' ∧ w'.heap[gc]? = some (.cells (setCe cs co c' v') tc (0, 0))

theorem own_len {w : World} {b sz n : Nat} {e : TypeId} {v : Value} {xs : List Value} (h : w.ownsRow b e sz v n xs) (hs : sz = 1) : n ≤ maxLen := by
  subst hs
  rcases h.2 with ⟨rfl, h0⟩ | ⟨g, cap, cur, rfl, hg, hb, hc1, hc2, hc3, htk⟩
  · have := h.1; unfold maxLen; omega
  · omega
theorem setCe_get {cs : Array Value} {co : Nat} {a b d : Value} (c : CellT) (v : Value) (_h0 : cs[co]? = some a) (_h1 : cs[co + 1]? = some b) (h2 : cs[co + 2]? = some d) : (setCe cs co c v)[co]? = some (.int .i64 c.n) ∧ (setCe cs co c v)[co + 1]? = some (.string ⟨c.text.toArray⟩) ∧ (setCe cs co c v)[co + 2]? = some v := by
  have s2 := (Array.getElem?_eq_some_iff.1 h2).1
  unfold setCe
  refine ⟨?_, ?_, ?_⟩
  · simp [Array.getElem?_setIfInBounds]; omega
  · simp [Array.getElem?_setIfInBounds]; omega
  · simp [Array.getElem?_setIfInBounds]; omega
theorem setC_no (types : List TypeT) (things : List ThingT) (f : FieldT) (e : EventT) (c : CellT) (m : Int) (h : setC types things f e c = .error m) : m ≠ 0 := by
  unfold setC at h
  repeat' (split at h)
  all_goals (cases h <;> decide)

set_option maxRecDepth 20000 in
set_option maxHeartbeats 6400000 in
theorem change_main (w : World) (gd gh oh gc oc bt ot nt ch ct base at' k j nc cc : Nat) (cs : Array Value) (v : Value) (types : List TypeT) (things : List ThingT) (f : FieldT) (e : EventT) (c : CellT)
    (hG : w.heap[gd]? = some (.cells (doC (.slice (some ⟨bt, ot, none⟩) types.length ct) (.slice (some ⟨gh, oh, none⟩) nt ch) e) 52 (0, 0))) (hty : TypSl anyB w (.slice (some ⟨bt, ot, none⟩) types.length ct) types) (hth : ThgSl anyB w (.slice (some ⟨gh, oh, none⟩) nt ch) things) (hs : sortT things) (hlt : things.length ≤ 1000)
    (hkl : k < types.length) (htk : e.ty = k) (hj : e.field = j) (hjf : j < types[k].fields.length) (hf : types[k].fields[j] = f) (hjc : j < nc) (hat : at' < nt)
    (hz : w.cell? ⟨gh, oh + at' * 3 + 2, none⟩ = some (.slice (some ⟨gc, oc, none⟩) nc cc))
    (hB : w.heap[gc]? = some (.cells cs 65 (0, 0))) (hv0 : cs[oc + j * 3]? = some (.int .i64 c.n)) (hv1 : cs[oc + j * 3 + 1]? = some (.string ⟨c.text.toArray⟩)) (hv : cs[oc + j * 3 + 2]? = some v)
    (hown : w.ownsRow base 3 1 v c.ids.length (idCells c.ids)) (hr : riseI c.ids = true) (hl : c.ids.length ≤ 1000) (hbase : base ≤ w.heap.size) (hk : e.kind = 3 ∨ e.kind = 4 ∨ e.kind = 5 ∨ e.kind = 6) :
    Calls Tryz.prog 59 #[.pointer (some ⟨gd, 0, none⟩), .int .i64 at'] w fun r w' => chgQ w w' r base gc (oc + j * 3) cs 65 v f (if suitsE e.kind f.kind = false then .error 7 else setC types things f e c) := by
  obtain ⟨x0, x1, x2, x3, x4, x5, x6, x7, xf⟩ := do_cells hG
  obtain ⟨bt', ot', af, nf, cf, hao, y0, y1, hnf, hfl⟩ := hty.at k hkl
  cases hao
  obtain ⟨bf, of, haf, f0, f1, f2⟩ := hfl.at j hjf
  subst haf
  rw [hf] at f0 f1 f2
  rw [htk] at x3
  rw [hj] at x5
  have hjn : j < nf := by omega
  have HII := hide (fun wy => (isIndex_is wy j nf true (by simp [isIx]; omega)).mono (fun _ w' h => (⟨h.1, by rw [h.2]; exact Kept.refl _ _⟩ : _ ∧ Same wy w')))
  have HALL := hide (fun wy (hy : Same w wy) => (⟨hy.cell x1 (fun f => f), hy.cell x2 (fun f => f), hy.cell x5 (fun f => f), hy.cell hz (fun f => f), hy.cell f0 (fun f => f), hy.cell f1 (fun f => f), hy.cell f2 (fun f => f)⟩ : wy.cell? ⟨gd, 1, none⟩ = _ ∧ wy.cell? ⟨gd, 2, none⟩ = _ ∧ wy.cell? ⟨gd, 5, none⟩ = _ ∧ wy.cell? ⟨gh, oh + at' * 3 + 2, none⟩ = _ ∧ wy.cell? ⟨bf, of + j * 3, none⟩ = _ ∧ wy.cell? ⟨bf, of + j * 3 + 1, none⟩ = _ ∧ wy.cell? ⟨bf, of + j * 3 + 2, none⟩ = _))
  have HSET := hide (fun wy (hy : Same w wy) => set_any wy gd gc (oc + j * 3) base cs 65 _ _ v types things f e c (blk_kept hG hy (fun f => f)) (hty.same hy) (hth.same hy) hs hlt (blk_kept hB hy (fun f => f)) hv0 hv1 hv (own_kept hown hy (fun _ _ f => f)) (by decide) hr hl (Nat.le_trans hbase hy.size) hk)
  have HGET := hide (fun c' v' => setCe_get (cs := cs) (co := oc + j * 3) c' v' hv0 hv1 hv)
  have HROW := hide (fun wy (hy : Same w wy) => own_kept hown hy (fun _ _ f => f))
  have HGB := hide (fun wy (hy : Same w wy) => blk_kept hB hy (fun f => f))
  have HGC := hide (show gc < w.heap.size from (Array.getElem?_eq_some_iff.1 hB).1)
  obtain ⟨q, hq⟩ : ∃ q, suitsE e.kind f.kind = q := ⟨_, rfl⟩
  have HSU := hide (fun wy => suits_any wy e.kind f.kind)
  obtain ⟨x, hx⟩ : ∃ x, setC types things f e c = x := ⟨_, rfl⟩
  have HNO := hide (fun m (h : x = .error m) => setC_no types things f e c m (hx.trans h))
  rw [hx] at HSET
  rw [hq] at HSU
  rw [hq, hx]
  clear hq hx
  clear hG hty hth hs hB hv0 hv1 hv hown hr hbase hk htk hj hjf hf hnf hfl x1 x2 x4 x6 x7 xf y0 hz f0 f1 f2
  go_enter Tryz.func59, Tryz.ntmps59
  go_wp2_with fail
  go_region_held3 (fun w' => w'.cell? ⟨gd, 0, none⟩ = some (.slice (some ⟨bt, ot, none⟩) types.length ct) ∧ w'.cell? ⟨gd, 3, none⟩ = some (.int .i64 k) ∧ w'.cell? ⟨bt, ot + k * 2 + 1, none⟩ = some (.slice (some ⟨bf, of, none⟩) nf cf)) (go_keep) (fail)
  obtain ⟨W1, hW1⟩ : ∃ W1, W1 = w.drew := ⟨_, rfl⟩
  have HK1 := hide (show Same w W1 by rw [hW1]; exact (Kept.refl _ w).drew)
  rw [← hW1]
  clear hW1 x0 x3 x5 y1
  obtain ⟨_, _, x5, _, _, _, _⟩ := HALL.out W1 HK1.out
  go_wp2_with fail
  refine (HII.out _).mono ?_
  rintro e9 w2 ⟨rfl, hK2⟩
  have HK2 := hide (tra HK1.out (tra (by exact (by repeat' (first | assumption | exact Kept.refl _ _ | refine Kept.drewN ?_ _ | refine Kept.drew ?_ | refine Kept.alloc ?_ _ | refine Kept.setB ?_ _ _))) hK2))
  clear hK2 x5
  obtain ⟨_, _, x5, _, f0, f1, f2⟩ := HALL.out w2 HK2.out
  go_wp2_with fail
  obtain ⟨W3, hW3⟩ : ∃ W3, W3 = w2.alloc (.cells #[.string ⟨f.name.toArray⟩, .int .i64 f.kind, .string ⟨f.of.toArray⟩] 58) := ⟨_, rfl⟩
  obtain ⟨gf, hgf⟩ : ∃ g, g = w2.heap.size := ⟨_, rfl⟩
  have HK3 := hide (show Same w W3 by rw [hW3]; exact HK2.out.alloc _)
  have hbk : W3.heap[gf]? = some (.cells #[.string ⟨f.name.toArray⟩, .int .i64 f.kind, .string ⟨f.of.toArray⟩] 58 (0, 0)) := by rw [hW3, hgf]; exact heap_alloc_new w2 _
  have HBK := hide hbk
  have HGF := hide (show gf ≠ gc by have h1 := HGC.out; have h2 := HK2.out.size; omega)
  rw [← hW3, ← hgf]
  clear hW3 hgf x5 f0 f1 f2 hbk
  obtain ⟨b0, b1, b2⟩ := blk3 HBK.out
  clear b0 b2
  obtain ⟨_, x2, _, _, _, _, _⟩ := HALL.out W3 HK3.out
  go_region_held3 (fun w' => w'.cell? ⟨gd, 2, none⟩ = some (.int .i64 e.kind) ∧ w'.cell? ⟨gf, 1, none⟩ = some (.int .i64 f.kind)) (go_keep)
    ((go_at_call 85; refine (HSU.out _).mono ?_; rintro e9 w4 ⟨rfl, hK4⟩; have u1 := hK4.cell (p := ⟨gd, 2, none⟩) (by exact x2) (fun f => f); have u2 := hK4.cell (p := ⟨gf, 1, none⟩) (by exact b1) (fun f => f)))
  have HK34 := hide (show Same W3 w4 from hK4.unD)
  have HK4 := hide (tra HK3.out HK34.out)
  clear hK4 u1 u2 x2 b1
  cases q
  · go_wp2_with fail
    go_ret
    try rw [if_pos rfl]
    exact ⟨rfl, HK4.out⟩
  obtain ⟨x1, _, x5, hz, _, _, _⟩ := HALL.out w4 HK4.out
  go_wp2_with fail
  go_region_held3 (fun w' => w'.cell? ⟨gd, 1, none⟩ = some (.slice (some ⟨gh, oh, none⟩) nt ch) ∧ w'.cell? ⟨gd, 5, none⟩ = some (.int .i64 j) ∧ w'.cell? ⟨gh, oh + at' * 3 + 2, none⟩ = some (.slice (some ⟨gc, oc, none⟩) nc cc)) (go_keep) (fail)
  obtain ⟨W5, hW5⟩ : ∃ W5, W5 = w4.drew := ⟨_, rfl⟩
  have HK35 := hide (show Same W3 W5 by rw [hW5]; exact HK34.out.drew)
  have HK5 := hide (tra HK3.out HK35.out)
  rw [← hW5]
  clear hW5 x1 x5 hz
  have HB5 := hide (blk_kept HBK.out HK35.out (fun f => f))
  obtain ⟨b0, b1, b2⟩ := blk3 HB5.out
  go_wp2_with fail
  refine (HSET.out _ HK5.out).mono ?_
  intro r6 w6 hQ
  clear b0 b1 b2
  unfold setQ at hQ
  cases x with
  | error m =>
    simp only at hQ
    obtain ⟨rfl, hK6⟩ := hQ
    have hm := HNO.out m rfl
    have hmb : (m == 0) = false := by simp [hm]
    have HK6 := hide (tra HK5.out hK6)
    clear hK6 hm
    go_wp2_with fail
    go_ret
    try rw [if_neg (by decide)]
    exact ⟨rfl, HK6.out⟩
  | ok c' =>
    simp only at hQ
    obtain ⟨rfl, w1, v', hKr, ho, hKg, hH⟩ := hQ
    obtain ⟨a', cc', rfl⟩ := own_slice ho
    have hbf : w6.heap[gf]? = _ := blk_kept (blk_kept HB5.out hKr (row_blk (HROW.out W5 HK5.out) HB5.out (by decide))) hKg HGF.out
    obtain ⟨b0, b1, b2⟩ := blk3 hbf
    obtain ⟨s0, s1, s2⟩ := HGET.out c' (.slice a' c'.ids.length cc')
    have d0 := (blk_at hH _ _ s0).1
    have d1 := (blk_at hH _ _ s1).1
    have d2 := (blk_at hH _ _ s2).1
    have hg1 := blk_kept (HGB.out W5 HK5.out) hKr (row_blk (HROW.out W5 HK5.out) (HGB.out W5 HK5.out) (by decide))
    have ho6 := own_kept2 ho hKg (fun x hx e => row_blk ho hg1 (by decide) (by rw [← e]; exact hx))
    have HWC := hide (fun wy (hy : Same w6 wy) => wrongCell_any wy f c' (.slice a' c'.ids.length cc') _ ((IdO.sl (hi := w6.heap.size) ⟨ho6, fun k h => (own_up ho6 k h).2⟩ (own_len ho rfl)).same hy))
    have HF := hide (And.intro (HK5.out.to.trans hKr (fun _ _ e => e)) (And.intro ho (And.intro hKg hH)))
    clear hKr ho hKg hH hg1 hbf s0 s1 s2 ho6
    go_wp2_with fail
    go_region_held3 (fun w' => w'.cell? ⟨gf, 0, none⟩ = some (.string ⟨f.name.toArray⟩) ∧ w'.cell? ⟨gf, 1, none⟩ = some (.int .i64 f.kind) ∧ w'.cell? ⟨gf, 2, none⟩ = some (.string ⟨f.of.toArray⟩) ∧ w'.cell? ⟨gc, oc + j * 3, none⟩ = some (.int .i64 c'.n) ∧ w'.cell? ⟨gc, oc + j * 3 + 1, none⟩ = some (.string ⟨c'.text.toArray⟩) ∧ w'.cell? ⟨gc, oc + j * 3 + 2, none⟩ = some (.slice a' c'.ids.length cc')) (go_keep)
      ((go_at_call 65; refine (HWC.out _ (by exact (by repeat' (first | assumption | exact Kept.refl _ _ | refine Kept.drewN ?_ _ | refine Kept.drew ?_ | refine Kept.alloc ?_ _ | refine Kept.setB ?_ _ _)))).mono ?_; rintro e9 w7 ⟨rfl, hK7⟩; have u0 := hK7.cell (p := ⟨gf, 0, none⟩) (by exact b0) (fun f => f); have u1 := hK7.cell (p := ⟨gf, 1, none⟩) (by exact b1) (fun f => f); have u2 := hK7.cell (p := ⟨gf, 2, none⟩) (by exact b2) (fun f => f); have u3 := hK7.cell (p := ⟨gc, oc + j * 3, none⟩) (by exact d0) (fun f => f); have u4 := hK7.cell (p := ⟨gc, oc + j * 3 + 1, none⟩) (by exact d1) (fun f => f); have u5 := hK7.cell (p := ⟨gc, oc + j * 3 + 2, none⟩) (by exact d2) (fun f => f)))
    have HK7 := hide (show Same w6 w7 from hK7.unD)
    clear hK7 u0 u1 u2 u3 u4 u5 b0 b1 b2 d0 d1 d2
    go_wp2_with fail
    go_ret
    try rw [if_neg (by decide)]
    exact ⟨rfl, w1, _, HF.out.1, HF.out.2.1, HF.out.2.2.1.trans HK7.out (fun _ _ f => f.elim), blk_kept HF.out.2.2.2 HK7.out (fun f => f)⟩

end Go.Proofs.YtidodjbmlbjchaaGreat

/- doer.change, of things in rows of the call's own. -/
namespace Go.Proofs.YtidodjbmlbjchaaGreat
open Go.RowKit

set_option maxRecDepth 20000 in
set_option maxHeartbeats 3200000 in
theorem change_bad (w : World) (gd bt ot ct k at' : Nat) (vh : Value) (types : List TypeT) (e : EventT)
    (hG : w.heap[gd]? = some (.cells (doC (.slice (some ⟨bt, ot, none⟩) types.length ct) vh e) 52 (0, 0))) (hty : TypSl anyB w (.slice (some ⟨bt, ot, none⟩) types.length ct) types)
    (hkl : k < types.length) (htk : e.ty = k) (hix : isIx e.field types[k].fields.length = false) :
    Calls Tryz.prog 59 #[.pointer (some ⟨gd, 0, none⟩), .int .i64 at'] w fun r w' => r = .returned (.int .i64 5) ∧ Same w w' := by
  obtain ⟨x0, x1, x2, x3, x4, x5, x6, x7, xf⟩ := do_cells hG
  obtain ⟨bt', ot', af, nf, cf, hao, y0, y1, hnf, hfl⟩ := hty.at k hkl
  cases hao
  rw [htk] at x3
  obtain ⟨fi, hfi⟩ : ∃ fi, e.field = fi := ⟨_, rfl⟩
  rw [hfi] at x5 hix
  have HII := hide (fun wy => (isIndex_is wy fi nf false (by rw [hnf]; exact hix)).mono (fun _ w' h => (⟨h.1, by rw [h.2]; exact Kept.refl _ _⟩ : _ ∧ Same wy w')))
  clear hG hty htk hfi hix hnf hfl x1 x2 x4 x6 x7 xf y0
  go_enter Tryz.func59, Tryz.ntmps59
  go_wp2_with fail
  go_region_held3 (fun w' => w'.cell? ⟨gd, 0, none⟩ = some (.slice (some ⟨bt, ot, none⟩) types.length ct) ∧ w'.cell? ⟨gd, 3, none⟩ = some (.int .i64 k) ∧ w'.cell? ⟨bt, ot + k * 2 + 1, none⟩ = some (.slice af nf cf)) (go_keep) (fail)
  go_wp2_with fail
  refine (HII.out _).mono ?_
  rintro e9 w2 ⟨rfl, hK2⟩
  have HK2 := hide (show Same w w2 from hK2.unD)
  clear hK2 x0 x3 x5 y1
  go_wp2_with fail
  go_ret
  exact ⟨rfl, HK2.out⟩

/-- change, over the things alone -/
def chgA (types : List TypeT) (things : List ThingT) (at' : Nat) (e : EventT) : Except Int (List ThingT) :=
  if isIx e.field (fieldsOf types e.ty).length = false then .error 5
  else if suitsE e.kind (getF (fieldsOf types e.ty) e.field).kind = false then .error 7
  else match setC types things (getF (fieldsOf types e.ty) e.field) e (getC (getT things at').cells e.field) with
    | .error m => .error m
    | .ok c => if wrongC (getF (fieldsOf types e.ty) e.field) c ≠ 0 then .error (wrongC (getF (fieldsOf types e.ty) e.field) c) else .ok (things.set at' (withC (getT things at') e.field c))

end Go.Proofs.YtidodjbmlbjchaaGreat

/- doer.change, of things in rows of the call's own: the contract. -/
namespace Go.Proofs.YtidodjbmlbjchaaGreat
open Go.RowKit

theorem own_low {w : World} {b b' sz n : Nat} {e : TypeId} {v : Value} {xs : List Value} (h : w.ownsRow b e sz v n xs) (hb : b' ≤ b) : w.ownsRow b' e sz v n xs := by
  refine ⟨h.1, ?_⟩
  rcases h.2 with h2 | ⟨g, cap, cur, hv, hg, r⟩
  · exact .inl h2
  · exact .inr ⟨g, cap, cur, hv, Nat.le_trans hb hg, r⟩

theorem thCells_set (t : ThingT) : ∀ (tp : List (ThingT × Value)) (i : Nat) (p : ThingT × Value), tp[i]? = some p → t.ty = p.1.ty → t.id = p.1.id → thCells (tp.set i (t, p.2)) = thCells tp
  | [], i, p, h, _, _ => by simp at h
  | x :: r, 0, p, h, h1, h2 => by
    simp at h; subst h
    show [Value.int .i64 t.ty, .int .i64 t.id, x.2] ++ thCells r = _
    rw [h1, h2]; rfl
  | x :: r, i + 1, p, h, h1, h2 => by
    have ih := thCells_set t r i p (by simpa using h) h1 h2
    show [Value.int .i64 x.1.ty, .int .i64 x.1.id, x.2] ++ thCells (r.set i (t, p.2)) = _
    rw [ih]; rfl

def chgP (w w' : World) (r : Ending) (base hi gd : Nat) (vt vh : Value) (e : EventT) (x : Except Int (List ThingT)) : Prop :=
  Kept (fun k => base ≤ k ∧ k < hi) w w' ∧ match x with
  | .error m => r = .returned (.int .i64 m)
  | .ok th => r = .returned (.int .i64 0) ∧ w'.heap[gd]? = some (.cells (doC vt vh e) 52 (0, 0)) ∧ ThgSl (base ≤ ·) w' vh th

theorem change_any (w : World) (gd base hi at' : Nat) (vt vh : Value) (types : List TypeT) (tp : List (ThingT × Value)) (D : Nat → Nat) (e : EventT)
    (hG : w.heap[gd]? = some (.cells (doC vt vh e) 52 (0, 0))) (hty : TypSl anyB w vt types)
    (hown : w.ownsRow base 68 3 vh tp.length (thCells tp)) (hth : ThgSl anyB w vh (tp.map Prod.fst)) (hD0 : base ≤ D 0) (hDm : ∀ i, i < tp.length → D i ≤ D (i + 1)) (hDn : D tp.length ≤ hi) (hceo : ∀ i p, tp[i]? = some p → CeO (D i) (D (i + 1)) w p.2 p.1.cells)
    (hs : sortT (tp.map Prod.fst)) (hl : tp.length ≤ 1000) (p : ThingT × Value) (hp : tp[at']? = some p) (hpt : p.1.ty = e.ty) (hfit : ∀ t ∈ tp.map Prod.fst, fitTh types t)
    (hcn : ∀ t ∈ tp.map Prod.fst, t.cells.length ≤ 1000) (hcl : ∀ t ∈ tp.map Prod.fst, ∀ c ∈ t.cells, riseI c.ids = true ∧ c.ids.length ≤ 1000) (hbase : base ≤ w.heap.size) (hk : e.kind = 3 ∨ e.kind = 4 ∨ e.kind = 5 ∨ e.kind = 6) :
    Calls Tryz.prog 59 #[.pointer (some ⟨gd, 0, none⟩), .int .i64 at'] w fun r w' => chgP w w' r base hi gd vt vh e (chgA types (tp.map Prod.fst) at' e) := by
  have hat : at' < tp.length := (List.getElem?_eq_some_iff.1 hp).1
  have hpm : p.1 ∈ tp.map Prod.fst := List.mem_map_of_mem (List.mem_of_getElem? hp)
  obtain ⟨⟨ht1, ht2⟩, ht3⟩ := hfit p.1 hpm
  rw [hpt] at ht1 ht2 ht3
  obtain ⟨k, hkk⟩ : ∃ k : Nat, k = e.ty.toNat := ⟨_, rfl⟩
  have htk : e.ty = (k : Int) := by omega
  have hkl : k < types.length := by omega
  have hfo : fieldsOf types e.ty = types[k].fields := by rw [fieldsOf, ← hkk, List.getElem?_eq_getElem hkl]
  obtain ⟨at2, ct, rfl, _, _⟩ := id hty
  obtain ⟨bt, ot, _, _, _, rfl, _⟩ := hty.at k hkl
  by_cases hfi : isIx e.field types[k].fields.length = true
  rotate_left
  · have hfi' : isIx e.field types[k].fields.length = false := by simpa using hfi
    refine (change_bad w gd bt ot ct k at' vh types e hG hty hkl htk hfi').mono ?_
    rintro r w' ⟨rfl, hK⟩
    rw [chgA, hfo, if_pos hfi']
    exact ⟨hK.to, rfl⟩
  obtain ⟨j, hjj⟩ : ∃ j : Nat, j = e.field.toNat := ⟨_, rfl⟩
  have hjr : 0 ≤ e.field ∧ e.field < types[k].fields.length := by simpa [isIx] using hfi
  have hj : e.field = (j : Int) := by omega
  have hjf : j < types[k].fields.length := by omega
  obtain ⟨cp, D', hcp, hownc, hhi, hD0', hDm', hDn', hids⟩ := hceo at' p hp
  have hcpl : cp.length = types[k].fields.length := by rw [← hfo, ← ht3, ← hcp]; simp
  have hj2 : j < cp.length := by omega
  obtain ⟨⟨c0, vk⟩, hpk⟩ : ∃ q, cp[j]? = some q := ⟨_, List.getElem?_eq_getElem hj2⟩
  have hc0 : c0 ∈ p.1.cells := by rw [← hcp]; exact List.mem_map_of_mem (f := Prod.fst) (List.mem_of_getElem? hpk)
  have hIk := hids j _ hpk
  obtain ⟨hr0, hl0⟩ := hcl p.1 hpm c0 hc0
  rcases hownc.2 with ⟨_, h0⟩ | ⟨g, cap, cur, hv2, hg, hb, hc1, hc2, hc3, htkc⟩
  · omega
  rcases hown.2 with ⟨_, h0⟩ | ⟨gh, caph, curh, hvh, hgh, hbh, hh1, hh2, hh3, htkh⟩
  · omega
  have hlo1 : base ≤ D at' := Nat.le_trans hD0 (D_mono hDm at' 0 (by omega) (by omega))
  have hlo2 : D at' ≤ D' j := Nat.le_trans hD0' (D_mono hDm' j 0 (by omega) (by omega))
  have hup2 : D' (j + 1) ≤ D (at' + 1) := Nat.le_trans (D_mono hDm' cp.length (j + 1) (by omega) (Nat.le_refl _)) hDn'
  have hgup : g < D (at' + 1) := hhi g (by rw [hv2]; rfl)
  have hcur : ∀ i, i < cp.length * 3 → cur[i]? = (ceCells cp)[i]? := by
    intro i hi
    rw [← htkc, List.getElem?_take_of_lt hi]
    simp
  obtain ⟨q0, q1, q2⟩ := ceCells_get hpk
  have hz := World.ownsRow.cellAt (hvh ▸ hown) (at' * 3 + 2) (by omega)
  rw [(thCells_get hp).2.2, hv2] at hz
  have hM := change_main w gd gh 0 g 0 bt ot tp.length caph ct base at' k j cp.length cap cur vk types (tp.map Prod.fst) types[k].fields[j] e c0 (hvh ▸ hG) hty (hvh ▸ hth) hs (by simpa using hl) hkl htk hj hjf rfl hj2 hat (by rw [Nat.zero_add]; exact hz) hb
    (by rw [Nat.zero_add, hcur _ (by omega)]; exact q0) (by rw [Nat.zero_add, hcur _ (by omega)]; exact q1) (by rw [Nat.zero_add, hcur _ (by omega)]; exact q2)
    (own_low hIk.1 (Nat.le_trans hlo1 hlo2)) hr0 hl0 hbase hk
  refine hM.mono ?_
  intro r w' hQ
  have hgf : getF (fieldsOf types e.ty) e.field = types[k].fields[j] := by rw [getF, hfo, ← hjj, List.getElem?_eq_getElem hjf]; rfl
  have hgt : getT (tp.map Prod.fst) at' = p.1 := by rw [getT, List.getElem?_map, hp]; rfl
  have hgc : getC p.1.cells e.field = c0 := by rw [getC, ← hjj, ← hcp, List.getElem?_map, hpk]; rfl
  rw [chgA, hfo, if_neg (by rw [hfi]; simp), ← hfo, hgf, hgt, hgc]
  by_cases hsu : suitsE e.kind types[k].fields[j].kind = false
  · rw [if_pos hsu] at hQ ⊢
    exact ⟨hQ.2.to, hQ.1⟩
  rw [if_neg hsu] at hQ ⊢
  cases hx : setC types (tp.map Prod.fst) types[k].fields[j] e c0 with
  | error m =>
    rw [hx] at hQ
    exact ⟨hQ.2.to, hQ.1⟩
  | ok c' =>
    rw [hx] at hQ
    obtain ⟨rfl, w1, v', hK1, ho, hK2, hH⟩ := hQ
    rw [Nat.zero_add] at hH
    have hDa := D_mono hDm tp.length (at' + 1) (by omega) (Nat.le_refl _)
    have hKK : Kept (fun k => base ≤ k ∧ k < hi) w w' := (hK1.mono (Y := (fun k => base ≤ k ∧ k < hi)) (fun x _ hx => by have h8 := (own_up hIk.1 x hx).1; have h9 := hIk.2 x hx; exact ⟨by omega, by omega⟩)).trans hK2 (fun x _ hx => ⟨by omega, by omega⟩)
    by_cases hw : wrongC types[k].fields[j] c' ≠ 0
    · simp only [if_pos hw]
      exact ⟨hKK, rfl⟩
    · simp only [if_neg hw]
      have hw0 : wrongC types[k].fields[j] c' = 0 := by simpa using hw
      have hb1 := blk_kept hb hK1 (row_blk hIk.1 hb (by decide))
      have hG1 := blk_kept hG hK1 (row_blk hIk.1 hG (by decide))
      have hgg : gd ≠ g := by
        rintro rfl
        rw [hG] at hb
        injection hb with h1
        injection h1 with h2 h3
        exact absurd h3 (by decide)
      refine ⟨hKK, by rw [hw0], blk_kept hG1 hK2 hgg, ?_⟩
      have hown1 := own_kept2 hown hK1 (fun x hx hy => rows_apart hown hIk.1 (by decide) x hx hy)
      have hown2 := own_kept2 hown1 hK2 (fun x hx he => row_blk hown1 hb1 (by decide) (by rw [← he]; exact hx))
      have hol := own_len ho rfl
      refine thg_own (base := base) (tp := tp.set at' (withC p.1 e.field c', p.2)) ?_ (fun x hx => (own_up hown2 x hx).1) (by rw [List.length_set]; unfold maxLen; omega) ?_ (by rw [List.map_set])
      · rw [List.length_set, thCells_set (withC p.1 e.field c') tp at' p hp rfl rfl]
        exact hown2
      · intro u hu
        obtain ⟨i, hi⟩ := List.getElem?_of_mem hu
        rw [List.getElem?_set] at hi
        by_cases hia : at' = i
        · subst hia
          rw [if_pos rfl, if_pos hat] at hi
          cases hi
          have hCH := cel_changed (base := base) hb hg hc1 hc2 hc3 htkc hids hDm' hD0' (fun q hq => by have := (hcl p.1 hpm q.1 (by rw [← hcp]; exact List.mem_map_of_mem hq)).2; unfold maxLen; omega) hol hpk hK1 ho hK2 hH hlo1 (Nat.le_refl _)
          rw [← hv2] at hCH
          show CelSl _ _ _ (p.1.cells.set e.field.toNat c')
          rw [← hjj, ← hcp]
          exact hCH
        · rw [if_neg hia] at hi
          have hil : i < tp.length := (List.getElem?_eq_some_iff.1 hi).1
          have hum : u.1 ∈ tp.map Prod.fst := List.mem_map_of_mem (List.mem_of_getElem? hi)
          have hcs := (hceo i u hi).sl (by have := hcn u.1 hum; unfold maxLen; omega) (fun c hc => by have := (hcl u.1 hum c hc).2; unfold maxLen; omega)
          have hap : ∀ x, (D i ≤ x ∧ x < D (i + 1)) → ¬ (D at' ≤ x ∧ x < D (at' + 1)) := by
            intro x hx hy
            rcases Nat.lt_or_gt_of_ne hia with h | h
            · have := D_mono hDm i (at' + 1) (by omega) (by omega); omega
            · have := D_mono hDm at' (i + 1) (by omega) (by omega); omega
          have hlo3 := D_mono hDm i 0 (by omega) (by omega)
          exact ((hcs.keep hK1 (fun x hx hy => hap x hx ⟨by have := (own_up hIk.1 x hy).1; omega, by have := hIk.2 x hy; omega⟩)).keep hK2 (fun x hx he => hap x hx (by subst he; exact ⟨hg, hgup⟩))).mono (fun x _ hx => by omega)

end Go.Proofs.YtidodjbmlbjchaaGreat
