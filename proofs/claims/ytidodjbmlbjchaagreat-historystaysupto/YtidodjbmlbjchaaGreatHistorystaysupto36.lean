/- doer.link. (Written by tool/gend26.py.) -/
import Derived.Test.YtidodjbmlbjchaaGreatHistorystaysupto35
namespace Go.Proofs.YtidodjbmlbjchaaGreat
open Go.RowKit

/-- the ids of a cell with an event's id -/
def linkL (f : FieldT) (e : EventT) (l : List Int) : List Int := if f.kind = 3 then [e.n] else l.insertIdx (placeI l e.n) e.n

def linkQ (w w' : World) (r : Ending) (base gc co : Nat) (v : Value) (types : List TypeT) (things : List ThingT) (f : FieldT) (e : EventT) (l : List Int) : Prop :=
  (hasTh things (typeNo types f.of) e.n = false ∧ r = .returned (.int .i64 5) ∧ Same w w') ∨
  (hasTh things (typeNo types f.of) e.n = true ∧ e.n ∈ l ∧ r = .returned (.int .i64 6) ∧ Same w w') ∨
  (hasTh things (typeNo types f.of) e.n = true ∧ ¬ e.n ∈ l ∧ r = .returned (.int .i64 0) ∧ ∃ w1 a' c', Kept (Row v) w w1 ∧ w1.ownsRow base 3 1 (.slice a' (linkL f e l).length c') (linkL f e l).length (idCells (linkL f e l)) ∧ Same (w1.setCell ⟨gc, co + 2, none⟩ (.slice a' (linkL f e l).length c')) w')

theorem enters_insI (args : Array Value) (w : World) : (callFunc 109 args).run Tryz.prog w = .ok (.enter 109 args) w := by kernel_rfl

set_option maxRecDepth 20000 in
set_option maxHeartbeats 6400000 in
theorem link_any (w : World) (gd gc co base : Nat) (cs : Array Value) (tc : TypeId) (vt vh v : Value) (types : List TypeT) (things : List ThingT) (f : FieldT) (e : EventT) (l : List Int)
    (hG : w.heap[gd]? = some (.cells (doC vt vh e) 52 (0, 0))) (hty : TypSl anyB w vt types) (hth : ThgSl anyB w vh things) (hs : sortT things) (hlt : things.length ≤ 1000)
    (hB : w.heap[gc]? = some (.cells cs tc (0, 0))) (hv : cs[co + 2]? = some v) (hown : w.ownsRow base 3 1 v l.length (idCells l)) (hne : 3 ≠ tc) (hr : riseI l = true) (hl : l.length ≤ 1000) (hbase : base ≤ w.heap.size) :
    Calls Tryz.prog 100 #[.pointer (some ⟨gd, 0, none⟩), .agg #[.string ⟨f.name.toArray⟩, .int .i64 f.kind, .string ⟨f.of.toArray⟩], .pointer (some ⟨gc, co, none⟩)] w fun r w' => linkQ w w' r base gc co v types things f e l := by
  obtain ⟨a, c, rfl⟩ := own_slice hown
  obtain ⟨at2, ct, rfl, _, _⟩ := id hty
  obtain ⟨ah, ch, rfl, _, _⟩ := id hth
  obtain ⟨x0, x1, x2, x3, x4, x5, x6, x7, xf⟩ := do_cells hG
  obtain ⟨y0, yf⟩ := blk_at hB _ _ hv
  have hgc : ¬ Row (.slice a l.length c) gc := row_blk hown hB hne
  have HIS := hide (fun wy (hy : Same w wy) => (IdO.sl (hi := w.heap.size) ⟨hown, fun k h => (own_up hown k h).2⟩ (by unfold maxLen; omega)).same hy)
  have HBK := hide (fun wy (hy : Same w wy) => blk_at (blk_kept hB hy (fun f => f)) _ _ hv)
  have HX := hide (And.intro hB (And.intro hv (And.intro hgc hbase)))
  have HOWN := hide hown
  have HX6 := hide (And.intro x6 (row_blk hown hG (by decide)))
  obtain ⟨p, hp⟩ : ∃ p, placeI l e.n = p := ⟨_, rfl⟩
  have HPL := hide (show p ≤ l.length by rw [← hp]; exact placeI_le _ _)
  have HP := hide hp
  obtain ⟨tn, htn⟩ : ∃ tn, typeNo types f.of = tn := ⟨_, rfl⟩
  obtain ⟨qq, hqq⟩ : ∃ qq, hasTh things tn e.n = qq := ⟨_, rfl⟩
  obtain ⟨q, hq⟩ : ∃ q, decide (e.n ∈ l) = q := ⟨_, rfl⟩
  have HBS := hide (fun wy (hy : Same w wy) => bsI_is wy a l.length c l e.n _ (HIS.out wy hy) hr (by omega) p HP.out q hq)
  have HTN := hide (fun wy (hy : Same w wy) => typeNamed_no wy _ types f.of anyB (hty.same hy))
  have HTA := hide (fun wy (hy : Same w wy) => thingAt_any wy _ things anyB (hth.same hy) hs hlt tn e.n)
  have HQQ := hide hqq
  have HQ := hide hq
  have HTNE := hide htn
  obtain ⟨W, hW⟩ : ∃ W, W = w.alloc (.cells #[.string ⟨f.name.toArray⟩, .int .i64 f.kind, .string ⟨f.of.toArray⟩] 58) := ⟨_, rfl⟩
  obtain ⟨gb, hgb⟩ : ∃ g, g = w.heap.size := ⟨_, rfl⟩
  have HKW := hide (show Same w W by rw [hW]; exact (Kept.refl _ w).alloc _)
  obtain ⟨b0, b1, b2⟩ := blk3 (show W.heap[gb]? = some (.cells #[.string ⟨f.name.toArray⟩, .int .i64 f.kind, .string ⟨f.of.toArray⟩] 58 (0, 0)) by rw [hW, hgb]; exact heap_alloc_new w _)
  have HALL := hide (fun wy (hy : Same W wy) => (⟨(tra HKW.out hy).cell x0 (fun f => f), (tra HKW.out hy).cell x1 (fun f => f), (tra HKW.out hy).cell x6 (fun f => f), (tra HKW.out hy).cell y0 (fun f => f), hy.cell b1 (fun f => f), hy.cell b2 (fun f => f)⟩ : wy.cell? ⟨gd, 0, none⟩ = some (.slice at2 types.length ct) ∧ wy.cell? ⟨gd, 1, none⟩ = some (.slice ah things.length ch) ∧ wy.cell? ⟨gd, 6, none⟩ = some (.int .i64 e.n) ∧ wy.cell? ⟨gc, co + 2, none⟩ = some (.slice a l.length c) ∧ wy.cell? ⟨gb, 1, none⟩ = some (.int .i64 f.kind) ∧ wy.cell? ⟨gb, 2, none⟩ = some (.string ⟨f.of.toArray⟩)))
  obtain ⟨c0, c1, c6, _, _, c2⟩ := HALL.out W (Kept.refl _ _)
  have hKc : Same W W := Kept.refl _ _
  clear hG hty hth hs hB hv hown hne hr hp htn hqq hq hgc x0 x1 x2 x3 x4 x5 x6 x7 xf y0 yf b0 b1 b2 hbase
  go_enter Tryz.func100, Tryz.ntmps100
  go_wp2_with fail
  rw [← hW, ← hgb]
  clear hW hgb
  go_region_held3 (fun w' => w'.cell? ⟨gd, 0, none⟩ = some (.slice at2 types.length ct) ∧ w'.cell? ⟨gd, 1, none⟩ = some (.slice ah things.length ch) ∧ w'.cell? ⟨gd, 6, none⟩ = some (.int .i64 e.n) ∧ w'.cell? ⟨gb, 2, none⟩ = some (.string ⟨f.of.toArray⟩)) (go_keep) (first
    | (go_at_call 67; refine (HTN.out _ (tra HKW.out (by exact (by repeat' (first | assumption | exact Kept.refl _ _ | refine Kept.drewN ?_ _ | refine Kept.drew ?_ | refine Kept.alloc ?_ _ | refine Kept.setB ?_ _ _))))).mono ?_; rintro e9 w9 ⟨rfl, hKn⟩; rw [HTNE.out]; have hKc := tra (by exact hKc.drewN _) hKn; obtain ⟨c0, c1, c6, _, _, c2⟩ := HALL.out _ hKc)
    | (go_at_call 28; refine (HTA.out _ (tra HKW.out (by first | exact hKc.drewN _ | exact hKc.drew | exact hKc))).mono ?_; rintro e9 w9 ⟨rfl, hKn⟩; have hKc := tra (by first | exact hKc.drewN _ | exact hKc.drew | exact hKc) hKn; obtain ⟨c0, c1, c6, _, _, c2⟩ := HALL.out _ hKc))
  obtain ⟨W9, hW9⟩ : ∃ W9, W9 = w9 := ⟨_, rfl⟩
  subst hW9
  have HK9 := hide hKc
  clear hKc hKn c0 c1 c6 c2
  rw [HQQ.out]
  cases qq
  · go_wp2_with fail
    go_ret
    unfold linkQ
    exact .inl ⟨by rw [HTNE.out]; exact HQQ.out, rfl, tra HKW.out HK9.out⟩
  obtain ⟨_, _, c6, y0, _, _⟩ := HALL.out _ HK9.out
  go_wp2_with fail
  go_region_held3 (fun w' => w'.cell? ⟨gd, 6, none⟩ = some (.int .i64 e.n) ∧ w'.cell? ⟨gc, co + 2, none⟩ = some (.slice a l.length c)) (go_keep)
    ((go_at_call 108; refine (HBS.out _ (tra HKW.out (tra HK9.out (by exact (by repeat' (first | assumption | exact Kept.refl _ _ | refine Kept.drewN ?_ _ | refine Kept.drew ?_ | refine Kept.alloc ?_ _ | refine Kept.setB ?_ _ _)))))).mono ?_; rintro e9 w3 ⟨rfl, hK3⟩; have u6 := hK3.cell (p := ⟨gd, 6, none⟩) (by exact c6) (fun f => f); have u2 := hK3.cell (p := ⟨gc, co + 2, none⟩) (by exact y0) (fun f => f)))
  have HK3 := hide (tra HK9.out hK3.unD)
  clear hK3 u6 u2 c6 y0
  have HKT := hide (tra HKW.out HK3.out)
  cases q
  rotate_left
  · go_wp2_with fail
    go_ret
    unfold linkQ
    exact .inr (.inl ⟨by rw [HTNE.out]; exact HQQ.out, of_decide_eq_true HQ.out, rfl, HKT.out⟩)
  have HNI := hide (of_decide_eq_false HQ.out)
  obtain ⟨_, _, c6, _, ck, _⟩ := HALL.out _ HK3.out
  by_cases hk3 : f.kind = 3
  · have HLL := hide (show linkL f e l = [e.n] by rw [linkL, if_pos hk3])
    rw [hk3] at ck
    clear hk3
    obtain ⟨y0, yf⟩ := HBK.out w3 HKT.out
    obtain ⟨W4, hW4⟩ : ∃ W4, W4 = w3.alloc (.cells #[.int .i64 e.n] 3) := ⟨_, rfl⟩
    have HK4 := hide (show Same w3 W4 by rw [hW4]; exact (Kept.refl _ w3).alloc _)
    obtain ⟨z0, zf⟩ := HBK.out W4 (tra HKT.out HK4.out)
    have hO4 : W4.ownsRow base 3 1 (.slice (some ⟨w3.heap.size, 0, none⟩) 1 1) 1 (idCells [e.n]) := by
      refine ⟨rfl, .inr ⟨w3.heap.size, 1, #[.int .i64 e.n], rfl, Nat.le_trans HX.out.2.2.2 HKT.out.size, by rw [hW4]; exact heap_alloc_new _ _, by omega, by unfold maxLen; omega, rfl, rfl⟩⟩
    have HO4 := hide hO4
    rw [hW4] at z0 zf
    have HW4 := hide hW4
    clear hO4 hW4
    go_wp2_with fail
    go_ret
    unfold linkQ
    exact .inr (.inr ⟨by rw [HTNE.out]; exact HQQ.out, HNI.out, rfl, W4, _, _, (tra HKT.out HK4.out).to, by rw [HLL.out]; exact HO4.out, by rw [HLL.out, HW4.out]; exact (by repeat' (first | assumption | exact Kept.refl _ _ | refine Kept.drewN ?_ _ | refine Kept.drew ?_ | refine Kept.alloc ?_ _ | refine Kept.setB ?_ _ _))⟩)
  have hkf : (f.kind == 3) = false := by simp [hk3]
  have HLL := hide (show linkL f e l = l.insertIdx p e.n by rw [linkL, if_neg hk3, HP.out])
  clear hk3
  have HU := hide (own_up HOWN.out)
  obtain ⟨y0, yf⟩ := HBK.out w3 HKT.out
  have HC := hide (fun wy (hy : Same w3 wy) => (⟨hy.cell y0 (fun f => f), hy.cell c6 (fun f => f)⟩ : wy.cell? ⟨gc, co + 2, none⟩ = some (.slice a l.length c) ∧ wy.cell? ⟨gd, 6, none⟩ = some (.int .i64 e.n)))
  have HOW3 := hide (fun wy (hy : Same w3 wy) => own_kept HOWN.out (tra HKT.out hy) (fun _ _ f => f))
  go_wp2_with fail
  refine wp_region_noPanic ?_
  refine wp_till 15 (fun w' => w'.cell? ⟨gc, co + 2, none⟩ = some (.slice a l.length c) ∧ w'.cell? ⟨gd, 6, none⟩ = some (.int .i64 e.n)) (by kernel_rfl) ?_ (fun hC0 => ?_)
  · exact HC.out _ (by repeat' (first | assumption | exact Kept.refl _ _ | refine Kept.drew ?_ | refine Kept.drewN ?_ _))
  refine till_any (i := 0) (v := ?v1) rfl (by kernel_rfl) (by kernel_rfl) (by kernel_rfl) (by kernel_rfl) (fun _ _ _ h => h) (Or.inl ⟨by rfl, ?hy1⟩) (fun _ => hC0) ?rest1
  case hy1 => (intro w hSw; (try dsimp only at hSw); go_simp <;> (with_reducible rfl))
  try simp only [Act.put, List.setIfInBounds_toArray]
  refine till_any (i := 1) (v := ?v2) rfl (by kernel_rfl) (by kernel_rfl) (by kernel_rfl) (by kernel_rfl) (fun _ _ _ h => h) (Or.inl ⟨by rfl, ?hy2⟩) (fun _ => hC0) ?rest2
  case hy2 => (intro w hSw; (try dsimp only at hSw); go_simp <;> (with_reducible rfl))
  try simp only [Act.put]
  refine till_any (i := 2) (v := ?v3) rfl (by kernel_rfl) (by kernel_rfl) (by kernel_rfl) (by kernel_rfl) (fun _ _ _ h => h) (Or.inl ⟨by rfl, ?hy3⟩) (fun _ => hC0) ?rest3
  case hy3 => (intro w hSw; (try dsimp only at hSw); go_simp <;> (with_reducible rfl))
  try simp only [Act.put]
  refine till_any (i := 3) (v := ?v4) rfl (by kernel_rfl) (by kernel_rfl) (by kernel_rfl) (by kernel_rfl) (fun _ _ _ h => h) (Or.inl ⟨by rfl, ?hy4⟩) (fun _ => hC0) ?rest4
  case hy4 => (intro w hSw; (try dsimp only at hSw); go_simp <;> (with_reducible rfl))
  try simp only [Act.put]
  refine till_take (i := 4) (v := ?v5) rfl (by kernel_rfl) (by kernel_rfl) (by kernel_rfl) (by kernel_rfl) (fun _ _ _ h => h) (Or.inl ⟨by rfl, ?hy5⟩) hC0 ?rest5
  case hy5 => (intro w hSw; (try dsimp only at hSw); go_simp <;> (with_reducible rfl))
  try simp only [Act.put]
  refine till_any (i := 5) (v := ?v6) rfl (by kernel_rfl) (by kernel_rfl) (by kernel_rfl) (by kernel_rfl) (fun _ _ _ h => h) (Or.inl ⟨by rfl, ?hy6⟩) (fun _ => hC0) ?rest6
  case hy6 => (intro w hSw; (try dsimp only at hSw); go_simp <;> (with_reducible rfl))
  try simp only [Act.put]
  refine till_any (i := 6) (v := ?v7) rfl (by kernel_rfl) (by kernel_rfl) (by kernel_rfl) (by kernel_rfl) (fun _ _ _ h => h) (Or.inl ⟨by rfl, ?hy7⟩) (fun _ => hC0) ?rest7
  case hy7 => (intro w hSw; (try dsimp only at hSw); go_simp <;> (with_reducible rfl))
  try simp only [Act.put]
  refine till_any (i := 7) (v := ?v8) rfl (by kernel_rfl) (by kernel_rfl) (by kernel_rfl) (by kernel_rfl) (fun _ _ _ h => h) (Or.inl ⟨by rfl, ?hy8⟩) (fun _ => hC0) ?rest8
  case hy8 => (intro w hSw; (try dsimp only at hSw); go_simp <;> (with_reducible rfl))
  try simp only [Act.put]
  refine till_any (i := 8) (v := ?v9) rfl (by kernel_rfl) (by kernel_rfl) (by kernel_rfl) (by kernel_rfl) (fun _ _ _ h => h) (Or.inl ⟨by rfl, ?hy9⟩) (fun _ => hC0) ?rest9
  case hy9 => (intro w hSw; (try dsimp only at hSw); go_simp <;> (with_reducible rfl))
  try simp only [Act.put]
  refine till_any (i := 9) (v := ?v10) rfl (by kernel_rfl) (by kernel_rfl) (by kernel_rfl) (by kernel_rfl) (fun _ _ _ h => h) (Or.inl ⟨by rfl, ?hy10⟩) (fun _ => hC0) ?rest10
  case hy10 => (intro w hSw; (try dsimp only at hSw); go_simp <;> (with_reducible rfl))
  try simp only [Act.put]
  refine till_take (i := 10) (v := ?v11) rfl (by kernel_rfl) (by kernel_rfl) (by kernel_rfl) (by kernel_rfl) (fun _ _ _ h => h) (Or.inl ⟨by rfl, ?hy11⟩) hC0 ?rest11
  case hy11 => (intro w hSw; (try dsimp only at hSw); go_simp <;> (with_reducible rfl))
  try simp only [Act.put]
  refine till_ready (rs := [11]) (by kernel_rfl) (by simp) ?_
  refine TillReady.cons rfl (fun K hK => ?_) TillReady.nil
  go_simp
  refine hK.out _ _ ?_ (fun hC12 => ?_)
  · exact HC.out _ (by (repeat' (first | assumption | exact Kept.refl _ _ | refine Kept.drew ?_ | refine Kept.drewN ?_ _ | refine Kept.alloc ?_ _)))
  clear hK K hC0
  try simp only [Act.put, List.setIfInBounds_toArray, List.set_cons_zero, List.set_cons_succ]
  refine till_ready (rs := [12]) (by kernel_rfl) (by simp) ?_
  refine TillReady.cons rfl (fun K hK => ?_) TillReady.nil
  refine step_call (by rfl) 109 _ _ rfl #[.slice a l.length c, .int .i64 p, .slice (some ⟨w3.heap.size, 0, none⟩) 1 1] (by simp [Act.eval]) (enters_insI _)
    (insI_own _ base l.length p w3.heap.size (.slice a l.length c) (idCells l) [.int .i64 e.n] (HOW3.out _ (show Same w3 _ from (by (repeat' (first | assumption | exact Kept.refl _ _ | refine Kept.drew ?_ | refine Kept.drewN ?_ _ | refine Kept.alloc ?_ _))))) HPL.out (by omega) (idCells_one l) (by exact heap_alloc_new _ _) rfl (by intro u hu; simp at hu; subst hu; rfl) (fun hr => by have h1 := (HU.out _ hr).2; have h2 := HKT.out.size; omega) (Nat.le_trans HX.out.2.2.2 (Nat.le_trans HKT.out.size (show Same w3 _ from (by (repeat' (first | assumption | exact Kept.refl _ _ | refine Kept.drew ?_ | refine Kept.drewN ?_ _ | refine Kept.alloc ?_ _)))).size))) ?_
  rintro e9 w4 ⟨v3, rfl, hk4, ho4⟩
  obtain ⟨a3, c3, hv3⟩ := own_slice ho4
  subst hv3
  refine ⟨_, rfl, ?_⟩
  have hKw : Kept (Row (.slice a l.length c)) w w4 := HKT.out.to.trans ((show Same w3 _ from (by (repeat' (first | assumption | exact Kept.refl _ _ | refine Kept.drew ?_ | refine Kept.drewN ?_ _ | refine Kept.alloc ?_ _)))).to.trans hk4 (fun _ _ e => e)) (fun _ _ e => e)
  obtain ⟨g9, gf⟩ := blk_at (blk_kept HX.out.1 hKw HX.out.2.2.1) _ _ HX.out.2.1
  have g6 := hKw.cell (p := ⟨gd, 6, none⟩) HX6.out.1 HX6.out.2
  have HG4 := hide (And.intro hKw ho4)
  clear hk4 ho4 hKw
  refine hK.out _ _ ?_ (fun hC13 => ?_)
  · exact ⟨g9, g6⟩
  clear hK K hC12
  try simp only [Act.put, List.setIfInBounds_toArray]
  refine till_any (i := 13) (v := ?v14) rfl (by kernel_rfl) (by kernel_rfl) (by kernel_rfl) (by kernel_rfl) (fun _ _ _ h => h) (Or.inl ⟨by rfl, ?hy14⟩) (fun _ => hC13) ?rest14
  case hy14 => (intro w hSw; (try dsimp only at hSw); go_simp <;> (with_reducible rfl))
  try simp only [Act.put]
  refine till_any (i := 14) (v := ?v15) rfl (by kernel_rfl) (by kernel_rfl) (by kernel_rfl) (by kernel_rfl) (fun _ _ _ h => h) (Or.inl ⟨by rfl, ?hy15⟩) (fun _ => hC13) ?rest15
  case hy15 => (intro w hSw; (try dsimp only at hSw); go_simp <;> (with_reducible rfl))
  try simp only [Act.put]
  refine till_ready (rs := [15]) (by kernel_rfl) (by simp) ?_
  refine TillReady.free rfl (by kernel_rfl) (fun K hK => ?_) TillReady.nil
  go_simp
  refine hK.out _ _ ?_
  clear hK K
  try simp only [Act.put, List.setIfInBounds_toArray, List.set_cons_zero, List.set_cons_succ]
  refine till_done (by kernel_rfl) ?_ _
  refine NoPanic.normal ?_
  clear g9 g6 gf
  go_wp2_with fail
  go_ret
  unfold linkQ
  have hll : (l.insertIdx p e.n).length = l.length + 1 := List.length_insertIdx_of_le_length HPL.out _
  exact .inr (.inr ⟨by rw [HTNE.out]; exact HQQ.out, HNI.out, rfl, w4, a3, c3, HG4.out.1, by rw [HLL.out, hll, ← idCells_insert l p e.n HPL.out]; exact HG4.out.2, by rw [HLL.out, hll]; exact Kept.refl _ _⟩)

end Go.Proofs.YtidodjbmlbjchaaGreat
