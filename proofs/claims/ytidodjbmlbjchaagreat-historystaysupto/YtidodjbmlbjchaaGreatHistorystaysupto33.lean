/- doer.drop. (Written by tool/gend22.py.) -/
import Derived.Test.YtidodjbmlbjchaaGreatHistorystaysupto32
namespace Go.Proofs.YtidodjbmlbjchaaGreat
open Go.RowKit

theorem enters_del (args : Array Value) (w : World) : (callFunc 84 args).run Tryz.prog w = .ok (.enter 84 args) w := by kernel_rfl
theorem thCells_erase (tp : List (ThingT × Value)) (i : Nat) : (thCells tp).take (i * 3) ++ (thCells tp).drop ((i + 1) * 3) = thCells (tp.eraseIdx i) := by
  rw [List.eraseIdx_eq_take_drop_succ, thCells_take, thCells_drop, thCells_app]
theorem map_erase {α β : Type} (f : α → β) (l : List α) (i : Nat) : (l.eraseIdx i).map f = (l.map f).eraseIdx i := by
  rw [List.eraseIdx_eq_take_drop_succ, List.eraseIdx_eq_take_drop_succ, List.map_append, List.map_take, List.map_drop]

/-- slices.Delete of one thing, out of a row of the call's own -/
theorem delT_own (w : World) (base n i j : Nat) (v : Value) (tp : List (ThingT × Value)) (hown : w.ownsRow base 68 3 v n (thCells tp)) (hn : n = tp.length) (hi : i < n) (hj : j = i + 1) (hcap : n ≤ 1000000) (h1 : ∀ v ∈ thCells tp, v.oneCell' = true) :
    Calls Tryz.prog 84 #[v, .int .i64 i, .int .i64 j] w fun r w' => ∃ a c, r = .returned (.slice a (n - 1) c) ∧ Kept (Row v) w w' ∧ w'.ownsRow base 68 3 (.slice a (n - 1) c) (tp.eraseIdx i).length (thCells (tp.eraseIdx i)) := by
  subst hj
  rcases hown.2 with ⟨rfl, h0⟩ | ⟨g, cap, cur, rfl, hg, hh, hnc, hcm, hcs, htk⟩
  · omega
  · have hcl : cur.toList.length = cap * 3 := by simpa using hcs
    refine (deleteT_any w g cap n i (i + 1) cur.toList hh (by omega) hnc hcm hcap hi (by omega) (by omega) (by rw [htk]; exact h1)).mono ?_
    rintro r w' ⟨rfl, hk, cur', hg', hl', ht'⟩
    have hel : (tp.eraseIdx i).length = n - 1 := by rw [List.length_eraseIdx, if_pos (by omega)]; omega
    refine ⟨_, _, rfl, hk.mono (fun k _ e => by rw [e]; rfl), by rw [thCells_len], .inr ⟨g, cap, cur'.toArray, by rw [hel], hg, hg', by omega, hcm, by simp; omega, ?_⟩⟩
    rw [← thCells_erase, hel]
    have h2 := ht'
    rw [htk] at h2
    have h3 : (thCells tp).take (i * 3) = cur.toList.take (i * 3) := by rw [← htk, List.take_take, Nat.min_eq_left (by omega)]
    rw [h3]
    simpa using h2

set_option maxRecDepth 20000 in
set_option maxHeartbeats 6400000 in
theorem drop_any (w : World) (gd base at' : Nat) (vt vh : Value) (types : List TypeT) (tp : List (ThingT × Value)) (e : EventT)
    (hG : w.heap[gd]? = some (.cells (doC vt vh e) 52 (0, 0))) (hty : TypSl anyB w vt types) (hown : w.ownsRow base 68 3 vh tp.length (thCells tp))
    (hcel : ∀ p ∈ tp, CelSl (fun k => base ≤ k ∧ k ≠ gd ∧ ¬ Row vh k) w p.2 p.1.cells) (hix : isIx e.ty types.length = true) (hat : at' < tp.length) (hl : tp.length ≤ 1000) (hfit : ∀ t ∈ tp.map Prod.fst, fitTh types t) (hbase : base ≤ w.heap.size) (hgd : ¬ Row vh gd) :
    Calls Tryz.prog 58 #[.pointer (some ⟨gd, 0, none⟩), .int .i64 at'] w fun r w' =>
      (eachT types (meansC (nameOf types e.ty) e.id) (tp.map Prod.fst) ≠ 0 ∧ r = .returned (.int .i64 (eachT types (meansC (nameOf types e.ty) e.id) (tp.map Prod.fst))) ∧ Same w w') ∨
      (eachT types (meansC (nameOf types e.ty) e.id) (tp.map Prod.fst) = 0 ∧ r = .returned (.int .i64 0) ∧ ∃ vh', w'.heap[gd]? = some (.cells (doC vt vh' e) 52 (0, 0)) ∧ ThgSl (base ≤ ·) w' vh' ((tp.map Prod.fst).eraseIdx at') ∧ Kept (fun k => k = gd ∨ Row vh k) w w') := by
  obtain ⟨ah, ch, rfl⟩ := own_slice hown
  obtain ⟨at2, ct, rfl, _, _⟩ := id hty
  obtain ⟨x0, x1, x2, x3, x4, x5, x6, x7, xf⟩ := do_cells hG
  have hty2 : 0 ≤ e.ty ∧ e.ty < types.length := by
    simp only [isIx, Bool.and_eq_true, decide_eq_true_eq] at hix
    exact hix
  obtain ⟨k, hk⟩ : ∃ k : Nat, k = e.ty.toNat := ⟨_, rfl⟩
  have htk : e.ty = (k : Int) := by omega
  have hkl : k < types.length := by omega
  have HNM := hide (show nameOf types e.ty = types[k].name by rw [nameOf, ← hk, List.getElem?_eq_getElem hkl])
  obtain ⟨bt, ot, af, nf, cf, hao, y0, y1, hnf, hfl⟩ := hty.at k hkl
  subst hao
  obtain ⟨nm, hnm⟩ : ∃ nm, nm = types[k].name := ⟨_, rfl⟩
  rw [← hnm] at y0 HNM
  obtain ⟨M, hM⟩ : ∃ M, eachT types (meansC (nameOf types e.ty) e.id) (tp.map Prod.fst) = M := ⟨_, rfl⟩
  have HMM := hide hM
  rw [hM]
  have x3' : w.cell? ⟨gd, 3, none⟩ = some (.int .i64 k) := by rw [x3, htk]
  have hthg : ThgSl anyB w (.slice ah tp.length ch) (tp.map Prod.fst) := thg_own hown (fun _ _ => trivial) (by unfold maxLen; omega) (fun p hp => (hcel p hp).mono (fun _ _ _ => trivial)) rfl
  obtain ⟨W, hW⟩ : ∃ W, W = w.alloc (.cells #[.pointer (some ⟨gd, 0, none⟩)] 92) := ⟨_, rfl⟩
  obtain ⟨gb, hgb⟩ : ∃ g, g = w.heap.size := ⟨_, rfl⟩
  have HKW := hide (show Same w W by rw [hW]; exact (Kept.refl _ w).alloc _)
  have hbb : W.cell? ⟨gb, 0, none⟩ = some (.pointer (some ⟨gd, 0, none⟩)) := by rw [hW, hgb]; exact (blk1 (heap_alloc_new w _)).1
  have HALL := hide (fun wy (hy : Same W wy) => (⟨hy.cell hbb (fun f => f), (tra HKW.out hy).cell x0 (fun f => f), (tra HKW.out hy).cell x1 (fun f => f), (tra HKW.out hy).cell x3' (fun f => f), (tra HKW.out hy).cell x4 (fun f => f), (tra HKW.out hy).cell y0 (fun f => f)⟩ : wy.cell? ⟨gb, 0, none⟩ = some (.pointer (some ⟨gd, 0, none⟩)) ∧ wy.cell? ⟨gd, 0, none⟩ = some (.slice (some ⟨bt, ot, none⟩) types.length ct) ∧ wy.cell? ⟨gd, 1, none⟩ = some (.slice ah tp.length ch) ∧ wy.cell? ⟨gd, 3, none⟩ = some (.int .i64 k) ∧ wy.cell? ⟨gd, 4, none⟩ = some (.int .i64 e.id) ∧ wy.cell? ⟨bt, ot + k * 2, none⟩ = some (.string ⟨nm.toArray⟩)))
  have hcf : ∀ (args : Array Value) (w : World), (callFunc 82 args).run Tryz.prog w = .ok (.enter 82 args) w := by intro args w; kernel_rfl
  have hmf : ∀ (fn : Fn) (first cap : Array Value) (w : World), (Instr.makeFunc fn first cap).run Tryz.prog w = .ok (.func fn first cap) w := fun _ _ _ _ => rfl
  have HEC := hide (fun wy (hy : Same W wy) (gn : Nat) (hgn : wy.cell? ⟨gn, 0, none⟩ = some (.string ⟨nm.toArray⟩)) => eachCell_any wy _ _ types (tp.map Prod.fst) 82 #[.pointer (some ⟨gn, 0, none⟩), .pointer (some ⟨gb, 0, none⟩)] (meansC nm e.id) hcf (hty.same (tra HKW.out hy)) (hthg.same (tra HKW.out hy)) hfit (dropAsk_any wy gn gb gd nm e.id hgn (HALL.out wy hy).1 (HALL.out wy hy).2.2.2.2.1))
  have HME := hide (show eachT types (meansC nm e.id) (tp.map Prod.fst) = M by rw [← HNM.out]; exact HMM.out)
  obtain ⟨c0, c1, c2, c3, c4, c5⟩ := HALL.out W (Kept.refl _ _)
  have HX := hide (And.intro xf (And.intro hG (And.intro hgd hbase)))
  have HOWN := hide hown
  have HCEL := hide hcel
  clear hG hty hown hcel hix hfit hbase hgd hM hk htk hty2 hnm hnf hfl hthg x0 x1 x2 x3 x4 x5 x6 x7 x3' xf y0 y1 hbb
  go_enter Tryz.func58, Tryz.ntmps58
  go_wp2_with fail
  rw [← hW, ← hgb]
  have HGW := hide hgb
  clear hW hgb
  go_region_held3 (fun w' => w'.cell? ⟨gb, 0, none⟩ = some (.pointer (some ⟨gd, 0, none⟩)) ∧ w'.cell? ⟨gd, 0, none⟩ = some (.slice (some ⟨bt, ot, none⟩) types.length ct) ∧ w'.cell? ⟨gd, 3, none⟩ = some (.int .i64 k) ∧ w'.cell? ⟨bt, ot + k * 2, none⟩ = some (.string ⟨nm.toArray⟩)) (go_keep) (fail)
  obtain ⟨W2, hW2⟩ : ∃ W2, W2 = (W.alloc (.cells #[.string ⟨nm.toArray⟩] 9)).drew := ⟨_, rfl⟩
  obtain ⟨gn, hgn⟩ : ∃ g, g = W.heap.size := ⟨_, rfl⟩
  have HK2 := hide (show Same W W2 by rw [hW2]; exact ((Kept.refl _ W).alloc _).drew)
  have hgc : W2.cell? ⟨gn, 0, none⟩ = some (.string ⟨nm.toArray⟩) := by rw [hW2, hgn]; exact (blk1 (heap_alloc_new W _)).1
  rw [← hW2, ← hgn]
  have HEC2 := hide (fun wy (hy : Same W2 wy) => HEC.out wy (tra HK2.out hy) gn (hy.cell hgc (fun f => f)))
  clear hW2 hgn c0 c1 c2 c3 c4 c5 HEC hgc
  obtain ⟨c0, c1, c2, c3, c4, c5⟩ := HALL.out W2 HK2.out
  clear c3 c4 c5
  go_wp2_with fail
  go_region_held3 (fun w' => w'.cell? ⟨gb, 0, none⟩ = some (.pointer (some ⟨gd, 0, none⟩)) ∧ w'.cell? ⟨gd, 0, none⟩ = some (.slice (some ⟨bt, ot, none⟩) types.length ct) ∧ w'.cell? ⟨gd, 1, none⟩ = some (.slice ah tp.length ch)) (go_keep)
    ((go_at_call 62; refine (HEC2.out _ (by exact (by repeat' (first | assumption | exact Kept.refl _ _ | refine Kept.drewN ?_ _ | refine Kept.drew ?_ | refine Kept.alloc ?_ _ | refine Kept.setB ?_ _ _)))).mono ?_; rintro e9 w3 ⟨rfl, hK3⟩; have u0 := hK3.cell (p := ⟨gb, 0, none⟩) (by exact c0) (fun f => f); have u1 := hK3.cell (p := ⟨gd, 0, none⟩) (by exact c1) (fun f => f); have u2 := hK3.cell (p := ⟨gd, 1, none⟩) (by exact c2) (fun f => f)))
  have HK3 := hide (show Same W2 w3 from hK3.unD)
  rw [HME.out]
  clear hK3 u0 u1 u2 c0 c1 c2
  by_cases hM0 : M = 0
  rotate_left
  · have hMb : (M == 0) = false := by simp [hM0]
    have HMZ := hide hM0
    clear hM0
    go_wp2_with fail
    go_ret
    exact .inl ⟨HMZ.out, rfl, tra HKW.out (tra HK2.out HK3.out)⟩
  subst hM0
  have HKX := hide (tra HK2.out HK3.out)
  obtain ⟨c0, c1, c2, c3, c4, c5⟩ := HALL.out w3 HKX.out
  clear c1 c3 c4 c5
  have HU := hide (own_up HOWN.out)
  have HC := hide (fun wy (hy : Same w3 wy) => (⟨hy.cell c0 (fun f => f), hy.cell c2 (fun f => f)⟩ : wy.cell? ⟨gb, 0, none⟩ = some (.pointer (some ⟨gd, 0, none⟩)) ∧ wy.cell? ⟨gd, 1, none⟩ = some (.slice ah tp.length ch)))
  have HOW3 := hide (fun wy (hy : Same w3 wy) => own_kept HOWN.out (tra HKW.out (tra HKX.out hy)) (fun _ _ f => f))
  have HONE := hide (thCells_one HCEL.out)
  have HKT := hide (tra HKW.out HKX.out)
  obtain ⟨j, hj⟩ : ∃ j, j = at' + 1 := ⟨_, rfl⟩
  have hwr : IntKind.i64.wrap ((at' : Int) + 1) = (j : Int) := by rw [IntKind.wrap_i64]; omega
  have HJ := hide hj
  have HGB := hide (show ¬ Row (.slice ah tp.length ch) gb by
    intro hr
    have h1 := (HU.out _ hr).2
    have h2 := HALL.out W (Kept.refl _ _)
    exact absurd h1 (by rw [HGW.out]; omega))
  clear hj
  go_wp2_with fail
  refine wp_region_noPanic ?_
  refine wp_till 13 (fun w' => w'.cell? ⟨gb, 0, none⟩ = some (.pointer (some ⟨gd, 0, none⟩)) ∧ w'.cell? ⟨gd, 1, none⟩ = some (.slice ah tp.length ch)) (by kernel_rfl) ?_ (fun hC0 => ?_)
  · exact HC.out _ (by repeat' (first | assumption | exact Kept.refl _ _ | refine Kept.drew ?_ | refine Kept.drewN ?_ _))
  refine till_take (i := 0) (v := ?v1) rfl (by kernel_rfl) (by kernel_rfl) (by kernel_rfl) (by kernel_rfl) (fun _ _ _ h => h) (Or.inl ⟨by rfl, ?hy1⟩) hC0 ?rest1
  case hy1 => (intro w hSw; (try dsimp only at hSw); go_simp <;> (with_reducible rfl))
  try simp only [Act.put, List.setIfInBounds_toArray]
  refine till_take (i := 1) (v := ?v2) rfl (by kernel_rfl) (by kernel_rfl) (by kernel_rfl) (by kernel_rfl) (fun _ _ _ h => h) (Or.inl ⟨by rfl, ?hy2⟩) hC0 ?rest2
  case hy2 => (intro w hSw; (try dsimp only at hSw); go_simp <;> (with_reducible rfl))
  try simp only [Act.put]
  refine till_any (i := 2) (v := ?v3) rfl (by kernel_rfl) (by kernel_rfl) (by kernel_rfl) (by kernel_rfl) (fun _ _ _ h => h) (Or.inl ⟨by rfl, ?hy3⟩) (fun _ => hC0) ?rest3
  case hy3 => (intro w hSw; (try dsimp only at hSw); go_simp <;> (with_reducible rfl))
  try simp only [Act.put]
  refine till_any (i := 3) (v := ?v4) rfl (by kernel_rfl) (by kernel_rfl) (by kernel_rfl) (by kernel_rfl) (fun _ _ _ h => h) (Or.inl ⟨by rfl, ?hy4⟩) (fun _ => hC0) ?rest4
  case hy4 => (intro w hSw; (try dsimp only at hSw); go_simp <;> (with_reducible rfl))
  try simp only [Act.put]
  refine till_any (i := 4) (v := ?v5) rfl (by kernel_rfl) (by kernel_rfl) (by kernel_rfl) (by kernel_rfl) (fun _ _ _ h => h) (Or.inl ⟨by rfl, ?hy5⟩) (fun _ => hC0) ?rest5
  case hy5 => (intro w hSw; (try dsimp only at hSw); go_simp <;> (with_reducible rfl))
  try simp only [Act.put]
  refine till_take (i := 5) (v := ?v6) rfl (by kernel_rfl) (by kernel_rfl) (by kernel_rfl) (by kernel_rfl) (fun _ _ _ h => h) (Or.inl ⟨by rfl, ?hy6⟩) hC0 ?rest6
  case hy6 => (intro w hSw; (try dsimp only at hSw); go_simp <;> (with_reducible rfl))
  try simp only [Act.put]
  refine till_any (i := 6) (v := ?v7) rfl (by kernel_rfl) (by kernel_rfl) (by kernel_rfl) (by kernel_rfl) (fun _ _ _ h => h) (Or.inl ⟨by rfl, ?hy7⟩) (fun _ => hC0) ?rest7
  case hy7 => (intro w hSw; (try dsimp only at hSw); go_simp <;> (with_reducible rfl))
  try simp only [Act.put]
  refine till_any (i := 7) (v := ?v8) rfl (by kernel_rfl) (by kernel_rfl) (by kernel_rfl) (by kernel_rfl) (fun _ _ _ h => h) (Or.inl ⟨by rfl, ?hy8⟩) (fun _ => hC0) ?rest8
  case hy8 => (intro w hSw; (try dsimp only at hSw); go_simp <;> (with_reducible rfl))
  try simp only [Act.put]
  refine till_any (i := 8) (v := ?v9) rfl (by kernel_rfl) (by kernel_rfl) (by kernel_rfl) (by kernel_rfl) (fun _ _ _ h => h) (Or.inl ⟨by rfl, ?hy9⟩) (fun _ => hC0) ?rest9
  case hy9 => (intro w hSw; (try dsimp only at hSw); go_simp <;> (with_reducible rfl))
  try simp only [Act.put]
  refine till_ready (rs := [9]) (by kernel_rfl) (by simp) ?_
  refine TillReady.cons rfl (fun K hK => ?_) TillReady.nil
  refine step_call (by rfl) 84 _ _ rfl #[.slice ah tp.length ch, .int .i64 at', .int .i64 j] (by simp [Act.eval]) (enters_del _)
    (delT_own _ base tp.length at' j (.slice ah tp.length ch) tp (HOW3.out _ (show Same w3 _ from (by (repeat' (first | assumption | exact Kept.refl _ _ | refine Kept.drew ?_ | refine Kept.drewN ?_ _ | refine Kept.alloc ?_ _))))) rfl hat HJ.out (by omega) HONE.out) ?_
  rintro e9 w4 ⟨a3, c3, rfl, hk4, ho4⟩
  refine ⟨_, rfl, ?_⟩
  have hKa : Kept (Row (.slice ah tp.length ch)) w3 w4 := (show Same w3 _ from (by (repeat' (first | assumption | exact Kept.refl _ _ | refine Kept.drew ?_ | refine Kept.drewN ?_ _ | refine Kept.alloc ?_ _)))).to.trans hk4 (fun _ _ e => e)
  have hKw : Kept (Row (.slice ah tp.length ch)) w w4 := HKT.out.to.trans hKa (fun _ _ e => e)
  have hG4 := blk_kept HX.out.2.1 hKw HX.out.2.2.1
  obtain ⟨g0, g1, g2, g3, g4, g5, g6, g7, gf⟩ := do_cells hG4
  have g9 := hKa.cell c0 HGB.out
  have HG4 := hide (And.intro hG4 (And.intro hKa (And.intro hKw ho4)))
  clear hk4 ho4 hKa hKw hG4 g0 g2 g3 g4 g5 g6 g7
  refine hK.out _ _ ?_ (fun hC10 => ?_)
  · exact ⟨g9, g1⟩
  clear hK K hC0
  try simp only [Act.put]
  refine till_any (i := 10) (v := ?v11) rfl (by kernel_rfl) (by kernel_rfl) (by kernel_rfl) (by kernel_rfl) (fun _ _ _ h => h) (Or.inl ⟨by rfl, ?hy11⟩) (fun _ => hC10) ?rest11
  case hy11 => (intro w hSw; (try dsimp only at hSw); go_simp <;> (with_reducible rfl))
  try simp only [Act.put]
  refine till_any (i := 11) (v := ?v12) rfl (by kernel_rfl) (by kernel_rfl) (by kernel_rfl) (by kernel_rfl) (fun _ _ _ h => h) (Or.inl ⟨by rfl, ?hy12⟩) (fun _ => hC10) ?rest12
  case hy12 => (intro w hSw; (try dsimp only at hSw); go_simp <;> (with_reducible rfl))
  try simp only [Act.put]
  refine till_any (i := 12) (v := ?v13) rfl (by kernel_rfl) (by kernel_rfl) (by kernel_rfl) (by kernel_rfl) (fun _ _ _ h => h) (Or.inl ⟨by rfl, ?hy13⟩) (fun _ => hC10) ?rest13
  case hy13 => (intro w hSw; (try dsimp only at hSw); go_simp <;> (with_reducible rfl))
  try simp only [Act.put]
  refine till_ready (rs := [13]) (by kernel_rfl) (by simp) ?_
  refine TillReady.free rfl (by kernel_rfl) (fun K hK => ?_) TillReady.nil
  go_simp
  refine hK.out _ _ ?_
  clear hK K
  try simp only [Act.put, List.setIfInBounds_toArray, List.set_cons_zero, List.set_cons_succ]
  refine till_done (by kernel_rfl) ?_ _
  refine NoPanic.normal ?_
  obtain ⟨hG4, hKa, hKw, ho4⟩ := HG4.out
  have hKs : Kept (· = gd) w4 (w4.setCell ⟨gd, 1, none⟩ (.slice a3 (tp.length - 1) c3)) := (Kept.refl _ w4).setB 1 _
  have hrg : ¬ Row (.slice a3 (tp.length - 1) c3) gd := row_blk ho4 hG4 (by decide)
  have hG5 := do_set hG4 (.slice a3 (tp.length - 1) c3)
  have ho5 := own_kept2 ho4 hKs (fun x hr e => hrg (by rw [← e]; exact hr))
  have hthg : ThgSl (base ≤ ·) (w4.setCell ⟨gd, 1, none⟩ (.slice a3 (tp.length - 1) c3)) (.slice a3 (tp.length - 1) c3) ((tp.map Prod.fst).eraseIdx at') := by
    refine thg_own (base := base) ho5 (fun x hr => (own_up ho5 x hr).1) (by have := (List.eraseIdx_sublist tp at').length_le; unfold maxLen; omega) ?_ (map_erase Prod.fst tp at')
    intro p hp
    exact (((HCEL.out p ((List.eraseIdx_sublist tp at').subset hp)).keep hKw (fun x hx => hx.2.2)).keep hKs (fun x hx => hx.2.1)).mono (fun x _ hx => hx.1)
  have hkk : Kept (fun x => x = gd ∨ Row (.slice ah tp.length ch) x) w (w4.setCell ⟨gd, 1, none⟩ (.slice a3 (tp.length - 1) c3)) := (hKw.mono (Y := fun x => x = gd ∨ Row (.slice ah tp.length ch) x) (fun _ _ h => .inr h)).trans hKs (fun _ _ h => .inl h)
  have HEND := hide (And.intro hG5 (And.intro hthg hkk))
  clear hG4 hKa hKw ho4 hKs hrg hG5 ho5 hthg hkk g1 g9 gf
  go_wp2_with fail
  go_ret
  exact ⟨rfl, _, HEND.out.1, HEND.out.2.1, HEND.out.2.2⟩

end Go.Proofs.YtidodjbmlbjchaaGreat
