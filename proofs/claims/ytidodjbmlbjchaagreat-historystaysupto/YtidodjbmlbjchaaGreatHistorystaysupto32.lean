import Derived.Test.YtidodjbmlbjchaaGreatHistorystaysupto31
/- doer.makeThing. (Written by tool/gend20.py.) -/
namespace Go.Proofs.YtidodjbmlbjchaaGreat
open Go.RowKit

theorem enters_ins (args : Array Value) (w : World) : (callFunc 81 args).run Tryz.prog w = .ok (.enter 81 args) w := by kernel_rfl

/-- a row does not lie in a block of another type -/
theorem row_blk {w : World} {b sz n g : Nat} {e t : TypeId} {v : Value} {xs : List Value} {cs : Array Value} {off : Nat × Nat} (h : w.ownsRow b e sz v n xs) (hb : w.heap[g]? = some (.cells cs t off)) (hne : e ≠ t) : ¬ Row v g := by
  intro hr
  rcases h.2 with ⟨rfl, _⟩ | ⟨g', cap, cur, rfl, _, hh, _⟩
  · cases hr
  · cases hr
    rw [hh] at hb
    injection hb with h1
    injection h1 with h2 h3
    exact hne h3

set_option maxRecDepth 20000 in
set_option maxHeartbeats 6400000 in
theorem makeThing_any (w : World) (gd base at' : Nat) (vt vh : Value) (types : List TypeT) (tp : List (ThingT × Value)) (e : EventT)
    (hG : w.heap[gd]? = some (.cells (doC vt vh e) 52 (0, 0))) (hty : TypSl anyB w vt types) (hown : w.ownsRow base 68 3 vh tp.length (thCells tp))
    (hcel : ∀ p ∈ tp, CelSl (fun k => base ≤ k ∧ k ≠ gd ∧ ¬ Row vh k) w p.2 p.1.cells) (hix : isIx e.ty types.length = true) (hat : at' ≤ tp.length) (hl : tp.length ≤ 1000) (hf : ∀ t ∈ types, t.fields.length ≤ 1000) (hbase : base ≤ w.heap.size) (hgd : ¬ Row vh gd) :
    Calls Tryz.prog 57 #[.pointer (some ⟨gd, 0, none⟩), .int .i64 at'] w fun r w' =>
      (12 ≤ tp.length ∧ r = .returned (.int .i64 2) ∧ Same w w') ∨ (tp.length < 12 ∧ r = .returned (.int .i64 0) ∧ ∃ vh', w'.heap[gd]? = some (.cells (doC vt vh' e) 52 (0, 0)) ∧ ThgSl (base ≤ ·) w' vh' ((tp.map Prod.fst).insertIdx at' (newTh types e)) ∧ Kept (fun k => k = gd ∨ Row vh k) w w') := by
  obtain ⟨ah, ch, rfl⟩ := own_slice hown
  obtain ⟨at2, ct, rfl, _, _⟩ := id hty
  obtain ⟨x0, x1, x2, x3, x4, x5, x6, x7, xf⟩ := do_cells hG
  by_cases h12 : 12 ≤ tp.length
  · have h12i : (12 : Int) ≤ (tp.length : Int) := by omega
    clear hG hty hown hcel hix hat hf hgd
    go_enter Tryz.func57, Tryz.ntmps57
    go_wp2_with fail
    go_ret
    exact .inl ⟨h12, rfl, Kept.refl _ _⟩
  · have h12i : ¬ (12 : Int) ≤ (tp.length : Int) := by omega
    have hty2 : 0 ≤ e.ty ∧ e.ty < types.length := by
      simp only [isIx, Bool.and_eq_true, decide_eq_true_eq] at hix
      exact hix
    obtain ⟨k, hk⟩ : ∃ k : Nat, k = e.ty.toNat := ⟨_, rfl⟩
    have htk : e.ty = (k : Int) := by omega
    have hkl : k < types.length := by omega
    have HFO := hide (show fieldsOf types e.ty = types[k].fields by rw [fieldsOf, ← hk, List.getElem?_eq_getElem hkl])
    obtain ⟨bt, ot, af, nf, cf, hao, y0, y1, hnf, hfl⟩ := hty.at k hkl
    subst hao
    have hnf1 : nf ≤ 1000 := by rw [hnf]; exact hf _ (List.getElem_mem hkl)
    have HNF := hide hnf
    obtain ⟨i1, hi1, hz0, hz1, hz2⟩ := info_parts info_ce
    have hmk := fun (wy : World) => run_makeSlice (P := Tryz.prog) wy 66 65 i1 _ Tryz.underlying66 hi1 hz0 .i64 .i64 (nf : Int) (nf : Int) (by omega) (Int.le_refl _) (by rw [hz1]; simp; omega) (by rw [hz2]; omega) (by omega)
    rw [hz1] at hmk
    simp only [Int.toNat_natCast] at hmk
    obtain ⟨MC, hMC⟩ : ∃ MC, MC = madeCells (Value.agg #[.int .i64 0, .string ⟨#[]⟩, .slice none 0 0]).cells (nf * 3) := ⟨_, rfl⟩
    rw [← hMC] at hmk
    have HMC := hide hMC
    have HK := hide hk
    have HTK := hide htk
    have x3' : w.cell? ⟨gd, 3, none⟩ = some (.int .i64 k) := by rw [x3, htk]
    have HX := hide (And.intro x0 (And.intro x1 (And.intro x4 (And.intro xf hG))))
    clear hMC hnf hfl hk htk hty2 hty x2 x3 x5 x6 x7 y0 hix hf
    go_enter Tryz.func57, Tryz.ntmps57
    go_wp2_with fail
    go_region_held3 (fun w' => w'.cell? ⟨gd, 0, none⟩ = some (.slice (some ⟨bt, ot, none⟩) types.length ct) ∧ w'.cell? ⟨gd, 3, none⟩ = some (.int .i64 k) ∧ w'.cell? ⟨bt, ot + k * 2 + 1, none⟩ = some (.slice af nf cf)) (go_keep) (fail)
    obtain ⟨w1, hw1⟩ : ∃ w1, w1 = (w.alloc (.cells MC 65)).drew := ⟨_, rfl⟩
    have HK1 := hide (show Same w w1 by rw [hw1]; exact ((Kept.refl _ w).alloc _).drew)
    have HN1 := hide (show w1.heap[w.heap.size]? = some (.cells MC 65 (0, 0)) by rw [hw1]; exact heap_alloc_new _ _)
    obtain ⟨N, hN⟩ : ∃ N, N = w.heap.size := ⟨_, rfl⟩
    rw [← hN] at HN1
    rw [← hw1, ← hN]
    have HU := hide (own_up hown)
    have HOWN := hide (fun wx (hx : Same w wx) => own_kept hown hx (fun _ _ f => f))
    have HCM := hide (fun wx (hx : Same w1 wx) => (show CelSl (fun k => k = N) wx (.slice (some ⟨N, 0, none⟩) nf nf) (List.replicate nf cell0) from (cel_made (by unfold maxLen; omega) (by rw [← HMC.out]; exact HN1.out)).same hx))
    have HCEL := hide hcel
    have HONE := hide (thCells_one hcel)
    have HGD := hide hgd
    have HGW := hide (fun wx (hx : Same w wx) => blk_kept HX.out.2.2.2.2 hx (fun f => f))
    have HSZ := hide (show base ≤ w.heap.size ∧ w.heap.size < w1.heap.size ∧ N = w.heap.size by
      refine ⟨hbase, ?_, hN⟩
      rw [hw1]
      show w.heap.size < (w.alloc (.cells MC 65)).heap.size
      simp)
    obtain ⟨z1, z3, z4⟩ : w1.cell? ⟨gd, 1, none⟩ = some (.slice ah tp.length ch) ∧ w1.cell? ⟨gd, 3, none⟩ = some (.int .i64 k) ∧ w1.cell? ⟨gd, 4, none⟩ = some (.int .i64 e.id) := ⟨HK1.out.cell HX.out.2.1 (fun f => f), HK1.out.cell x3' (fun f => f), HK1.out.cell HX.out.2.2.1 (fun f => f)⟩
    have HC := hide (fun wy (hy : Same w1 wy) => (⟨hy.cell z1 (fun f => f), hy.cell z3 (fun f => f), hy.cell z4 (fun f => f)⟩ : wy.cell? ⟨gd, 1, none⟩ = some (.slice ah tp.length ch) ∧ wy.cell? ⟨gd, 3, none⟩ = some (.int .i64 k) ∧ wy.cell? ⟨gd, 4, none⟩ = some (.int .i64 e.id)))
    clear hw1 hN hown hcel hgd x0 x1 x4 x3' xf y1 hG hmk hbase
    go_wp2_with fail
    refine wp_region_noPanic ?_
    refine wp_till 24 (fun w' => w'.cell? ⟨gd, 1, none⟩ = some (.slice ah tp.length ch) ∧ w'.cell? ⟨gd, 3, none⟩ = some (.int .i64 k) ∧ w'.cell? ⟨gd, 4, none⟩ = some (.int .i64 e.id)) (by kernel_rfl) ?_ (fun hC0 => ?_)
    · exact HC.out _ (by repeat' (first | assumption | exact Kept.refl _ _ | refine Kept.drew ?_ | refine Kept.drewN ?_ _))
    refine till_any (i := 0) (v := ?v1) rfl (by kernel_rfl) (by kernel_rfl) (by kernel_rfl) (by kernel_rfl) (fun _ _ _ h => h) (Or.inl ⟨by rfl, ?hy1⟩) (fun _ => hC0) ?rest1
    case hy1 => (intro w hSw; (try dsimp only at hSw); go_simp <;> (with_reducible rfl))
    try simp only [Act.put, List.setIfInBounds_toArray]
    refine till_any (i := 1) (v := ?v2) rfl (by kernel_rfl) (by kernel_rfl) (by kernel_rfl) (by kernel_rfl) (fun _ _ _ h => h) (Or.inl ⟨by rfl, ?hy2⟩) (fun _ => hC0) ?rest2
    case hy2 => (intro w hSw; (try dsimp only at hSw); go_simp <;> (with_reducible rfl))
    try simp only [Act.put]
    refine till_any (i := 2) (v := ?v3) rfl (by kernel_rfl) (by kernel_rfl) (by kernel_rfl) (by kernel_rfl) (fun _ _ _ h => h) (Or.inl ⟨by rfl, ?hy3⟩) (fun _ => hC0) ?rest3
    case hy3 => (intro w hSw; (try dsimp only at hSw); go_simp <;> (with_reducible rfl))
    try simp only [Act.put]
    refine till_any (i := 3) (v := ?v4) rfl (by kernel_rfl) (by kernel_rfl) (by kernel_rfl) (by kernel_rfl) (fun _ _ _ h => h) (Or.inl ⟨by rfl, ?hy4⟩) (fun _ => hC0) ?rest4
    case hy4 => (intro w hSw; (try dsimp only at hSw); go_simp <;> (with_reducible rfl))
    try simp only [Act.put]
    refine till_any (i := 4) (v := ?v5) rfl (by kernel_rfl) (by kernel_rfl) (by kernel_rfl) (by kernel_rfl) (fun _ _ _ h => h) (Or.inl ⟨by rfl, ?hy5⟩) (fun _ => hC0) ?rest5
    case hy5 => (intro w hSw; (try dsimp only at hSw); go_simp <;> (with_reducible rfl))
    try simp only [Act.put]
    refine till_take (i := 5) (v := ?v6) rfl (by kernel_rfl) (by kernel_rfl) (by kernel_rfl) (by kernel_rfl) (fun _ _ _ h => h) (Or.inl ⟨by rfl, ?hy6⟩) hC0 ?rest6
    case hy6 => (intro w hSw; (try dsimp only at hSw); go_simp <;> (with_reducible rfl))
    try simp only [Act.put]
    refine till_any (i := 6) (v := ?v7) rfl (by kernel_rfl) (by kernel_rfl) (by kernel_rfl) (by kernel_rfl) (fun _ _ _ h => h) (Or.inl ⟨by rfl, ?hy7⟩) (fun _ => hC0) ?rest7
    case hy7 => (intro w hSw; (try dsimp only at hSw); go_simp <;> (with_reducible rfl))
    try simp only [Act.put]
    refine till_any (i := 7) (v := ?v8) rfl (by kernel_rfl) (by kernel_rfl) (by kernel_rfl) (by kernel_rfl) (fun _ _ _ h => h) (Or.inl ⟨by rfl, ?hy8⟩) (fun _ => hC0) ?rest8
    case hy8 => (intro w hSw; (try dsimp only at hSw); go_simp <;> (with_reducible rfl))
    try simp only [Act.put]
    refine till_any (i := 8) (v := ?v9) rfl (by kernel_rfl) (by kernel_rfl) (by kernel_rfl) (by kernel_rfl) (fun _ _ _ h => h) (Or.inl ⟨by rfl, ?hy9⟩) (fun _ => hC0) ?rest9
    case hy9 => (intro w hSw; (try dsimp only at hSw); go_simp <;> (with_reducible rfl))
    try simp only [Act.put]
    refine till_any (i := 9) (v := ?v10) rfl (by kernel_rfl) (by kernel_rfl) (by kernel_rfl) (by kernel_rfl) (fun _ _ _ h => h) (Or.inl ⟨by rfl, ?hy10⟩) (fun _ => hC0) ?rest10
    case hy10 => (intro w hSw; (try dsimp only at hSw); go_simp <;> (with_reducible rfl))
    try simp only [Act.put]
    refine till_any (i := 10) (v := ?v11) rfl (by kernel_rfl) (by kernel_rfl) (by kernel_rfl) (by kernel_rfl) (fun _ _ _ h => h) (Or.inl ⟨by rfl, ?hy11⟩) (fun _ => hC0) ?rest11
    case hy11 => (intro w hSw; (try dsimp only at hSw); go_simp <;> (with_reducible rfl))
    try simp only [Act.put]
    refine till_take (i := 11) (v := ?v12) rfl (by kernel_rfl) (by kernel_rfl) (by kernel_rfl) (by kernel_rfl) (fun _ _ _ h => h) (Or.inl ⟨by rfl, ?hy12⟩) hC0 ?rest12
    case hy12 => (intro w hSw; (try dsimp only at hSw); go_simp <;> (with_reducible rfl))
    try simp only [Act.put]
    refine till_any (i := 12) (v := ?v13) rfl (by kernel_rfl) (by kernel_rfl) (by kernel_rfl) (by kernel_rfl) (fun _ _ _ h => h) (Or.inl ⟨by rfl, ?hy13⟩) (fun _ => hC0) ?rest13
    case hy13 => (intro w hSw; (try dsimp only at hSw); go_simp <;> (with_reducible rfl))
    try simp only [Act.put]
    refine till_any (i := 13) (v := ?v14) rfl (by kernel_rfl) (by kernel_rfl) (by kernel_rfl) (by kernel_rfl) (fun _ _ _ h => h) (Or.inl ⟨by rfl, ?hy14⟩) (fun _ => hC0) ?rest14
    case hy14 => (intro w hSw; (try dsimp only at hSw); go_simp <;> (with_reducible rfl))
    try simp only [Act.put]
    refine till_any (i := 14) (v := ?v15) rfl (by kernel_rfl) (by kernel_rfl) (by kernel_rfl) (by kernel_rfl) (fun _ _ _ h => h) (Or.inl ⟨by rfl, ?hy15⟩) (fun _ => hC0) ?rest15
    case hy15 => (intro w hSw; (try dsimp only at hSw); go_simp <;> (with_reducible rfl))
    try simp only [Act.put]
    refine till_any (i := 15) (v := ?v16) rfl (by kernel_rfl) (by kernel_rfl) (by kernel_rfl) (by kernel_rfl) (fun _ _ _ h => h) (Or.inl ⟨by rfl, ?hy16⟩) (fun _ => hC0) ?rest16
    case hy16 => (intro w hSw; (try dsimp only at hSw); go_simp <;> (with_reducible rfl))
    try simp only [Act.put]
    refine till_take (i := 16) (v := ?v17) rfl (by kernel_rfl) (by kernel_rfl) (by kernel_rfl) (by kernel_rfl) (fun _ _ _ h => h) (Or.inl ⟨by rfl, ?hy17⟩) hC0 ?rest17
    case hy17 => (intro w hSw; (try dsimp only at hSw); go_simp <;> (with_reducible rfl))
    try simp only [Act.put]
    refine till_any (i := 17) (v := ?v18) rfl (by kernel_rfl) (by kernel_rfl) (by kernel_rfl) (by kernel_rfl) (fun _ _ _ h => h) (Or.inl ⟨by rfl, ?hy18⟩) (fun _ => hC0) ?rest18
    case hy18 => (intro w hSw; (try dsimp only at hSw); go_simp <;> (with_reducible rfl))
    try simp only [Act.put]
    refine till_any (i := 18) (v := ?v19) rfl (by kernel_rfl) (by kernel_rfl) (by kernel_rfl) (by kernel_rfl) (fun _ _ _ h => h) (Or.inl ⟨by rfl, ?hy19⟩) (fun _ => hC0) ?rest19
    case hy19 => (intro w hSw; (try dsimp only at hSw); go_simp <;> (with_reducible rfl))
    try simp only [Act.put]
    refine till_ready (rs := [19]) (by kernel_rfl) (by simp) ?_
    refine TillReady.cons rfl (fun K hK => ?_) TillReady.nil
    go_simp
    refine hK.out _ _ ?_ (fun hC20 => ?_)
    · exact HC.out _ (by (repeat' (first | assumption | exact Kept.refl _ _ | refine Kept.drew ?_ | refine Kept.drewN ?_ _ | refine Kept.alloc ?_ _)))
    clear hK K hC0
    try simp only [Act.put, List.setIfInBounds_toArray, List.set_cons_zero, List.set_cons_succ]
    refine till_ready (rs := [20]) (by kernel_rfl) (by simp) ?_
    refine TillReady.cons rfl (fun K hK => ?_) TillReady.nil
    refine step_call (by rfl) 81 _ _ rfl #[.slice ah tp.length ch, .int .i64 at', .slice (some ⟨w1.heap.size, 0, none⟩) 1 1] (by simp [Act.eval]) (enters_ins _)
      (insT_own _ base tp.length at' w1.heap.size (.slice ah tp.length ch) (thCells tp) [.int .i64 k, .int .i64 e.id, .slice (some ⟨N, 0, none⟩) nf nf] (HOWN.out _ (tra HK1.out (by (repeat' (first | assumption | exact Kept.refl _ _ | refine Kept.drew ?_ | refine Kept.drewN ?_ _ | refine Kept.alloc ?_ _))))) hat (by omega) HONE.out (by exact heap_alloc_new _ _) rfl (by intro u hu; simp at hu; rcases hu with rfl | rfl | rfl <;> rfl) (fun hr => by have h1 := (HU.out _ hr).2; have h2 := HSZ.out.2.1; omega) (Nat.le_trans HSZ.out.1 (Nat.le_trans (Nat.le_of_lt HSZ.out.2.1) (show Same w1 _ from (by (repeat' (first | assumption | exact Kept.refl _ _ | refine Kept.drew ?_ | refine Kept.drewN ?_ _ | refine Kept.alloc ?_ _)))).size))) ?_
    rintro e9 w3 ⟨v3, rfl, hk3, ho3⟩
    obtain ⟨a3, c3, hv3⟩ := own_slice ho3
    subst hv3
    refine ⟨_, rfl, ?_⟩
    have hKa : Kept (Row (.slice ah tp.length ch)) w1 w3 := (show Same w1 _ from (by (repeat' (first | assumption | exact Kept.refl _ _ | refine Kept.drew ?_ | refine Kept.drewN ?_ _ | refine Kept.alloc ?_ _)))).to.trans hk3 (fun _ _ e => e)
    have hKw : Kept (Row (.slice ah tp.length ch)) w w3 := HK1.out.to.trans hKa (fun _ _ e => e)
    have hG3 := blk_kept HX.out.2.2.2.2 hKw HGD.out
    obtain ⟨g0, g1, g2, g3, g4, g5, g6, g7, gf⟩ := do_cells hG3
    have HG3 := hide (And.intro hG3 (And.intro hKa (And.intro hKw ho3)))
    have HTK3 := hide (show w3.cell? ⟨gd, 3, none⟩ = some (.int .i64 k) by rw [g3, HTK.out])
    clear hk3 ho3 hKa hKw hG3 g0 g2 g3 g5 g6 g7
    refine hK.out _ _ ?_ (fun hC21 => ?_)
    · exact ⟨g1, HTK3.out, g4⟩
    clear hK K hC20
    try simp only [Act.put, List.setIfInBounds_toArray]
    refine till_any (i := 21) (v := ?v22) rfl (by kernel_rfl) (by kernel_rfl) (by kernel_rfl) (by kernel_rfl) (fun _ _ _ h => h) (Or.inl ⟨by rfl, ?hy22⟩) (fun _ => hC21) ?rest22
    case hy22 => (intro w hSw; (try dsimp only at hSw); go_simp <;> (with_reducible rfl))
    try simp only [Act.put]
    refine till_any (i := 22) (v := ?v23) rfl (by kernel_rfl) (by kernel_rfl) (by kernel_rfl) (by kernel_rfl) (fun _ _ _ h => h) (Or.inl ⟨by rfl, ?hy23⟩) (fun _ => hC21) ?rest23
    case hy23 => (intro w hSw; (try dsimp only at hSw); go_simp <;> (with_reducible rfl))
    try simp only [Act.put]
    refine till_any (i := 23) (v := ?v24) rfl (by kernel_rfl) (by kernel_rfl) (by kernel_rfl) (by kernel_rfl) (fun _ _ _ h => h) (Or.inl ⟨by rfl, ?hy24⟩) (fun _ => hC21) ?rest24
    case hy24 => (intro w hSw; (try dsimp only at hSw); go_simp <;> (with_reducible rfl))
    try simp only [Act.put]
    refine till_ready (rs := [24]) (by kernel_rfl) (by simp) ?_
    refine TillReady.free rfl (by kernel_rfl) (fun K hK => ?_) TillReady.nil
    go_simp
    refine hK.out _ _ ?_
    clear hK K
    try simp only [Act.put, List.setIfInBounds_toArray, List.set_cons_zero, List.set_cons_succ]
    refine till_done (by kernel_rfl) ?_ _
    refine NoPanic.normal ?_
    obtain ⟨hG3, hKa, hKw, ho3⟩ := HG3.out
    have hKs : Kept (· = gd) w3 (w3.setCell ⟨gd, 1, none⟩ (.slice a3 (tp.length + 1) c3)) := (Kept.refl _ w3).setB 1 _
    have hrg : ¬ Row (.slice a3 (tp.length + 1) c3) gd := row_blk ho3 hG3 (by decide)
    have hG4 := do_set hG3 (.slice a3 (tp.length + 1) c3)
    have ho4 := own_kept2 ho3 hKs (fun x hr e => hrg (by rw [← e]; exact hr))
    have hNr : ¬ Row (.slice ah tp.length ch) N := fun hr => by have h1 := (HU.out _ hr).2; have h2 := HSZ.out.2.2; omega
    have hNg : N ≠ gd := by
      have h1 := (Array.getElem?_eq_some_iff.1 (HX.out.2.2.2.2)).1
      have h2 := HSZ.out.2.2
      omega
    have hthg : ThgSl (base ≤ ·) (w3.setCell ⟨gd, 1, none⟩ (.slice a3 (tp.length + 1) c3)) (.slice a3 (tp.length + 1) c3) ((tp.map Prod.fst).insertIdx at' (newTh types e)) := by
      refine thg_own (base := base) (tp := tp.insertIdx at' (newTh types e, .slice (some ⟨N, 0, none⟩) nf nf)) ?_ (fun x hr => (own_up ho4 x hr).1) (by rw [List.length_insertIdx]; split <;> (unfold maxLen; omega)) ?_ (map_insert Prod.fst tp at' hat _)
      · rw [← thCells_insert tp at' hat, List.length_insertIdx_of_le_length hat]
        have h9 := ho4
        rw [← HTK.out] at h9
        exact h9
      · intro p hp
        rcases (List.mem_insertIdx hat).1 hp with rfl | hp
        · have h1 := ((HCM.out w1 (Kept.refl _ _)).keep hKa (fun x hx => by rw [hx]; exact hNr)).keep hKs (fun x hx => by rw [hx]; exact hNg)
          have h2 : (newTh types e).cells = List.replicate nf cell0 := by
            show List.replicate (fieldsOf types e.ty).length cell0 = _
            rw [HFO.out, HNF.out]
          rw [h2]
          exact h1.mono (fun x _ hx => by have h3 := HSZ.out; omega)
        · exact (((HCEL.out p hp).keep hKw (fun x hx => hx.2.2)).keep hKs (fun x hx => hx.2.1)).mono (fun x _ hx => hx.1)
    have hkk : Kept (fun x => x = gd ∨ Row (.slice ah tp.length ch) x) w (w3.setCell ⟨gd, 1, none⟩ (.slice a3 (tp.length + 1) c3)) := (hKw.mono (Y := fun x => x = gd ∨ Row (.slice ah tp.length ch) x) (fun _ _ h => .inr h)).trans hKs (fun _ _ h => .inl h)
    have HEND := hide (And.intro hG4 (And.intro hthg hkk))
    clear hG3 hKa hKw ho3 hKs hrg hG4 ho4 hthg hkk g1 g4 gf
    go_wp2_with fail
    go_ret
    exact .inr ⟨by omega, rfl, _, HEND.out.1, HEND.out.2.1, HEND.out.2.2⟩

end Go.Proofs.YtidodjbmlbjchaaGreat

/- doer.drop's closure. -/
namespace Go.Proofs.YtidodjbmlbjchaaGreat
open Go.RowKit

theorem contains_any (w : World) (a : Option Addr) (n c : Nat) (l : List Int) (x : Int) (P : Nat → Prop) (h : IdsSl P w (.slice a n c) l) :
    Calls Tryz.prog 83 #[.slice a n c, .int .i64 x] w fun e w' => e = .returned (.bool (decide (x ∈ l))) ∧ w' = w := by
  obtain ⟨hn, hm, _⟩ := h.len
  cases l with
  | nil =>
    subst hn
    exact (Tryz.slices_Contains_int_empty a c x w).mono (fun e w' h => ⟨by rw [h.1]; simp, h.2⟩)
  | cons y t =>
    obtain ⟨b, off, rfl, _, _⟩ := h.at 0 (by simp)
    refine (Tryz.slices_Contains_int b off n c (y :: t) x w (by omega) (by omega) (fun j hj => ?_)).mono (fun e w' h => ⟨?_, h.2⟩)
    · obtain ⟨b', off', hb, _, h0⟩ := h.at j hj
      cases hb
      rw [h0, List.getD_eq_getElem?_getD, List.getElem?_eq_getElem hj]; rfl
    · rw [h.1, List.take_of_length_le (by omega)]
      congr 2
      rw [Bool.eq_iff_iff]; simp

set_option maxRecDepth 20000 in
set_option maxHeartbeats 3200000 in
theorem dropAsk_any (w : World) (gn gb gd : Nat) (nm : List UInt8) (id : Int) (hn : w.cell? ⟨gn, 0, none⟩ = some (.string ⟨nm.toArray⟩)) (hb : w.cell? ⟨gb, 0, none⟩ = some (.pointer (some ⟨gd, 0, none⟩))) (hd : w.cell? ⟨gd, 4, none⟩ = some (.int .i64 id)) :
    AsksAt w 82 #[.pointer (some ⟨gn, 0, none⟩), .pointer (some ⟨gb, 0, none⟩)] (meansC nm id) := by
  intro wx f c ai ni ci hx hids
  have HM := hide (show meansC nm id f c = if f.of = nm ∧ id ∈ c.ids then 4 else 0 from rfl)
  obtain ⟨m, hm⟩ : ∃ m, meansC nm id f c = m := ⟨_, rfl⟩
  rw [hm] at HM ⊢
  clear hm
  have hn' := hx.cell hn (fun f => f)
  have hb' := hx.cell hb (fun f => f)
  have hd' := hx.cell hd (fun f => f)
  obtain ⟨w2, hw2⟩ : ∃ w2, w2 = (wx.alloc (.cells #[.string ⟨f.name.toArray⟩, .int .i64 f.kind, .string ⟨f.of.toArray⟩] 58)).alloc (.cells #[.int .i64 c.n, .string ⟨c.text.toArray⟩, .slice ai ni ci] 65) := ⟨_, rfl⟩
  obtain ⟨g1, hg1⟩ : ∃ g, g = wx.heap.size := ⟨_, rfl⟩
  obtain ⟨g2, hg2⟩ : ∃ g, g = wx.heap.size + 1 := ⟨_, rfl⟩
  have HK2 : Hid (Same wx w2) := hide (by rw [hw2]; exact ((Kept.refl _ wx).alloc _).alloc _)
  obtain ⟨_, _, f2⟩ := blk3 (show w2.heap[g1]? = some (.cells #[.string ⟨f.name.toArray⟩, .int .i64 f.kind, .string ⟨f.of.toArray⟩] 58 (0, 0)) by rw [hw2, hg1]; exact al_o _ _ _)
  obtain ⟨_, _, e2⟩ := blk3 (show w2.heap[g2]? = some (.cells #[.int .i64 c.n, .string ⟨c.text.toArray⟩, .slice ai ni ci] 65 (0, 0)) by rw [hw2, hg2]; exact al_n _ _ _)
  have q0 := HK2.out.cell hn' (fun f => f)
  have q1 := HK2.out.cell hb' (fun f => f)
  have q2 := HK2.out.cell hd' (fun f => f)
  have HCT := hide (fun wy (hy : Same w2 wy) => contains_any wy ai ni ci c.ids id anyB (hids.same (tra HK2.out hy)))
  clear hn hb hd hn' hb' hd' hx hids
  by_cases hfn : f.of = nm
  rotate_left
  · have HF := hide (show 0 = m by rw [HM.out, if_neg (fun h => hfn h.1)])
    go_enter Tryz.func82, Tryz.ntmps82
    go_wp2_with fail
    rw [← hw2, ← hg2, ← hg1]
    clear hw2 hg1 hg2
    go_quiet (fail)
    go_wp2_with fail
    go_ret
    exact ⟨ret_int HF.out, HK2.out.drewN _⟩
  · have HF := hide (show (if id ∈ c.ids then 4 else 0) = m by
      rw [HM.out]
      by_cases h2 : id ∈ c.ids
      · rw [if_pos h2, if_pos ⟨hfn, h2⟩]
      · rw [if_neg h2, if_neg (fun h => h2 h.2)])
    subst hfn
    obtain ⟨r, hr⟩ : ∃ r, decide (id ∈ c.ids) = r := ⟨_, rfl⟩
    rw [hr] at HCT
    have HR := hide hr
    clear hr
    go_enter Tryz.func82, Tryz.ntmps82
    go_wp2_with fail
    rw [← hw2, ← hg2, ← hg1]
    clear hw2 hg1 hg2
    go_region_held3 (fun w' => w'.cell? ⟨g1, 2, none⟩ = some (.string ⟨f.of.toArray⟩) ∧ w'.cell? ⟨gn, 0, none⟩ = some (.string ⟨f.of.toArray⟩) ∧ w'.cell? ⟨g2, 2, none⟩ = some (.slice ai ni ci) ∧ w'.cell? ⟨gb, 0, none⟩ = some (.pointer (some ⟨gd, 0, none⟩)) ∧ w'.cell? ⟨gd, 4, none⟩ = some (.int .i64 id)) (go_keep)
      ((go_at_call 83; refine (HCT.out _ (by exact (by repeat' (first | assumption | exact Kept.refl _ _ | refine Kept.drewN ?_ _ | refine Kept.drew ?_ | refine Kept.alloc ?_ _ | refine Kept.setB ?_ _ _)))).mono ?_; rintro e w9 ⟨rfl, rfl⟩))
    all_goals
      cases r
      · have HF2 := hide (show 0 = m by
          have h1 : ¬ id ∈ c.ids := by simpa using HR.out
          rw [← HF.out, if_neg h1])
        go_wp2_with fail
        go_ret
        exact ⟨ret_int HF2.out, tra HK2.out (by repeat' (first | assumption | exact Kept.refl _ _ | refine Kept.drewN ?_ _ | refine Kept.drew ?_ | refine Kept.alloc ?_ _ | refine Kept.setB ?_ _ _))⟩
      · have HF2 := hide (show 4 = m by
          have h1 : id ∈ c.ids := by simpa using HR.out
          rw [← HF.out, if_pos h1])
        go_wp2_with fail
        go_ret
        exact ⟨ret_int HF2.out, tra HK2.out (by repeat' (first | assumption | exact Kept.refl _ _ | refine Kept.drewN ?_ _ | refine Kept.drew ?_ | refine Kept.alloc ?_ _ | refine Kept.setB ?_ _ _))⟩

end Go.Proofs.YtidodjbmlbjchaaGreat
