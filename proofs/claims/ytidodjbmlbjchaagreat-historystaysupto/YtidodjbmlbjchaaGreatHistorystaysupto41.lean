import Derived.Test.YtidodjbmlbjchaaGreatHistorystaysupto40
import Derived.Test.YtidodjbmlbjchaaGreatHistorystaysupto21
import Derived.Deep.DeepCutAuto
/- state.Do: its walk. (Written by tool/gend36.py from tool/d36.head and d36.fin.) -/
namespace Go.Proofs.YtidodjbmlbjchaaGreat
open Go.RowKit

theorem blk6 {w : World} {g : Nat} {e : EventT} {t : TypeId} (h : w.heap[g]? = some (.cells #[.int .i64 e.kind, .int .i64 e.ty, .int .i64 e.id, .int .i64 e.field, .int .i64 e.n, .string ⟨e.text.toArray⟩] t (0, 0))) :
    w.cell? ⟨g, 0, none⟩ = some (.int .i64 e.kind) ∧ w.cell? ⟨g, 1, none⟩ = some (.int .i64 e.ty) ∧ w.cell? ⟨g, 2, none⟩ = some (.int .i64 e.id) ∧ w.cell? ⟨g, 3, none⟩ = some (.int .i64 e.field) ∧ w.cell? ⟨g, 4, none⟩ = some (.int .i64 e.n) ∧ w.cell? ⟨g, 5, none⟩ = some (.string ⟨e.text.toArray⟩) := by
  simp [World.cell?, h]

theorem enters_cs (args : Array Value) (w : World) : (callFunc 26 args).run Tryz.prog w = .ok (.enter 26 args) w := by kernel_rfl

set_option maxRecDepth 20000 in
set_option maxHeartbeats 1000000 in
theorem stDo_any (w : World) (vt vh : Value) (s : StateT) (e : EventT) (ht : TypSl anyB w vt s.types) (hh : ThgSl anyB w vh s.things) :
    Calls Tryz.prog 7 #[stV vt vh, evV e] w fun r w' => doA w w' r (doSt s e) := by
  obtain ⟨at', ct, rfl, _, _⟩ := id ht
  obtain ⟨ah, ch, rfl, _, _⟩ := id hh
  obtain ⟨W, hW⟩ : ∃ W, W = ((w.alloc (.cells #[.slice at' s.types.length ct, .slice ah s.things.length ch] 25)).alloc (.cells #[.int .i64 e.kind, .int .i64 e.ty, .int .i64 e.id, .int .i64 e.field, .int .i64 e.n, .string ⟨e.text.toArray⟩] 27)).alloc (.cells #[.slice none 0 0, .slice none 0 0] 25) := ⟨_, rfl⟩
  obtain ⟨gs, hgs⟩ : ∃ g, g = w.heap.size := ⟨_, rfl⟩
  obtain ⟨ge, hge⟩ : ∃ g, g = w.heap.size + 1 := ⟨_, rfl⟩
  obtain ⟨gr, hgr⟩ : ∃ g, g = w.heap.size + 1 + 1 := ⟨_, rfl⟩
  have HKW := hide (show Same w W by rw [hW]; exact (((Kept.refl _ w).alloc _).alloc _).alloc _)
  have hGS : W.heap[gs]? = some (.cells #[.slice at' s.types.length ct, .slice ah s.things.length ch] 25 (0, 0)) := by rw [hW, hgs]; rw [Below.heap_alloc _ _ _ (by simp; omega)]; exact al_o _ _ _
  have hGE : W.heap[ge]? = some (.cells #[.int .i64 e.kind, .int .i64 e.ty, .int .i64 e.id, .int .i64 e.field, .int .i64 e.n, .string ⟨e.text.toArray⟩] 27 (0, 0)) := by rw [hW, hge]; rw [Below.heap_alloc _ _ _ (by simp)]; exact al_n _ _ _
  have HGR := hide (show W.heap[gr]? = some (.cells #[.slice none 0 0, .slice none 0 0] 25 (0, 0)) by rw [hW, hgr]; have h := heap_alloc_new ((w.alloc (.cells #[.slice at' s.types.length ct, .slice ah s.things.length ch] 25)).alloc (.cells #[.int .i64 e.kind, .int .i64 e.ty, .int .i64 e.id, .int .i64 e.field, .int .i64 e.n, .string ⟨e.text.toArray⟩] 27)) (.cells #[.slice none 0 0, .slice none 0 0] 25); rw [World.size_alloc, World.size_alloc] at h; exact h)
  have HLT := hide (show w.heap.size ≤ gs ∧ gs < ge ∧ ge < gr ∧ gr < W.heap.size by rw [hW, hgs, hge, hgr]; simp)
  obtain ⟨c0, c1⟩ := blk2' hGS
  obtain ⟨e0, e1, e2, e3, e4, e5⟩ := blk6 hGE
  have HALL := hide (fun wy (hy : Same W wy) => (⟨hy.cell c0 (fun f => f), hy.cell c1 (fun f => f), hy.cell e0 (fun f => f), hy.cell e1 (fun f => f), hy.cell e2 (fun f => f), hy.cell e3 (fun f => f), hy.cell e4 (fun f => f), hy.cell e5 (fun f => f)⟩ : wy.cell? ⟨gs, 0, none⟩ = _ ∧ wy.cell? ⟨gs, 1, none⟩ = _ ∧ wy.cell? ⟨ge, 0, none⟩ = _ ∧ wy.cell? ⟨ge, 1, none⟩ = _ ∧ wy.cell? ⟨ge, 2, none⟩ = _ ∧ wy.cell? ⟨ge, 3, none⟩ = _ ∧ wy.cell? ⟨ge, 4, none⟩ = _ ∧ wy.cell? ⟨ge, 5, none⟩ = _))
  have HCK := hide (fun wy (hy : Same W wy) => stCheck_any wy _ _ s ((ht.same HKW.out).same hy) ((hh.same HKW.out).same hy))
  have HWE := hide (fun wy (hy : Same W wy) => wrongEvent_any wy _ s.types e anyB ((ht.same HKW.out).same hy))
  have HCL := hide (fun wy (hy : Same W wy) (hs : Right s) => cloneSt_any anyB wy _ _ s.types s.things ((ht.same HKW.out).same hy) ((hh.same HKW.out).same hy) (right_small hs))
  have HR := hide (fun (h : checkSt s = 0) => (checkSt_iff s).1 h)
  have HRE := hide (fun (h : wrongEv s.types e = 0) => (wrongEv_iff s.types e).1 h)
  have HDO := hide (show doSt s e = if checkSt s ≠ 0 then .error (checkSt s) else if wrongEv s.types e ≠ 0 then .error (wrongEv s.types e) else doIt s e from rfl)
  obtain ⟨q1, hq1⟩ : ∃ q, checkSt s = q := ⟨_, rfl⟩
  obtain ⟨q2, hq2⟩ : ∃ q, wrongEv s.types e = q := ⟨_, rfl⟩
  rw [hq1] at HCK HR HDO
  rw [hq2] at HWE HRE HDO
  obtain ⟨x, hx⟩ : ∃ x, doSt s e = x := ⟨_, rfl⟩
  rw [hx] at HDO ⊢
  clear hq1 hq2 hx hGS hGE ht hh
  have HERR := hide (fun (wy : World) (hy : Same W wy) (m : Int) (hm : x = .error m) => (⟨(tra HKW.out hy).trans (((Kept.refl _ wy).setB (b := gr) 0 (.slice none 0 0)).setB (b := gr) 1 (.slice none 0 0)) (fun i hi e => by have := HLT.out; omega), by rw [hm]⟩ : doA w _ (.returned (.tuple #[stV (.slice none 0 0) (.slice none 0 0), .int .i64 m])) x))
  go_enter Tryz.func7, Tryz.ntmps7
  go_upto_region 1 with fail
  rw [← hW, ← hgr, ← hge, ← hgs]
  clear hW hgr hge hgs
  go_wp2_with fail
  refine (HCK.out _ (Kept.refl _ _)).mono ?_
  clear HCK c0 c1 e0 e1 e2 e3 e4 e5
  rintro r w1 ⟨rfl, hK1⟩
  have HK1 := hide hK1
  clear hK1
  by_cases h1 : q1 = 0
  rotate_left
  · have hR := blk_kept HGR.out HK1.out (fun f => f)
    have p2 := fro2' hR
    obtain ⟨p0, p1⟩ := blk2' hR
    obtain ⟨q0', q1'⟩ := blk2' (set2b' hR (.slice none 0 0) (.slice none 0 0))
    have hqb : (q1 != 0) = true := by simp [h1]
    have HF := hide (HERR.out w1 HK1.out q1 (by rw [HDO.out, if_pos h1]))
    clear hR h1
    go_wp2_with fail
    exact bodyPost_ret (v := .tuple #[stV (.slice none 0 0) (.slice none 0 0), .int .i64 q1]) (by simp [results, Tryz.results7, go_sem, q0', q1']) rfl HF.out
  have HRS := hide (HR.out h1)
  subst h1
  obtain ⟨c0, c1, e0, e1, e2, e3, e4, e5⟩ := HALL.out w1 HK1.out
  go_wp2_with fail
  refine (HWE.out _ HK1.out).mono ?_
  clear HWE c0 c1 e0 e1 e2 e3 e4 e5
  rintro r w2 ⟨rfl, hK2⟩
  have HK2 := hide (tra HK1.out hK2)
  clear hK2
  by_cases h2 : q2 = 0
  rotate_left
  · have hR := blk_kept HGR.out HK2.out (fun f => f)
    have p2 := fro2' hR
    obtain ⟨p0, p1⟩ := blk2' hR
    obtain ⟨q0', q1'⟩ := blk2' (set2b' hR (.slice none 0 0) (.slice none 0 0))
    have hqb : (q2 != 0) = true := by simp [h2]
    have HF := hide (HERR.out w2 HK2.out q2 (by rw [HDO.out, if_neg (by simp), if_pos h2]))
    clear hR h2
    go_wp2_with fail
    exact bodyPost_ret (v := .tuple #[stV (.slice none 0 0) (.slice none 0 0), .int .i64 q2]) (by simp [results, Tryz.results7, go_sem, q0', q1']) rfl HF.out
  have HREV := hide (HRE.out h2)
  subst h2
  have HXI := hide (show x = doIt s e by rw [HDO.out, if_neg (by simp), if_neg (by simp)])
  clear HDO HR HRE
  obtain ⟨c0, c1, e0, e1, e2, e3, e4, e5⟩ := HALL.out w2 HK2.out
  go_upto_region 7 with fail
  go_cut [8] (fun v wx => ∃ gd a1 t1 a2 t2 lo1 hi1 lo2 hi2, v = .pointer (some ⟨gd, 0, none⟩) ∧ Hid (Same W wx) ∧ Hid (Doer W.heap.size wx gd (.slice a1 s.types.length t1) (.slice a2 s.things.length t2) s e lo1 hi1 lo2 hi2))
  case first =>
    refine wp_region_noPanic ?_
    refine wp_till 5 (fun w' => w'.cell? ⟨gs, 0, none⟩ = some (.slice at' s.types.length ct) ∧ w'.cell? ⟨gs, 1, none⟩ = some (.slice ah s.things.length ch) ∧ w'.cell? ⟨ge, 0, none⟩ = some (.int .i64 e.kind) ∧ w'.cell? ⟨ge, 1, none⟩ = some (.int .i64 e.ty) ∧ w'.cell? ⟨ge, 2, none⟩ = some (.int .i64 e.id) ∧ w'.cell? ⟨ge, 3, none⟩ = some (.int .i64 e.field) ∧ w'.cell? ⟨ge, 4, none⟩ = some (.int .i64 e.n) ∧ w'.cell? ⟨ge, 5, none⟩ = some (.string ⟨e.text.toArray⟩)) (by kernel_rfl) ?_ (fun hC0 => ?_)
    · exact HALL.out _ (by (repeat' (first | assumption | exact HK2.out | exact HK7.out | exact Kept.refl _ _ | refine Kept.drew ?_ | refine Kept.drewN ?_ _ | refine Kept.alloc ?_ _)))
    refine till_take (i := 0) (v := ?v1) rfl (by kernel_rfl) (by kernel_rfl) (by kernel_rfl) (by kernel_rfl) (fun _ _ _ h => h) (Or.inl ⟨by rfl, ?hy1⟩) hC0 ?rest1
    case hy1 => (intro w hSw; (try dsimp only at hSw); go_simp <;> (with_reducible rfl))
    try simp only [Act.put, List.setIfInBounds_toArray]
    refine till_take (i := 2) (v := ?v2) rfl (by kernel_rfl) (by kernel_rfl) (by kernel_rfl) (by kernel_rfl) (fun _ _ _ h => h) (Or.inl ⟨by rfl, ?hy2⟩) hC0 ?rest2
    case hy2 => (intro w hSw; (try dsimp only at hSw); go_simp <;> (with_reducible rfl))
    try simp only [Act.put]
    refine till_ready (rs := [1, 4]) (by kernel_rfl) (by simp) ?_
    refine TillReady.cons rfl (fun K hK => ?_) (TillReady.cons rfl (fun K hK => ?_) TillReady.nil)
    · skip
      refine step_call (by rfl) 26 _ _ rfl #[stV (.slice at' s.types.length ct) (.slice ah s.things.length ch)] (by simp [Act.eval]) (enters_cs _) (HCL.out _ (by (repeat' (first | assumption | exact HK2.out | exact HK7.out | exact Kept.refl _ _ | refine Kept.drew ?_ | refine Kept.drewN ?_ _ | refine Kept.alloc ?_ _))) HRS.out) ?_
      rintro r9 w7 ⟨a1, t1, a2, t2, lo1, hi1, lo2, hi2, rfl, hty, hth, hlow, hK7⟩
      refine ⟨_, rfl, ?_⟩
      have HK7 := hide (tra (show Same W _ from (by (repeat' (first | assumption | exact HK2.out | exact HK7.out | exact Kept.refl _ _ | refine Kept.drew ?_ | refine Kept.drewN ?_ _ | refine Kept.alloc ?_ _)))) hK7)
      first
        | (have hbx := new_kept hK7 (fun f => f); obtain ⟨y0, y1, y2, y3, y4, y5, y6, y7, y8⟩ := cells8 hbx)
        | (have hbx := new_kept hK7.unD (fun f => f); obtain ⟨y0, y1, y2, y3, y4, y5, y6, y7, y8⟩ := cells8 hbx)
        | skip
      have HF := hide (And.intro hty (And.intro hth (And.intro hlow hK7.size)))
      clear hty hth hlow hK7
      refine hK.out _ _ ?_ (fun hC3 => ?_)
      · exact HALL.out _ (by (repeat' (first | assumption | exact HK2.out | exact HK7.out | exact Kept.refl _ _ | refine Kept.drew ?_ | refine Kept.drewN ?_ _ | refine Kept.alloc ?_ _)))
      clear hK K hC0
      try simp only [Act.put]
      refine till_any (i := 3) (v := ?v4) rfl (by kernel_rfl) (by kernel_rfl) (by kernel_rfl) (by kernel_rfl) (fun _ _ _ h => h) (Or.inl ⟨by rfl, ?hy4⟩) (fun _ => hC3) ?rest4
      case hy4 => (intro w hSw; (try dsimp only at hSw); go_simp <;> (with_reducible rfl))
      try simp only [Act.put]
      refine till_ready (rs := [4]) (by kernel_rfl) (by simp) ?_
      refine TillReady.cons rfl (fun K hK => ?_) TillReady.nil
      go_simp
      refine hK.out _ _ ?_ (fun hC5 => ?_)
      · exact HALL.out _ (by (repeat' (first | assumption | exact HK2.out | exact HK7.out | exact Kept.refl _ _ | refine Kept.drew ?_ | refine Kept.drewN ?_ _ | refine Kept.alloc ?_ _)))
      clear hK K hC3
      try simp only [Act.put, List.setIfInBounds_toArray, List.set_cons_zero, List.set_cons_succ]
      refine till_ready (rs := [5]) (by kernel_rfl) (by simp) ?_
      refine TillReady.free rfl (by kernel_rfl) (fun K hK => ?_) TillReady.nil
      go_simp
      refine hK.out _ _ ?_
      clear hK K
      try simp only [Act.put, List.setIfInBounds_toArray, List.set_cons_zero, List.set_cons_succ]
      refine till_done (by kernel_rfl) ?_ _
      refine NoPanic.normal ?_
      go_wp2_with fail
      go_meet
      case rel =>
        have hz2 := HK2.out.size
        have hz7 := HK7.out.size
        obtain ⟨hty, hth, ⟨hl1, hl2, hoff, hu1, hu2⟩, hsz⟩ := HF.out
        first
          | (revert hbx
             intro hbx
             have hl1' : w2.heap.size < lo1 := lt_new hl1
             have hl2' : w2.heap.size < lo2 := lt_new hl2
             have hdp := doer_put (b0 := W.heap.size) (s := s) (e := e) hbx hty hth ⟨by omega, by omega, hz2⟩ hoff ⟨hu1, hu2⟩ hl1' hl2'
             refine ⟨_, _, _, _, _, _, _, _, _, rfl, ?_, hdp.1⟩
             exact HK7.out.trans hdp.2 (fun i hi e => by omega))
          | exact ⟨_, _, _, _, _, _, _, _, _, rfl, HK7.out.alloc _, doer_new hty hth ⟨Nat.le_trans hz2 hl1, Nat.le_trans hz2 hl2⟩ hoff ⟨hu1, hu2⟩ hz7⟩
    · skip
      go_simp
      refine hK.out _ _ ?_ (fun hC7 => ?_)
      · exact HALL.out _ (by (repeat' (first | assumption | exact HK2.out | exact HK7.out | exact Kept.refl _ _ | refine Kept.drew ?_ | refine Kept.drewN ?_ _ | refine Kept.alloc ?_ _)))
      clear hK K hC0
      try simp only [Act.put, List.setIfInBounds_toArray, List.set_cons_zero, List.set_cons_succ]
      refine till_ready (rs := [1]) (by kernel_rfl) (by simp) ?_
      refine TillReady.cons rfl (fun K hK => ?_) TillReady.nil
      refine step_call (by rfl) 26 _ _ rfl #[stV (.slice at' s.types.length ct) (.slice ah s.things.length ch)] (by simp [Act.eval]) (enters_cs _) (HCL.out _ (by (repeat' (first | assumption | exact HK2.out | exact HK7.out | exact Kept.refl _ _ | refine Kept.drew ?_ | refine Kept.drewN ?_ _ | refine Kept.alloc ?_ _))) HRS.out) ?_
      rintro r9 w7 ⟨a1, t1, a2, t2, lo1, hi1, lo2, hi2, rfl, hty, hth, hlow, hK7⟩
      refine ⟨_, rfl, ?_⟩
      have HK7 := hide (tra (show Same W _ from (by (repeat' (first | assumption | exact HK2.out | exact HK7.out | exact Kept.refl _ _ | refine Kept.drew ?_ | refine Kept.drewN ?_ _ | refine Kept.alloc ?_ _)))) hK7)
      first
        | (have hbx := new_kept hK7 (fun f => f); obtain ⟨y0, y1, y2, y3, y4, y5, y6, y7, y8⟩ := cells8 hbx)
        | (have hbx := new_kept hK7.unD (fun f => f); obtain ⟨y0, y1, y2, y3, y4, y5, y6, y7, y8⟩ := cells8 hbx)
        | skip
      have HF := hide (And.intro hty (And.intro hth (And.intro hlow hK7.size)))
      clear hty hth hlow hK7
      refine hK.out _ _ ?_ (fun hC8 => ?_)
      · exact HALL.out _ (by (repeat' (first | assumption | exact HK2.out | exact HK7.out | exact Kept.refl _ _ | refine Kept.drew ?_ | refine Kept.drewN ?_ _ | refine Kept.alloc ?_ _)))
      clear hK K hC7
      try simp only [Act.put, List.setIfInBounds_toArray]
      refine till_any (i := 3) (v := ?v9) rfl (by kernel_rfl) (by kernel_rfl) (by kernel_rfl) (by kernel_rfl) (fun _ _ _ h => h) (Or.inl ⟨by rfl, ?hy9⟩) (fun _ => hC8) ?rest9
      case hy9 => (intro w hSw; (try dsimp only at hSw); go_simp <;> (with_reducible rfl))
      try simp only [Act.put]
      refine till_ready (rs := [5]) (by kernel_rfl) (by simp) ?_
      refine TillReady.free rfl (by kernel_rfl) (fun K hK => ?_) TillReady.nil
      go_simp
      refine hK.out _ _ ?_
      clear hK K
      try simp only [Act.put, List.setIfInBounds_toArray, List.set_cons_zero, List.set_cons_succ]
      refine till_done (by kernel_rfl) ?_ _
      refine NoPanic.normal ?_
      go_wp2_with fail
      go_meet
      case rel =>
        have hz2 := HK2.out.size
        have hz7 := HK7.out.size
        obtain ⟨hty, hth, ⟨hl1, hl2, hoff, hu1, hu2⟩, hsz⟩ := HF.out
        first
          | (revert hbx
             intro hbx
             have hl1' : w2.heap.size < lo1 := lt_new hl1
             have hl2' : w2.heap.size < lo2 := lt_new hl2
             have hdp := doer_put (b0 := W.heap.size) (s := s) (e := e) hbx hty hth ⟨by omega, by omega, hz2⟩ hoff ⟨hu1, hu2⟩ hl1' hl2'
             refine ⟨_, _, _, _, _, _, _, _, _, rfl, ?_, hdp.1⟩
             exact HK7.out.trans hdp.2 (fun i hi e => by omega))
          | exact ⟨_, _, _, _, _, _, _, _, _, rfl, HK7.out.alloc _, doer_new hty hth ⟨Nat.le_trans hz2 hl1, Nat.le_trans hz2 hl2⟩ hoff ⟨hu1, hu2⟩ hz7⟩
  case rest =>
    obtain ⟨gd, a1, t1, a2, t2, lo1, hi1, lo2, hi2, rfl, HKc, HD⟩ := hcut
    clear c0 c1 e0 e1 e2 e3 e4 e5
    go_wp2_with fail
    refine (do_run HD.out HRS.out HREV.out).mono ?_
    intro r w8 hQ
    obtain ⟨hKb, hm⟩ := hQ
    have HS := hide (show Same W w8 from (HKc.out.to.trans hKb (fun _ _ e => e)).mono (fun i hi h => by omega))
    clear hKb
    have hR := blk_kept HGR.out HS.out (fun f => f)
    have p2 := fro2' hR
    obtain ⟨p0, p1⟩ := blk2' hR
    have HR8 := hide hR
    clear hR
    cases hd : doIt s e with
    | error m =>
      rw [hd] at hm HXI
      obtain ⟨hm0, rfl⟩ := hm
      obtain ⟨q0', q1'⟩ := blk2' (set2b' HR8.out (.slice none 0 0) (.slice none 0 0))
      have hqb : (m != 0) = true := by simp [hm0]
      have HF := hide (HERR.out w8 HS.out m HXI.out)
      clear hd hm0
      go_wp2_with fail
      exact bodyPost_ret (v := .tuple #[stV (.slice none 0 0) (.slice none 0 0), .int .i64 m]) (by simp [results, Tryz.results7, go_sem, q0', q1']) rfl HF.out
    | ok s' =>
      rw [hd] at hm HXI
      obtain ⟨rfl, vh', hG', hT, hH⟩ := hm
      obtain ⟨ah', ch', rfl, _, _⟩ := id hH
      obtain ⟨x0, x1, _, _, _, _, _, _, _⟩ := do_cells hG'
      obtain ⟨q0', q1'⟩ := blk2' (set2b' HR8.out (.slice a1 s.types.length t1) (.slice ah' s'.things.length ch'))
      have hKg : Kept (· = gr) w8 ((w8.setCell ⟨gr, 0, none⟩ (.slice a1 s.types.length t1)).setCell ⟨gr, 1, none⟩ (.slice ah' s'.things.length ch')) := ((Kept.refl _ w8).setB 0 _).setB 1 _
      have hlt := HLT.out
      have HF := hide (show doA w _ (.returned (.tuple #[stV (.slice a1 s.types.length t1) (.slice ah' s'.things.length ch'), .int .i64 0])) x from
        ⟨(tra HKW.out HS.out).trans hKg (fun i hi e => by omega), by
          rw [HXI.out]
          exact ⟨_, _, rfl, (hT.keep hKg (fun k hk e => by omega)).mono (fun k _ hk => by omega), (hH.keep hKg (fun k hk e => by omega)).mono (fun k _ hk => by omega)⟩⟩)
      clear hd hG' hT hH hKg hlt
      go_wp2_with fail
      exact bodyPost_ret (v := .tuple #[stV (.slice a1 s.types.length t1) (.slice ah' s'.things.length ch'), .int .i64 0]) (by simp [results, Tryz.results7, go_sem, q0', q1']) rfl HF.out

end Go.Proofs.YtidodjbmlbjchaaGreat

/- state.unchange. -/
namespace Go.Proofs.YtidodjbmlbjchaaGreat
open Go.RowKit

set_option maxRecDepth 20000 in
set_option maxHeartbeats 3200000 in
theorem unchange_any (w : World) (f : FieldT) (c : CellT) (vi : Value) (e : EventT) (P : Nat → Prop) (h : IdsSl P w vi c.ids) (hk : 3 ≤ e.kind ∧ e.kind ≤ 6) :
    Calls Tryz.prog 30 #[flV f, ceV c vi, evV e] w fun r w' => r = .returned (evV (unchangeE f c e)) ∧ Same w w' := by
  obtain ⟨ai, ci, rfl, _, _⟩ := id h
  obtain ⟨_, hmax, _⟩ := h.len
  obtain ⟨n, tx, ids⟩ := c
  obtain ⟨k, ty, i, fi, en, et⟩ := e
  obtain ⟨fn, fk, fo⟩ := f
  simp only at h hk hmax ⊢
  have hk4 : k = 3 ∨ k = 4 ∨ k = 5 ∨ k = 6 := by omega
  clear hk
  obtain ⟨W, hW⟩ : ∃ W, W = ((w.alloc (.cells #[.string ⟨fn.toArray⟩, .int .i64 fk, .string ⟨fo.toArray⟩] 58)).alloc (.cells #[.int .i64 n, .string ⟨tx.toArray⟩, .slice ai ids.length ci] 65)).alloc (.cells #[.int .i64 k, .int .i64 ty, .int .i64 i, .int .i64 fi, .int .i64 en, .string ⟨et.toArray⟩] 27) := ⟨_, rfl⟩
  have HKW := hide (show Same w W by rw [hW]; exact (((Kept.refl _ w).alloc _).alloc _).alloc _)
  rcases hk4 with rfl | rfl | rfl | rfl
  · clear h
    go_enter Tryz.func30, Tryz.ntmps30
    go_wp2_with fail
    exact bodyPost_ret (by simp [results, Tryz.results30, go_sem]; rfl) rfl ⟨by simp [unchangeE], by exact (by repeat' (first | assumption | exact Kept.refl _ _ | refine Kept.drewN ?_ _ | refine Kept.drew ?_ | refine Kept.alloc ?_ _ | refine Kept.setB ?_ _ _))⟩
  · clear h
    go_enter Tryz.func30, Tryz.ntmps30
    go_wp2_with fail
    exact bodyPost_ret (by simp [results, Tryz.results30, go_sem]; rfl) rfl ⟨by simp [unchangeE], by exact (by repeat' (first | assumption | exact Kept.refl _ _ | refine Kept.drewN ?_ _ | refine Kept.drew ?_ | refine Kept.alloc ?_ _ | refine Kept.setB ?_ _ _))⟩
  · by_cases hf : fk = 3
    · cases ids with
      | nil =>
        subst hf
        clear h
        go_enter Tryz.func30, Tryz.ntmps30
        go_wp2_with fail
        exact bodyPost_ret (by simp [results, Tryz.results30, go_sem]; rfl) rfl ⟨by simp [unchangeE], by exact (by repeat' (first | assumption | exact Kept.refl _ _ | refine Kept.drewN ?_ _ | refine Kept.drew ?_ | refine Kept.alloc ?_ _ | refine Kept.setB ?_ _ _))⟩
      | cons z r =>
        subst hf
        have h2 := (h.same HKW.out).same (show Same W (W.alloc (.cells #[.int .i64 0, .int .i64 0, .int .i64 0, .int .i64 0, .int .i64 0, .string ⟨#[]⟩] 27)) from (Kept.refl _ W).alloc _)
        obtain ⟨b, o, rfl, _, c0⟩ := h2.at 0 (by simp)
        rw [hW] at c0
        simp only [Nat.add_zero, List.getElem_cons_zero] at c0
        have hl0 : (0 : Int) < ((z :: r).length : Int) := by simp
        obtain ⟨ln, hln⟩ : ∃ ln, (z :: r).length = ln := ⟨_, rfl⟩
        rw [hln] at hl0 c0 hmax ⊢
        clear h h2 hW
        go_enter Tryz.func30, Tryz.ntmps30
        go_wp2_with fail
        exact bodyPost_ret (by simp [results, Tryz.results30, go_sem]; rfl) rfl ⟨by simp [unchangeE], by exact (by repeat' (first | assumption | exact Kept.refl _ _ | refine Kept.drewN ?_ _ | refine Kept.drew ?_ | refine Kept.alloc ?_ _ | refine Kept.setB ?_ _ _))⟩
    · have hfb : (fk == 3) = false := by simp [hf]
      clear h
      go_enter Tryz.func30, Tryz.ntmps30
      go_wp2_with fail
      exact bodyPost_ret (by simp [results, Tryz.results30, go_sem]; rfl) rfl ⟨by simp [unchangeE, hf], by exact (by repeat' (first | assumption | exact Kept.refl _ _ | refine Kept.drewN ?_ _ | refine Kept.drew ?_ | refine Kept.alloc ?_ _ | refine Kept.setB ?_ _ _))⟩
  · clear h
    go_enter Tryz.func30, Tryz.ntmps30
    go_wp2_with fail
    exact bodyPost_ret (by simp [results, Tryz.results30, go_sem]; rfl) rfl ⟨by simp [unchangeE], by exact (by repeat' (first | assumption | exact Kept.refl _ _ | refine Kept.drewN ?_ _ | refine Kept.drew ?_ | refine Kept.alloc ?_ _ | refine Kept.setB ?_ _ _))⟩

end Go.Proofs.YtidodjbmlbjchaaGreat

/- state.undrop. -/
namespace Go.Proofs.YtidodjbmlbjchaaGreat
open Go.RowKit

set_option maxRecDepth 20000 in
set_option maxHeartbeats 1600000 in
theorem undropAsk_any (w : World) : AsksAt w 63 #[] firstC := by
  intro wx f c ai ni ci hx hids
  obtain ⟨hni, hmax, _⟩ := hids.len
  have HM := hide (show firstC f c = if c.n ≠ 0 ∨ c.text ≠ [] ∨ c.ids ≠ [] then 4 else 0 from rfl)
  obtain ⟨m, hm⟩ : ∃ m, firstC f c = m := ⟨_, rfl⟩
  rw [hm] at HM ⊢
  obtain ⟨n, tx, ids⟩ := c
  simp only at HM hni hmax ⊢
  subst hni
  clear hm hids hx
  go_enter Tryz.func63, Tryz.ntmps63
  go_wp2_with fail
  all_goals (go_ret; refine ⟨ret_int ?_, by exact (by repeat' (first | assumption | exact Kept.refl _ _ | refine Kept.drewN ?_ _ | refine Kept.drew ?_ | refine Kept.alloc ?_ _ | refine Kept.setB ?_ _ _))⟩; rw [HM.out]; first | (rw [if_pos (by simp_all [List.length_pos_iff])]; done) | (rw [if_neg (by simp_all [List.length_pos_iff])]; done))

end Go.Proofs.YtidodjbmlbjchaaGreat
