/- The reference: AppendOf. (Written by tool/genrs7.py.) -/
import Derived.Test.YtillhpepfpldcaaDisktells31
import Derived.Deep.Onto
namespace Go.Proofs.Ytillhpepfpldcaa
open Go.RowKit

def RApp (w : World) (x : Except Int DiskT) (r : Ending) (w' : World) : Prop :=
  ∃ ao cap, r = .returned (.tuple #[diV (.slice ao (ansD x).1.segs.length cap) (ansD x).1.synced, .int .i64 (ansD x).2]) ∧ StSl (fun _ => True) w' (.slice ao (ansD x).1.segs.length cap) (ansD x).1.segs ∧ Same w w'

set_option maxRecDepth 20000 in
set_option maxHeartbeats 12800000 in
theorem rAppendOf_any (P Q : Nat → Prop) (w : World) (v vb : Value) (d : DiskT) (b : BatchT) (h : StSl P w v d.segs) (hb : EvSl Q w vb b.events) (hc : checkD d = 0) (hcb : checkBa b = 0) :
    Calls Try.prog 23 #[diV v d.synced, baV b.number vb] w fun r w' => RApp w (appendD d b) r w' := by
  have trs : ∀ {a b c : World}, Same a b → Same b c → Same a c := fun h k => h.trans k (fun _ _ f => f)
  obtain ⟨hl8, hx4⟩ := check_le hc
  have hxl : (bytesB b).length ≤ 400 := by have := inner_len hcb; unfold bytesB; rw [List.length_append, beN_len]; omega
  have HAP := hide (app_ok hc hcb)
  obtain ⟨l, sy⟩ := d
  simp only at h hl8 hx4 ⊢
  have hT : tornD ⟨l, sy⟩ = decide ((wholeS (lastS l)).length < (lastS l).length) := rfl
  rw [hT] at HAP
  obtain ⟨ao, cap, rfl⟩ := h.form
  obtain ⟨ab, cb, rfl⟩ := hb.form
  have hll : (lastS l).length ≤ 400 := by
    rcases List.eq_nil_or_concat l with rfl | ⟨i, s, rfl⟩
    · simp [lastS]
    · rw [List.concat_eq_append, lastS_app]; exact hx4 s (by simp)
  obtain ⟨is, his, hsz0, hsz1, hsz2⟩ := info_parts info_str
  obtain ⟨W, hW⟩ : ∃ W, W = ((w.alloc (.cells #[.slice ao l.length cap, .int .i64 sy] 38)).alloc (.cells #[.int .i64 b.number, .slice ab b.events.length cb] 24)).alloc (.cells #[.slice none 0 0, .int .i64 0] 38) := ⟨_, rfl⟩
  obtain ⟨g, hg⟩ : ∃ g, g = w.heap.size := ⟨_, rfl⟩
  obtain ⟨gb, hgb⟩ : ∃ gb, gb = w.heap.size + 1 := ⟨_, rfl⟩
  obtain ⟨g1, hg1⟩ : ∃ g1, g1 = w.heap.size + 1 + 1 := ⟨_, rfl⟩
  have HGD := hide (show W.heap[g]? = some (.cells #[.slice ao l.length cap, .int .i64 sy] 38 (0, 0)) by rw [hW, hg]; exact (Below.heap_alloc _ _ _ (by simp; omega)).trans (al_old w _ _))
  have HGB := hide (show W.heap[gb]? = some (.cells #[.int .i64 b.number, .slice ab b.events.length cb] 24 (0, 0)) by rw [hW, hgb]; exact (Below.heap_alloc _ _ _ (by simp)).trans (al_new _ _ _))
  have HGR := hide (show W.heap[g1]? = some (.cells #[.slice none 0 0, .int .i64 0] 38 (0, 0)) by rw [hW, hg1]; exact al3 _ _ _ _)
  have HKW := hide (show Same w W by rw [hW]; exact (((Kept.refl _ w).alloc _).alloc _).alloc _)
  have hWs : g < gb ∧ gb < g1 ∧ g1 < W.heap.size ∧ w.heap.size ≤ g := by rw [hW, hg, hgb, hg1]; simp
  obtain ⟨hg01, hg02, hg1W, hwg⟩ := hWs
  have HSW := hide (h.same HKW.out)
  have HBW := hide (hb.same HKW.out)
  have HNN := hide (And.intro h.none (sl_news HSW.out))
  have HLO := hide (fun wx (hx : Same W wx) => lastOf_any _ wx _ sy l (HSW.out.same hx))
  have HSO := hide (fun wx => segOf_any wx (lastS l) hll)
  have HBB := hide (fun wx (hx : Same W wx) => batchBytes_any _ wx b _ hcb (HBW.out.same hx))
  obtain ⟨c0, c1⟩ := blk2 HGD.out
  obtain ⟨b0, b1⟩ := blk2 HGB.out
  have HC := hide (show ∀ wy, Same W wy → wy.cell? ⟨g, 0, none⟩ = some (.slice ao l.length cap) ∧ wy.cell? ⟨g, 1, none⟩ = some (.int .i64 sy) from fun wy hy => ⟨hy.cell c0 (fun f => f), hy.cell c1 (fun f => f)⟩)
  have HCB := hide (show ∀ wy, Same W wy → wy.cell? ⟨gb, 0, none⟩ = some (.int .i64 b.number) ∧ wy.cell? ⟨gb, 1, none⟩ = some (.slice ab b.events.length cb) from fun wy hy => ⟨hy.cell b0 (fun f => f), hy.cell b1 (fun f => f)⟩)
  have hzl := bsize (lastS l)
  clear hc hcb hT h hb c0 c1 b0 b1
  obtain ⟨nw, hnw⟩ : ∃ nw, (wholeS (lastS l)).length = nw := ⟨_, rfl⟩
  obtain ⟨X, hX⟩ : ∃ X, bytesB b = X := ⟨_, rfl⟩
  rw [hnw] at HAP HSO
  rw [hX] at HAP HBB hxl
  have HLS := hide (show ∀ i s, l = i ++ [s] → lastS l = s from fun i s e => by rw [e, lastS_app])
  obtain ⟨sl, hsl⟩ : ∃ sl, lastS l = sl := ⟨_, rfl⟩
  rw [hsl] at HAP HSO HLO HLS hll hzl
  clear hnw hX hsl
  have HLO1 := hide (HLO.out W (Kept.refl _ _))
  obtain ⟨c0, c1⟩ := HC.out W (Kept.refl _ _)
  go_enter Try.func23, Try.ntmps23
  go_wp2_with fail
  rw [← hW, ← hg1, ← hgb, ← hg]
  clear hW hg hgb hg1
  refine HLO1.out.mono ?_
  clear HLO1
  rintro r w1 ⟨rfl, hK1⟩
  clear c0 c1
  go_wp2_with fail
  refine (HSO.out _).mono ?_
  rintro r w2 ⟨v2, rfl, _, hK2⟩
  have HK2 := hide (trs hK1 hK2)
  obtain ⟨c0, c1⟩ := HC.out _ HK2.out
  have HLO2 := hide (HLO.out _ HK2.out)
  clear hK1 hK2 HSO HLO
  go_wp2_with fail
  refine HLO2.out.mono ?_
  clear HLO2
  rintro r w3 ⟨rfl, hK3⟩
  have HK3 := hide (trs HK2.out hK3)
  clear c0 c1 hK3 HK2
  by_cases ht : nw < sl.length
  · have HE := hide (show appendD ⟨l, sy⟩ b = .error 4 by rw [HAP.out, decide_eq_true ht]; rfl)
    have hR := blk_kept HGR.out HK3.out (fun f => f)
    have p2 := fro2 hR
    obtain ⟨p0, p1⟩ := blk2 hR
    obtain ⟨q0, q1, _, q3⟩ := ret_box (d := disk0) (w := w) hR (trs HKW.out HK3.out) (by omega) (StSl.nil _ _)
    simp only [disk0, List.length_nil] at q0 q1 q3
    have HQ3 := hide q3
    clear q3 hR
    go_wp2_with fail
    exact bodyPost_ret (v := .tuple #[diV (.slice none 0 0) 0, .int .i64 4]) (by simp [results, Try.results23, go_sem, q0, q1]) rfl (by rw [HE.out]; exact ⟨none, 0, rfl, StSl.nil _ _, HQ3.out⟩)
  have HP := hide (show appendD ⟨l, sy⟩ b = putD ⟨l, sy⟩ X by rw [HAP.out, decide_eq_false ht]; rfl)
  clear HAP
  obtain ⟨b0, b1⟩ := HCB.out _ HK3.out
  have HBB3 := hide (HBB.out _ HK3.out)
  clear HBB HCB HBW
  go_wp2_with fail
  refine HBB3.out.mono ?_
  clear HBB3
  rintro r w4 ⟨rfl, hK4⟩
  have HK4 := hide (trs HK3.out hK4)
  clear b0 b1 hK4 HK3
  go_wp2_with fail
  go_cut [10] (fun xv wx => ∃ gx : Nat, xv = .pointer (some ⟨gx, 0, none⟩) ∧ Hid (XB W.heap.size wx gx ⟨l, sy⟩) ∧ Hid (Same W wx))
  case first =>
    refine wp_region_noPanic ?_
    refine wp_till 8 (fun w' => w'.cell? ⟨g, 0, none⟩ = some (.slice ao l.length cap) ∧ w'.cell? ⟨g, 1, none⟩ = some (.int .i64 sy)) (by kernel_rfl) ?_ (fun hC0 => ?_)
    · exact HC.out _ (by (repeat' (first | assumption | exact HK4.out | exact Kept.refl _ _ | refine Kept.drew ?_ | refine Kept.drewN ?_ _ | refine Kept.alloc ?_ _)))
    refine till_any (i := 1) (v := ?v1) rfl (by kernel_rfl) (by kernel_rfl) (by kernel_rfl) (by kernel_rfl) (fun _ _ _ h => h) (Or.inl ⟨by rfl, ?hy1⟩) (fun _ => hC0) ?rest1
    case hy1 => (intro w hSw; (try dsimp only at hSw); go_simp <;> (with_reducible rfl))
    try simp only [Act.put, List.setIfInBounds_toArray]
    refine till_take (i := 2) (v := ?v2) rfl (by kernel_rfl) (by kernel_rfl) (by kernel_rfl) (by kernel_rfl) (fun _ _ _ h => h) (Or.inl ⟨by rfl, ?hy2⟩) hC0 ?rest2
    case hy2 => (intro w hSw; (try dsimp only at hSw); go_simp <;> (with_reducible rfl))
    try simp only [Act.put]
    refine till_any (i := 4) (v := ?v3) rfl (by kernel_rfl) (by kernel_rfl) (by kernel_rfl) (by kernel_rfl) (fun _ _ _ h => h) (Or.inl ⟨by rfl, ?hy3⟩) (fun _ => hC0) ?rest3
    case hy3 => (intro w hSw; (try dsimp only at hSw); go_simp <;> (with_reducible rfl))
    try simp only [Act.put]
    refine till_take (i := 5) (v := ?v4) rfl (by kernel_rfl) (by kernel_rfl) (by kernel_rfl) (by kernel_rfl) (fun _ _ _ h => h) (Or.inl ⟨by rfl, ?hy4⟩) hC0 ?rest4
    case hy4 => (intro w hSw; (try dsimp only at hSw); go_simp <;> (with_reducible rfl))
    try simp only [Act.put]
    refine till_ready (rs := [0, 7]) (by kernel_rfl) (by simp) ?_
    refine TillReady.cons rfl (fun K hK => ?_) (TillReady.cons rfl (fun K hK => ?_) TillReady.nil)
    · skip
      go_simp
      refine hK.out _ _ ?_ (fun hC5 => ?_)
      · first | (refine HC.out _ ?_; (repeat' (first | assumption | exact HK4.out | exact Kept.refl _ _ | refine Kept.drew ?_ | refine Kept.drewN ?_ _ | refine Kept.alloc ?_ _)); done) | exact HC.out _ HR5.out.1 | exact HC.out _ (HR5.out.1.alloc _)
      clear hK K hC0
      try simp only [Act.put, List.setIfInBounds_toArray, List.set_cons_zero, List.set_cons_succ]
      refine till_ready (rs := [3, 7]) (by kernel_rfl) (by simp) ?_
      refine TillReady.cons rfl (fun K hK => ?_) (TillReady.cons rfl (fun K hK => ?_) TillReady.nil)
      · skip
        refine step_append_w (by rfl) (.tmp 27) (.tmp 29) 36 rfl w4.heap.size 9 is _ 1 16 Try.underlying36 his hsz0 hsz1 hsz2 rfl (by decide) _ 0 [] (by rfl) (by first | exact own_str0 _ (Nat.le_refl _) | exact (own_str0 _ (Nat.le_refl _)).alloc _ | exact own_str1 _ _ (Nat.le_refl _)) ao l.length cap (stCells l) (by rfl) HNN.out.1 (by rw [stCells_len, Nat.mul_one]) (fun ad had j u hj => (show Same W _ from (by (repeat' (first | assumption | exact HK4.out | exact Kept.refl _ _ | refine Kept.drew ?_ | refine Kept.drewN ?_ _ | refine Kept.alloc ?_ _)))).cell (HNN.out.2 ad had j u hj) (fun f => f)) (stCells_one l) (by unfold maxLen; omega) (by omega) (by simp; try omega) ?_
        intro v5 w5 hown5 hgr5
        rw [Nat.zero_add, List.nil_append] at hown5
        obtain ⟨a5, c5, hv5⟩ := own_slice hown5
        subst hv5
        have hK45 : Same w4 w5 := Kept.grown (by repeat' (first | assumption | exact Kept.refl _ _ | refine Kept.drew ?_ | refine Kept.drewN ?_ _ | refine Kept.alloc ?_ _)) hgr5 (fun k hk hlt => by cases hk; first | exact absurd hlt (Nat.lt_irrefl _) | (simp at hlt; done) | (simp at hlt; omega))
        have HR5 := hide (show Same W w5 ∧ w5.ownsRow W.heap.size 9 1 (.slice a5 l.length c5) l.length (stCells l) from ⟨trs HK4.out hK45, World.ownsRow.mono hown5 HK4.out.size⟩)
        first
          | (have hbx := grown_old hgr5 rfl; obtain ⟨y0, y1⟩ := blk2 hbx; have y2 := fro2 hbx)
          | (have hbx := grown_new hgr5 rfl; obtain ⟨y0, y1⟩ := blk2 hbx; have y2 := fro2 hbx)
          | skip
        clear hown5 hgr5 hK45
        refine hK.out _ _ ?_ (fun hC6 => ?_)
        · first | (refine HC.out _ ?_; (repeat' (first | assumption | exact HK4.out | exact Kept.refl _ _ | refine Kept.drew ?_ | refine Kept.drewN ?_ _ | refine Kept.alloc ?_ _)); done) | exact HC.out _ HR5.out.1 | exact HC.out _ (HR5.out.1.alloc _)
        clear hK K hC5
        try simp only [Act.put, List.setIfInBounds_toArray]
        refine till_any (i := 6) (v := ?v7) rfl (by kernel_rfl) (by kernel_rfl) (by kernel_rfl) (by kernel_rfl) (fun _ _ _ h => h) (Or.inl ⟨by rfl, ?hy7⟩) (fun _ => hC6) ?rest7
        case hy7 => (intro w hSw; (try dsimp only at hSw); go_simp <;> (with_reducible rfl))
        try simp only [Act.put]
        refine till_ready (rs := [7]) (by kernel_rfl) (by simp) ?_
        refine TillReady.cons rfl (fun K hK => ?_) TillReady.nil
        go_simp
        refine hK.out _ _ ?_ (fun hC8 => ?_)
        · first | (refine HC.out _ ?_; (repeat' (first | assumption | exact HK4.out | exact Kept.refl _ _ | refine Kept.drew ?_ | refine Kept.drewN ?_ _ | refine Kept.alloc ?_ _)); done) | exact HC.out _ HR5.out.1 | exact HC.out _ (HR5.out.1.alloc _)
        clear hK K hC6
        try simp only [Act.put, List.setIfInBounds_toArray, List.set_cons_zero, List.set_cons_succ]
        refine till_ready (rs := [8]) (by kernel_rfl) (by simp) ?_
        refine TillReady.free rfl (by kernel_rfl) (fun K hK => ?_) TillReady.nil
        go_simp
        refine hK.out _ _ ?_
        clear hK K
        try simp only [Act.put, List.setIfInBounds_toArray, List.set_cons_zero, List.set_cons_succ]
        refine till_done (by kernel_rfl) ?_ _
        refine NoPanic.normal ?_
        go_wp2_with fail
        go_meet
        case rel => first
          | exact ⟨_, rfl, XB.new (d := ⟨l, sy⟩) HR5.out.2 HR5.out.1.size, HR5.out.1.alloc _⟩
          | exact ⟨_, rfl, XB.put (d := ⟨l, sy⟩) HR5.out.2 HK4.out.size hbx, same_put HR5.out.1 HK4.out.size _ _⟩
          | exact ⟨_, rfl, XB.put (d := ⟨l, sy⟩) HR5.out.2 (Nat.le_succ_of_le HK4.out.size) hbx, same_put HR5.out.1 (Nat.le_succ_of_le HK4.out.size) _ _⟩
      · skip
        go_simp
        refine hK.out _ _ ?_ (fun hC10 => ?_)
        · first | (refine HC.out _ ?_; (repeat' (first | assumption | exact HK4.out | exact Kept.refl _ _ | refine Kept.drew ?_ | refine Kept.drewN ?_ _ | refine Kept.alloc ?_ _)); done) | exact HC.out _ HR5.out.1 | exact HC.out _ (HR5.out.1.alloc _)
        clear hK K hC5
        try simp only [Act.put, List.setIfInBounds_toArray, List.set_cons_zero, List.set_cons_succ]
        refine till_ready (rs := [3]) (by kernel_rfl) (by simp) ?_
        refine TillReady.cons rfl (fun K hK => ?_) TillReady.nil
        refine step_append_w (by rfl) (.tmp 27) (.tmp 29) 36 rfl w4.heap.size 9 is _ 1 16 Try.underlying36 his hsz0 hsz1 hsz2 rfl (by decide) _ 0 [] (by rfl) (by first | exact own_str0 _ (Nat.le_refl _) | exact (own_str0 _ (Nat.le_refl _)).alloc _ | exact own_str1 _ _ (Nat.le_refl _)) ao l.length cap (stCells l) (by rfl) HNN.out.1 (by rw [stCells_len, Nat.mul_one]) (fun ad had j u hj => (show Same W _ from (by (repeat' (first | assumption | exact HK4.out | exact Kept.refl _ _ | refine Kept.drew ?_ | refine Kept.drewN ?_ _ | refine Kept.alloc ?_ _)))).cell (HNN.out.2 ad had j u hj) (fun f => f)) (stCells_one l) (by unfold maxLen; omega) (by omega) (by simp; try omega) ?_
        intro v5 w5 hown5 hgr5
        rw [Nat.zero_add, List.nil_append] at hown5
        obtain ⟨a5, c5, hv5⟩ := own_slice hown5
        subst hv5
        have hK45 : Same w4 w5 := Kept.grown (by repeat' (first | assumption | exact Kept.refl _ _ | refine Kept.drew ?_ | refine Kept.drewN ?_ _ | refine Kept.alloc ?_ _)) hgr5 (fun k hk hlt => by cases hk; first | exact absurd hlt (Nat.lt_irrefl _) | (simp at hlt; done) | (simp at hlt; omega))
        have HR5 := hide (show Same W w5 ∧ w5.ownsRow W.heap.size 9 1 (.slice a5 l.length c5) l.length (stCells l) from ⟨trs HK4.out hK45, World.ownsRow.mono hown5 HK4.out.size⟩)
        first
          | (have hbx := grown_old hgr5 rfl; obtain ⟨y0, y1⟩ := blk2 hbx; have y2 := fro2 hbx)
          | (have hbx := grown_new hgr5 rfl; obtain ⟨y0, y1⟩ := blk2 hbx; have y2 := fro2 hbx)
          | skip
        clear hown5 hgr5 hK45
        refine hK.out _ _ ?_ (fun hC11 => ?_)
        · first | (refine HC.out _ ?_; (repeat' (first | assumption | exact HK4.out | exact Kept.refl _ _ | refine Kept.drew ?_ | refine Kept.drewN ?_ _ | refine Kept.alloc ?_ _)); done) | exact HC.out _ HR5.out.1 | exact HC.out _ (HR5.out.1.alloc _)
        clear hK K hC10
        try simp only [Act.put, List.setIfInBounds_toArray]
        refine till_any (i := 6) (v := ?v12) rfl (by kernel_rfl) (by kernel_rfl) (by kernel_rfl) (by kernel_rfl) (fun _ _ _ h => h) (Or.inl ⟨by rfl, ?hy12⟩) (fun _ => hC11) ?rest12
        case hy12 => (intro w hSw; (try dsimp only at hSw); go_simp <;> (with_reducible rfl))
        try simp only [Act.put]
        refine till_ready (rs := [8]) (by kernel_rfl) (by simp) ?_
        refine TillReady.free rfl (by kernel_rfl) (fun K hK => ?_) TillReady.nil
        go_simp
        refine hK.out _ _ ?_
        clear hK K
        try simp only [Act.put, List.setIfInBounds_toArray, List.set_cons_zero, List.set_cons_succ]
        refine till_done (by kernel_rfl) ?_ _
        refine NoPanic.normal ?_
        go_wp2_with fail
        go_meet
        case rel => first
          | exact ⟨_, rfl, XB.new (d := ⟨l, sy⟩) HR5.out.2 HR5.out.1.size, HR5.out.1.alloc _⟩
          | exact ⟨_, rfl, XB.put (d := ⟨l, sy⟩) HR5.out.2 HK4.out.size hbx, same_put HR5.out.1 HK4.out.size _ _⟩
          | exact ⟨_, rfl, XB.put (d := ⟨l, sy⟩) HR5.out.2 (Nat.le_succ_of_le HK4.out.size) hbx, same_put HR5.out.1 (Nat.le_succ_of_le HK4.out.size) _ _⟩
    · skip
      go_simp
      refine hK.out _ _ ?_ (fun hC14 => ?_)
      · first | (refine HC.out _ ?_; (repeat' (first | assumption | exact HK4.out | exact Kept.refl _ _ | refine Kept.drew ?_ | refine Kept.drewN ?_ _ | refine Kept.alloc ?_ _)); done) | exact HC.out _ HR5.out.1 | exact HC.out _ (HR5.out.1.alloc _)
      clear hK K hC0
      try simp only [Act.put, List.setIfInBounds_toArray, List.set_cons_zero, List.set_cons_succ]
      refine till_ready (rs := [0]) (by kernel_rfl) (by simp) ?_
      refine TillReady.cons rfl (fun K hK => ?_) TillReady.nil
      go_simp
      refine hK.out _ _ ?_ (fun hC15 => ?_)
      · first | (refine HC.out _ ?_; (repeat' (first | assumption | exact HK4.out | exact Kept.refl _ _ | refine Kept.drew ?_ | refine Kept.drewN ?_ _ | refine Kept.alloc ?_ _)); done) | exact HC.out _ HR5.out.1 | exact HC.out _ (HR5.out.1.alloc _)
      clear hK K hC14
      try simp only [Act.put, List.setIfInBounds_toArray, List.set_cons_zero, List.set_cons_succ]
      refine till_ready (rs := [3]) (by kernel_rfl) (by simp) ?_
      refine TillReady.cons rfl (fun K hK => ?_) TillReady.nil
      refine step_append_w (by rfl) (.tmp 27) (.tmp 29) 36 rfl w4.heap.size 9 is _ 1 16 Try.underlying36 his hsz0 hsz1 hsz2 rfl (by decide) _ 0 [] (by rfl) (by first | exact own_str0 _ (Nat.le_refl _) | exact (own_str0 _ (Nat.le_refl _)).alloc _ | exact own_str1 _ _ (Nat.le_refl _)) ao l.length cap (stCells l) (by rfl) HNN.out.1 (by rw [stCells_len, Nat.mul_one]) (fun ad had j u hj => (show Same W _ from (by (repeat' (first | assumption | exact HK4.out | exact Kept.refl _ _ | refine Kept.drew ?_ | refine Kept.drewN ?_ _ | refine Kept.alloc ?_ _)))).cell (HNN.out.2 ad had j u hj) (fun f => f)) (stCells_one l) (by unfold maxLen; omega) (by omega) (by simp; try omega) ?_
      intro v5 w5 hown5 hgr5
      rw [Nat.zero_add, List.nil_append] at hown5
      obtain ⟨a5, c5, hv5⟩ := own_slice hown5
      subst hv5
      have hK45 : Same w4 w5 := Kept.grown (by repeat' (first | assumption | exact Kept.refl _ _ | refine Kept.drew ?_ | refine Kept.drewN ?_ _ | refine Kept.alloc ?_ _)) hgr5 (fun k hk hlt => by cases hk; first | exact absurd hlt (Nat.lt_irrefl _) | (simp at hlt; done) | (simp at hlt; omega))
      have HR5 := hide (show Same W w5 ∧ w5.ownsRow W.heap.size 9 1 (.slice a5 l.length c5) l.length (stCells l) from ⟨trs HK4.out hK45, World.ownsRow.mono hown5 HK4.out.size⟩)
      first
        | (have hbx := grown_old hgr5 rfl; obtain ⟨y0, y1⟩ := blk2 hbx; have y2 := fro2 hbx)
        | (have hbx := grown_new hgr5 rfl; obtain ⟨y0, y1⟩ := blk2 hbx; have y2 := fro2 hbx)
        | skip
      clear hown5 hgr5 hK45
      refine hK.out _ _ ?_ (fun hC16 => ?_)
      · first | (refine HC.out _ ?_; (repeat' (first | assumption | exact HK4.out | exact Kept.refl _ _ | refine Kept.drew ?_ | refine Kept.drewN ?_ _ | refine Kept.alloc ?_ _)); done) | exact HC.out _ HR5.out.1 | exact HC.out _ (HR5.out.1.alloc _)
      clear hK K hC15
      try simp only [Act.put, List.setIfInBounds_toArray]
      refine till_any (i := 6) (v := ?v17) rfl (by kernel_rfl) (by kernel_rfl) (by kernel_rfl) (by kernel_rfl) (fun _ _ _ h => h) (Or.inl ⟨by rfl, ?hy17⟩) (fun _ => hC16) ?rest17
      case hy17 => (intro w hSw; (try dsimp only at hSw); go_simp <;> (with_reducible rfl))
      try simp only [Act.put]
      refine till_ready (rs := [8]) (by kernel_rfl) (by simp) ?_
      refine TillReady.free rfl (by kernel_rfl) (fun K hK => ?_) TillReady.nil
      go_simp
      refine hK.out _ _ ?_
      clear hK K
      try simp only [Act.put, List.setIfInBounds_toArray, List.set_cons_zero, List.set_cons_succ]
      refine till_done (by kernel_rfl) ?_ _
      refine NoPanic.normal ?_
      go_wp2_with fail
      go_meet
      case rel => first
        | exact ⟨_, rfl, XB.new (d := ⟨l, sy⟩) HR5.out.2 HR5.out.1.size, HR5.out.1.alloc _⟩
        | exact ⟨_, rfl, XB.put (d := ⟨l, sy⟩) HR5.out.2 HK4.out.size hbx, same_put HR5.out.1 HK4.out.size _ _⟩
        | exact ⟨_, rfl, XB.put (d := ⟨l, sy⟩) HR5.out.2 (Nat.le_succ_of_le HK4.out.size) hbx, same_put HR5.out.1 (Nat.le_succ_of_le HK4.out.size) _ _⟩
  case rest =>
    obtain ⟨gx, rfl, HXB, HKc⟩ := hcut
    obtain ⟨hgx, sv, hbx, hown⟩ := HXB.out
    obtain ⟨a5, c5, hsv⟩ := own_slice hown
    simp only at hsv
    subst hsv
    clear HXB
    simp only at hbx hgx
    obtain ⟨x0, x1⟩ := blk2 hbx
    have hxf := fro2 hbx
    have hR := blk_kept HGR.out HKc.out (fun f => f)
    have p2 := fro2 hR
    obtain ⟨p0, p1⟩ := blk2 hR
    have hgne : g1 ≠ gx := by omega
    have hzx := bsize X
    by_cases hroom : l ≠ [] ∧ sl.length + X.length ≤ 400
    · obtain ⟨hne, hsum⟩ := hroom
      rcases List.eq_nil_or_concat l with rfl | ⟨i, s, rfl⟩
      · exact absurd rfl hne
      simp only [List.concat_eq_append] at *
      have hl : (i ++ [s]).length = i.length + 1 := by simp
      have hs := HLS.out i s rfl
      subst hs
      have HE := hide (show appendD ⟨i ++ [sl], sy⟩ b = .ok ⟨i ++ [sl ++ X], sy⟩ by
        rw [HP.out]; unfold putD; rw [if_pos ⟨hne, by rw [lastS_app]; exact hsum⟩]; simp only; rw [lastS_app, setLastS_app])
      have hst := own_sts hown (by unfold maxLen; simp; omega)
      obtain ⟨b5, o5, ha5, _, e0⟩ := hst.at i.length (by omega)
      rw [List.getElem_concat_length rfl] at e0
      have ho5 : o5 = 0 := by
        rcases hown.2 with ⟨h', _⟩ | ⟨g', cap', cur, h', _⟩
        · simp at h'
        · injection h' with h1 h2 h3; rw [h1] at ha5; cases ha5; rfl
      subst ho5
      rw [Nat.zero_add] at e0
      have hcap : i.length + 1 ≤ c5 := by have := hst.len; omega
      subst ha5
      have hfr := World.ownsRow.frozenAt hown i.length
      have hXX : (⟨sl.toArray⟩ : ByteArray) ++ ⟨X.toArray⟩ = ⟨(sl ++ X).toArray⟩ := by
        apply ByteArray.ext
        simp
      have hsz : (⟨(sl ++ X).toArray⟩ : ByteArray).size = sl.length + X.length := by rw [bsize, List.length_append]
      have hle4 : (sl.length : Int) + X.length ≤ 400 := by omega
      have hb0 : (0 : Int) ≤ i.length := by omega
      have hb1 : (i.length : Int) < (i.length : Int) + 1 := by omega
      have hb2 : (0 : Int) < (i.length : Int) + 1 := by omega
      have hil : ((i.length : Int) + 1 - 1) = i.length := by omega
      rw [hl] at x0
      have HOW := hide (show ((wc.setCell ⟨b5, i.length, none⟩ (.string ⟨(sl ++ X).toArray⟩)).heap[g1]? = some (.cells #[.slice none 0 0, .int .i64 0] 38 (0, 0))) ∧ StSl (fun _ => True) (wc.setCell ⟨b5, i.length, none⟩ (.string ⟨(sl ++ X).toArray⟩)) (.slice (some ⟨b5, 0, none⟩) (i.length + 1) c5) (i ++ [sl ++ X]) ∧ Same w (wc.setCell ⟨b5, i.length, none⟩ (.string ⟨(sl ++ X).toArray⟩)) ∧ (wc.setCell ⟨b5, i.length, none⟩ (.string ⟨(sl ++ X).toArray⟩)).cell? ⟨gx, 0, none⟩ = some (.slice (some ⟨b5, 0, none⟩) (i.length + 1) c5) ∧ (wc.setCell ⟨b5, i.length, none⟩ (.string ⟨(sl ++ X).toArray⟩)).cell? ⟨gx, 1, none⟩ = some (.int .i64 sy) from by
          have hb5 : W.heap.size ≤ b5 := own_row hown b5 rfl
          have hrb : b5 ≠ gx := by rintro rfl; exact row_box hown hbx rfl
          have hst5 : Kept (· = b5) wc (wc.setCell ⟨b5, i.length, none⟩ (.string ⟨(sl ++ X).toArray⟩)) := (Kept.refl _ wc).setB _ _
          have h2 := own_set hown i.length (sl ++ X)
          have h3 : (i ++ [sl]).set i.length (sl ++ X) = i ++ [sl ++ X] := by simp
          rw [h3] at h2
          have h4 := (own_sts (l := i ++ [sl ++ X]) (v := .slice (some ⟨b5, 0, none⟩) (i.length + 1) c5) (by have := h2; simp only [List.length_append, List.length_cons, List.length_nil, Nat.zero_add] at this ⊢; exact this) (by unfold maxLen; simp; omega))
          obtain ⟨y0, y1⟩ := blk2 (blk_kept hbx hst5 (fun e => hrb e.symm))
          refine ⟨blk_kept hR hst5 (by show ¬ g1 = b5; omega), h4.mono (fun _ _ _ => trivial), ((trs HKW.out HKc.out)).setCell (fun h => absurd h (by show ¬ b5 < w.heap.size; omega)) _, ?_, y1⟩
          rw [y0, hl])
      obtain ⟨e1, e2, e3, e4, e5⟩ := HOW.out
      have f2 := fro2 e1
      obtain ⟨f0, f1⟩ := blk2 e1
      obtain ⟨r0, r1, r2, r3⟩ := ret_box (d := ⟨i ++ [sl ++ X], sy⟩) e1 e3 (by omega) (by simpa using e2)
      simp only [List.length_append, List.length_cons, List.length_nil, Nat.zero_add] at r0 r1 r2 r3
      have HR23 := hide (And.intro r2 r3)
      clear r2 r3 e1 e2 e3 hst hown hbx hR p0 p1 p2
      go_wp2_with fail
      exact bodyPost_ret (v := .tuple #[diV (.slice (some ⟨b5, 0, none⟩) (i.length + 1) c5) sy, .int .i64 0]) (by simp [results, Try.results23, go_sem, r0, r1]) rfl (by rw [List.concat_eq_append, HE.out]; exact ⟨some ⟨b5, 0, none⟩, c5, by simp [ansD], by simpa [ansD] using HR23.out.1, HR23.out.2⟩)
    · have hl0 : l.length = 0 ∨ (0 < l.length ∧ ¬ ((sl.length : Int) + X.length ≤ 400) ∧ ∃ (b5 : Nat) (s : List UInt8), a5 = some ⟨b5, 0, none⟩ ∧ l.length ≤ c5 ∧ s.length = sl.length ∧ wc.cell? ⟨b5, l.length - 1, none⟩ = some (.string ⟨s.toArray⟩)) := by
        rcases List.eq_nil_or_concat l with rfl | ⟨i, s, rfl⟩
        · exact .inl rfl
        right
        simp only [List.concat_eq_append] at *
        have hl : (i ++ [s]).length = i.length + 1 := by simp
        have hs := HLS.out i s rfl
        have hst := own_sts hown (by unfold maxLen; simp; omega)
        obtain ⟨b5, o5, ha5, _, e0⟩ := hst.at i.length (by omega)
        rw [List.getElem_concat_length rfl] at e0
        have ho5 : o5 = 0 := by
          rcases hown.2 with ⟨h', _⟩ | ⟨g', cap', cur, h', _⟩
          · simp at h'
          · injection h' with h1 h2 h3; rw [h1] at ha5; cases ha5; rfl
        subst ho5
        rw [Nat.zero_add] at e0
        refine ⟨by omega, ?_, b5, s, ha5, hst.len.2.2, by rw [hs], by rw [hl]; exact e0⟩
        intro hle
        exact hroom ⟨by simp, by omega⟩
      have HPD := hide (show putD ⟨l, sy⟩ X = if l.length = 8 then .error 2 else .ok ⟨l ++ [X], 0⟩ by
        unfold putD
        simp only
        have HH := HLS.out
        rw [if_neg]
        rintro ⟨h1, h2⟩
        rcases List.eq_nil_or_concat l with rfl | ⟨i, s, rfl⟩
        · exact h1 rfl
        · rw [List.concat_eq_append] at h2 h1 HH hroom
          rw [lastS_app] at h2
          exact hroom ⟨h1, by rw [HH i s rfl]; exact h2⟩)
      -- what is appended behind
      have HTL := hide (show l.length ≠ 8 → ∀ (a6 : Option Addr) (c6 : Nat) (w5 : World), w5.ownsRow W.heap.size 9 1 (.slice a6 (l.length + 1) c6) (l.length + 1) (stCells l ++ [.string ⟨X.toArray⟩]) → (wc.alloc (.cells #[.string ⟨X.toArray⟩] 9)).grownBy w5 (Value.slice a5 l.length c5).ownBlock →
          (w5.heap[gx]? = some (.cells #[.slice a5 l.length c5, .int .i64 sy] 38 (0, 0))) ∧ (w5.heap[g1]? = some (.cells #[.slice none 0 0, .int .i64 0] 38 (0, 0))) ∧ (((w5.setCell ⟨gx, 0, none⟩ (.slice a6 (l.length + 1) c6)).setCell ⟨gx, 1, none⟩ (.int .i64 0)).heap[g1]? = some (.cells #[.slice none 0 0, .int .i64 0] 38 (0, 0))) ∧ Same w ((w5.setCell ⟨gx, 0, none⟩ (.slice a6 (l.length + 1) c6)).setCell ⟨gx, 1, none⟩ (.int .i64 0)) ∧ StSl (fun _ => True) ((w5.setCell ⟨gx, 0, none⟩ (.slice a6 (l.length + 1) c6)).setCell ⟨gx, 1, none⟩ (.int .i64 0)) (.slice a6 (l ++ [X]).length c6) (l ++ [X]) from by
        intro h8 a6 c6 w5 hown5 hgr5
        have hup := fun k (e : Row (Value.slice a5 l.length c5) k) => own_up hown k e
        have hbx5 := blk_kept (blk_kept hbx ((Kept.refl (fun _ => False) wc).alloc (.cells #[.string ⟨X.toArray⟩] 9)) (fun f => f)) (grown_kept hgr5) (fun e => row_box hown hbx e.symm)
        have hR5 := blk_kept (blk_kept hR ((Kept.refl (fun _ => False) wc).alloc (.cells #[.string ⟨X.toArray⟩] 9)) (fun f => f)) (grown_kept hgr5) (fun e => by have := (hup _ e.symm).1; omega)
        have hKs : Kept (· = gx) w5 ((w5.setCell ⟨gx, 0, none⟩ (.slice a6 (l.length + 1) c6)).setCell ⟨gx, 1, none⟩ (.int .i64 0)) := ((Kept.refl _ w5).setB 0 _).setB 1 _
        have hK5 : Same W w5 := Kept.grown (HKc.out.alloc _) hgr5 (fun k hk hlt => by have := (hup k hk).1; omega)
        have hown6 : OwnS W.heap.size w5 (.slice a6 (l.length + 1) c6) (l ++ [X]) := by
          have hsc : stCells (l ++ [X]) = stCells l ++ [.string ⟨X.toArray⟩] := by simp [stCells]
          show World.ownsRow _ _ _ _ _ (l ++ [X]).length (stCells (l ++ [X]))
          rw [hsc, List.length_append]; exact hown5
        have h4 := own_sts (l := l ++ [X]) (v := .slice a6 (l.length + 1) c6) hown6 (by unfold maxLen; simp; omega)
        refine ⟨hbx5, hR5, blk_kept hR5 hKs hgne, (trs HKW.out hK5 |>.setCell (fun h => absurd h (by show ¬ gx < w.heap.size; omega)) _).setCell (fun h => absurd h (by show ¬ gx < w.heap.size; omega)) _, ?_⟩
        have h6 := (h4.mono (Q := fun _ => True) (fun _ _ _ => trivial)).box hbx5 hKs
        rw [List.length_append]
        exact h6)
      have HRB := hide (ret_box (d := disk0) (w := w) hR (trs HKW.out HKc.out) (by omega) (StSl.nil _ _))
      have hownA := hown.alloc (.cells #[.string ⟨X.toArray⟩] 9)
      have HU := hide (own_up hown)
      clear hown HLS hroom hR
      by_cases h8 : l.length = 8
      · have HE := hide (show appendD ⟨l, sy⟩ b = .error 2 by rw [HP.out, HPD.out, if_pos h8])
        obtain ⟨q0, q1, _, q3⟩ := HRB.out
        simp only [disk0, List.length_nil] at q0 q1 q3
        have HQ3 := hide q3
        have h88 : (l.length : Int) = 8 := by omega
        clear q3 HTL hownA
        rcases hl0 with hl0 | ⟨hl0, hs4, b5, s, rfl, hcap, hsl, e0⟩
        · omega
        · rw [h8] at x0 e0 hcap
          have hzs := bsize s
          have hXX : (⟨s.toArray⟩ : ByteArray) ++ ⟨X.toArray⟩ = ⟨(s ++ X).toArray⟩ := by
            apply ByteArray.ext
            simp
          have hsz : (⟨(s ++ X).toArray⟩ : ByteArray).size = s.length + X.length := by rw [bsize, List.length_append]
          have hgt4 : ¬ (s.length : Int) + X.length ≤ 400 := by omega
          have hs40 : s.length ≤ 400 := by omega
          go_wp2_with fail
          exact bodyPost_ret (v := .tuple #[diV (.slice none 0 0) 0, .int .i64 2]) (by simp [results, Try.results23, go_sem, q0, q1]) rfl (by rw [HE.out]; exact ⟨none, 0, rfl, StSl.nil _ _, HQ3.out⟩)
      · have HE := hide (show appendD ⟨l, sy⟩ b = .ok ⟨l ++ [X], 0⟩ by rw [HP.out, HPD.out, if_neg h8])
        have h88 : ((l.length : Int) == 8) = false := by rw [beq_eq_false_iff_ne]; omega
        have HTL' := hide (HTL.out h8)
        have HWA := hide (show W.heap.size ≤ (wc.alloc (.cells #[.string ⟨X.toArray⟩] 9)).heap.size by have := HKc.out.size; simp; omega)
        have HNA := hide (heap_alloc_new wc (.cells #[.string ⟨X.toArray⟩] 9))
        clear HTL h8 HPD HRB
        rcases hl0 with hl0 | ⟨hl0, hs4, b5, s, rfl, hcap, hsl, e0⟩
        · have hl0i : (l.length : Int) = 0 := by omega
          have hn0 : ¬ (0 : Int) < (l.length : Int) := by omega
          clear hl0 hl0i
          go_wp2_with (at_builtin; refine wpList_append_own_at _ rfl _ _ 36 rfl W.heap.size 9 is _ 1 16 Try.underlying36 his hsz0 hsz1 hsz2 rfl (by decide) _ _ _ rfl hownA ⟨wc.heap.size, 0, none⟩ 1 1 [.string ⟨X.toArray⟩] rfl rfl (new_one HNA.out) (by intro u hu; simp at hu; subst hu; rfl) ?a3 ?a4 HWA.out ?_)
          case a3 => unfold maxLen; omega
          case a4 => omega
          intro v5 w5 hown5 hgr5 _ _
          obtain ⟨a6, c6, hv5⟩ := own_slice hown5
          subst hv5
          obtain ⟨e1, e2, e3, e4, e5⟩ := HTL'.out a6 c6 w5 hown5 hgr5
          have f2 := fro2 e1
          have p2' := fro2 e2
          obtain ⟨p0', p1'⟩ := blk2 e2
          obtain ⟨f0, f1⟩ := blk2 e1
          obtain ⟨r0, r1, r2, r3⟩ := ret_box (d := ⟨l ++ [X], 0⟩) e3 e4 (by omega) e5
          simp only [List.length_append, List.length_cons, List.length_nil, Nat.zero_add] at r0 r1 r2 r3
          have HR23 := hide (And.intro r2 r3)
          clear r2 r3 e1 e2 e3 e4 e5 hown5 hgr5 p0 p1 p2 x0 x1
          go_wp2_with fail
          exact bodyPost_ret (v := .tuple #[diV (.slice a6 (l.length + 1) c6) 0, .int .i64 0]) (by simp [results, Try.results23, go_sem, r0, r1]) rfl (by rw [HE.out]; exact ⟨a6, c6, by simp [ansD], by simpa [ansD] using HR23.out.1, HR23.out.2⟩)
        · have hn0 : (0 : Int) < (l.length : Int) := by omega
          have hzs := bsize s
          obtain ⟨m, hm⟩ : ∃ m, l.length = m + 1 := ⟨l.length - 1, by omega⟩
          have hb0 : (0 : Int) ≤ (m : Int) := by omega
          have hb1 : (m : Int) < l.length := by omega
          have hmi : (l.length : Int) - 1 = (m : Int) := by omega
          rw [show l.length - 1 = m by omega] at e0
          clear hm
          have hXX : (⟨s.toArray⟩ : ByteArray) ++ ⟨X.toArray⟩ = ⟨(s ++ X).toArray⟩ := by
            apply ByteArray.ext
            simp
          have hsz : (⟨(s ++ X).toArray⟩ : ByteArray).size = s.length + X.length := by rw [bsize, List.length_append]
          have hgt4 : ¬ (s.length : Int) + X.length ≤ 400 := by omega
          have hs40 : s.length ≤ 400 := by omega
          go_wp2_with (at_builtin; refine wpList_append_own_at _ rfl _ _ 36 rfl W.heap.size 9 is _ 1 16 Try.underlying36 his hsz0 hsz1 hsz2 rfl (by decide) _ _ _ rfl hownA ⟨wc.heap.size, 0, none⟩ 1 1 [.string ⟨X.toArray⟩] rfl rfl (new_one HNA.out) (by intro u hu; simp at hu; subst hu; rfl) ?a3 ?a4 HWA.out ?_)
          case a3 => unfold maxLen; omega
          case a4 => omega
          intro v5 w5 hown5 hgr5 _ _
          obtain ⟨a6, c6, hv5⟩ := own_slice hown5
          subst hv5
          obtain ⟨e1, e2, e3, e4, e5⟩ := HTL'.out a6 c6 w5 hown5 hgr5
          have f2 := fro2 e1
          have p2' := fro2 e2
          obtain ⟨p0', p1'⟩ := blk2 e2
          obtain ⟨f0, f1⟩ := blk2 e1
          obtain ⟨r0, r1, r2, r3⟩ := ret_box (d := ⟨l ++ [X], 0⟩) e3 e4 (by omega) e5
          simp only [List.length_append, List.length_cons, List.length_nil, Nat.zero_add] at r0 r1 r2 r3
          have HR23 := hide (And.intro r2 r3)
          clear r2 r3 e1 e2 e3 e4 e5 hown5 hgr5 p0 p1 p2 x0 x1
          go_wp2_with fail
          exact bodyPost_ret (v := .tuple #[diV (.slice a6 (l.length + 1) c6) 0, .int .i64 0]) (by simp [results, Try.results23, go_sem, r0, r1]) rfl (by rw [HE.out]; exact ⟨a6, c6, by simp [ansD], by simpa [ansD] using HR23.out.1, HR23.out.2⟩)

end Go.Proofs.Ytillhpepfpldcaa
