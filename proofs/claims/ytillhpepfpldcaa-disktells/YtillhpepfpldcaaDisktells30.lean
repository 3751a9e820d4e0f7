/- The reference: CrashOf. (Written by tool/genrs6.py.) -/
import Derived.Test.YtillhpepfpldcaaDisktells29
namespace Go.Proofs.Ytillhpepfpldcaa
open Go.RowKit

set_option maxRecDepth 20000 in
set_option maxHeartbeats 12800000 in
theorem rCrashOf_any (P : Nat → Prop) (w : World) (v : Value) (d : DiskT) (keep : Int) (h : StSl P w v d.segs) (hc : checkD d = 0) (hk0 : 0 ≤ keep) :
    Calls Try.prog 24 #[diV v d.synced, .int .i64 keep] w fun r w' => ∃ sv, r = .returned (diV sv (cutD d keep).synced) ∧ StSl (fun _ => True) w' sv (cutD d keep).segs ∧ Same w w' := by
  have trs : ∀ {a b c : World}, Same a b → Same b c → Same a c := fun h k => h.trans k (fun _ _ f => f)
  obtain ⟨hl8, hx4⟩ := check_le hc
  have HRD := hide (right_of hc)
  obtain ⟨l, sy⟩ := d
  simp only at h hl8 hx4 ⊢
  obtain ⟨ao, cap, rfl⟩ := h.form
  obtain ⟨is, his, hsz0, hsz1, hsz2⟩ := info_parts info_str
  obtain ⟨W, hW⟩ : ∃ W, W = (w.alloc (.cells #[.slice ao l.length cap, .int .i64 sy] 38)).alloc (.cells #[.slice none 0 0, .int .i64 0] 38) := ⟨_, rfl⟩
  obtain ⟨g, hg⟩ : ∃ g, g = w.heap.size := ⟨_, rfl⟩
  obtain ⟨g1, hg1⟩ : ∃ g1, g1 = w.heap.size + 1 := ⟨_, rfl⟩
  have HGD := hide (show W.heap[g]? = some (.cells #[.slice ao l.length cap, .int .i64 sy] 38 (0, 0)) by rw [hW, hg]; exact al_old w _ _)
  have HGR := hide (show W.heap[g1]? = some (.cells #[.slice none 0 0, .int .i64 0] 38 (0, 0)) by rw [hW, hg1]; exact al_new w _ _)
  have HKW := hide (show Same w W by rw [hW]; exact ((Kept.refl _ w).alloc _).alloc _)
  have hWs : g < g1 ∧ g1 < W.heap.size ∧ w.heap.size ≤ g := by rw [hW, hg, hg1]; simp
  obtain ⟨hg01, hg1W, hwg⟩ := hWs
  have HSW := hide (h.same HKW.out)
  have HNN := hide (And.intro h.none (sl_news HSW.out))
  obtain ⟨c0, c1⟩ := blk2 HGD.out
  have HC := hide (show ∀ wy, Same W wy → wy.cell? ⟨g, 0, none⟩ = some (.slice ao l.length cap) ∧ wy.cell? ⟨g, 1, none⟩ = some (.int .i64 sy) from fun wy hy => ⟨hy.cell c0 (fun f => f), hy.cell c1 (fun f => f)⟩)
  clear hc h c0 c1
  go_enter Try.func24, Try.ntmps24
  go_wp2_with fail
  rw [← hW, ← hg1, ← hg]
  clear hW hg hg1
  go_cut [5] (fun xv wx => ∃ gx : Nat, xv = .pointer (some ⟨gx, 0, none⟩) ∧ Hid (XB W.heap.size wx gx ⟨l, sy⟩) ∧ Hid (Same W wx))
  case first =>
    refine wp_region_noPanic ?_
    refine wp_till 8 (fun w' => w'.cell? ⟨g, 0, none⟩ = some (.slice ao l.length cap) ∧ w'.cell? ⟨g, 1, none⟩ = some (.int .i64 sy)) (by kernel_rfl) ?_ (fun hC0 => ?_)
    · exact HC.out _ (by (repeat' (first | assumption | exact Kept.refl _ _ | refine Kept.drew ?_ | refine Kept.drewN ?_ _ | refine Kept.alloc ?_ _)))
    refine till_any (i := 1) (v := ?v1) rfl (by kernel_rfl) (by kernel_rfl) (by kernel_rfl) (by kernel_rfl) (fun _ _ _ h => h) (Or.inl ⟨by rfl, ?hy1⟩) (fun _ => hC0) ?rest1
    case hy1 => (intro w hSw; (try dsimp only at hSw); go_simp <;> (with_reducible rfl))
    try simp only [Act.put, List.setIfInBounds_toArray]
    refine till_take (i := 2) (v := ?v2) rfl (by kernel_rfl) (by kernel_rfl) (by kernel_rfl) (by kernel_rfl) (fun _ _ _ h => h) (Or.inl ⟨by rfl, ?hy2⟩) hC0 ?rest2
    case hy2 => (intro w hSw; (try dsimp only at hSw); go_simp <;> (with_reducible rfl))
    try simp only [Act.put]
    refine till_any (i := 4) (v := ?v3) rfl (by kernel_rfl) (by kernel_rfl) (by kernel_rfl) (by kernel_rfl) (fun _ _ _ h => h) (Or.inl ⟨by rfl, ?hy3⟩) (fun _ => hC0) ?rest3
    case hy3 => (intro w hSw; (try dsimp only at hSw); go_simp <;> (with_reducible rfl))
    try simp only [Act.put]
    refine till_take (i := 5) (v := ?v4) rfl (by kernel_rfl) (by kernel_rfl) (by kernel_rfl) (by kernel_rfl) (fun _ _ _ h => h) (Or.inl ⟨by rfl, ?hy4⟩) hC0 ?rest4
    case hy4 => (intro w hSw; (try dsimp only at hSw); go_simp <;> (with_reducible rfl))
    try simp only [Act.put]
    refine till_ready (rs := [0, 7]) (by kernel_rfl) (by simp) ?_
    refine TillReady.cons rfl (fun K hK => ?_) (TillReady.cons rfl (fun K hK => ?_) TillReady.nil)
    · skip
      go_simp
      refine hK.out _ _ ?_ (fun hC5 => ?_)
      · first | (refine HC.out _ ?_; (repeat' (first | assumption | exact Kept.refl _ _ | refine Kept.drew ?_ | refine Kept.drewN ?_ _ | refine Kept.alloc ?_ _)); done) | exact HC.out _ HR5.out.1 | exact HC.out _ (HR5.out.1.alloc _)
      clear hK K hC0
      try simp only [Act.put, List.setIfInBounds_toArray, List.set_cons_zero, List.set_cons_succ]
      refine till_ready (rs := [3, 7]) (by kernel_rfl) (by simp) ?_
      refine TillReady.cons rfl (fun K hK => ?_) (TillReady.cons rfl (fun K hK => ?_) TillReady.nil)
      · skip
        refine step_append_w (by rfl) (.tmp 7) (.tmp 9) 36 rfl W.heap.size 9 is _ 1 16 Try.underlying36 his hsz0 hsz1 hsz2 rfl (by decide) _ 0 [] (by rfl) (by first | exact own_str0 _ (Nat.le_refl _) | exact (own_str0 _ (Nat.le_refl _)).alloc _ | exact own_str1 _ _ (Nat.le_refl _)) ao l.length cap (stCells l) (by rfl) HNN.out.1 (by rw [stCells_len, Nat.mul_one]) (fun ad had j u hj => (show Same W _ from (by (repeat' (first | assumption | exact Kept.refl _ _ | refine Kept.drew ?_ | refine Kept.drewN ?_ _ | refine Kept.alloc ?_ _)))).cell (HNN.out.2 ad had j u hj) (fun f => f)) (stCells_one l) (by unfold maxLen; omega) (by omega) (by simp; try omega) ?_
        intro v5 w5 hown5 hgr5
        rw [Nat.zero_add, List.nil_append] at hown5
        obtain ⟨a5, c5, hv5⟩ := own_slice hown5
        subst hv5
        have HR5 := hide (show Same W w5 ∧ w5.ownsRow W.heap.size 9 1 (.slice a5 l.length c5) l.length (stCells l) from ⟨Kept.grown (by (repeat' (first | assumption | exact Kept.refl _ _ | refine Kept.drew ?_ | refine Kept.drewN ?_ _ | refine Kept.alloc ?_ _))) hgr5 (fun k hk hlt => by cases hk; first | exact absurd hlt (Nat.lt_irrefl _) | (simp at hlt; done) | (simp at hlt; omega)), hown5⟩)
        first
          | (have hbx := grown_old hgr5 rfl; obtain ⟨y0, y1⟩ := blk2 hbx; have y2 := fro2 hbx)
          | (have hbx := grown_new hgr5 rfl; obtain ⟨y0, y1⟩ := blk2 hbx; have y2 := fro2 hbx)
          | skip
        clear hown5 hgr5
        refine hK.out _ _ ?_ (fun hC6 => ?_)
        · first | (refine HC.out _ ?_; (repeat' (first | assumption | exact Kept.refl _ _ | refine Kept.drew ?_ | refine Kept.drewN ?_ _ | refine Kept.alloc ?_ _)); done) | exact HC.out _ HR5.out.1 | exact HC.out _ (HR5.out.1.alloc _)
        clear hK K hC5
        try simp only [Act.put, List.setIfInBounds_toArray]
        refine till_any (i := 6) (v := ?v7) rfl (by kernel_rfl) (by kernel_rfl) (by kernel_rfl) (by kernel_rfl) (fun _ _ _ h => h) (Or.inl ⟨by rfl, ?hy7⟩) (fun _ => hC6) ?rest7
        case hy7 => (intro w hSw; (try dsimp only at hSw); go_simp <;> (with_reducible rfl))
        try simp only [Act.put]
        refine till_ready (rs := [7]) (by kernel_rfl) (by simp) ?_
        refine TillReady.cons rfl (fun K hK => ?_) TillReady.nil
        go_simp
        refine hK.out _ _ ?_ (fun hC8 => ?_)
        · first | (refine HC.out _ ?_; (repeat' (first | assumption | exact Kept.refl _ _ | refine Kept.drew ?_ | refine Kept.drewN ?_ _ | refine Kept.alloc ?_ _)); done) | exact HC.out _ HR5.out.1 | exact HC.out _ (HR5.out.1.alloc _)
        clear hK K hC6
        try simp only [Act.put, List.setIfInBounds_toArray, List.set_cons_zero, List.set_cons_succ]
        refine till_ready (rs := [8]) (by kernel_rfl) (by simp) ?_
        refine TillReady.free rfl (by kernel_rfl) (fun K hK => ?_) TillReady.nil
        go_simp
        refine hK.out _ _ ?_
        clear hK K
        try simp only [Act.put, List.setIfInBounds_toArray, List.set_cons_zero, List.set_cons_succ]
        refine till_done (by kernel_rfl) ?_ _
        refine NoPanic.normal ?_
        go_wp2_with fail
        go_meet
        case rel => first
          | exact ⟨_, rfl, XB.new (d := ⟨l, sy⟩) HR5.out.2 HR5.out.1.size, HR5.out.1.alloc _⟩
          | exact ⟨_, rfl, XB.put (d := ⟨l, sy⟩) HR5.out.2 (Nat.le_refl _) hbx, same_put HR5.out.1 (Nat.le_refl _) _ _⟩
          | exact ⟨_, rfl, XB.put (d := ⟨l, sy⟩) HR5.out.2 (Nat.le_succ _) hbx, same_put HR5.out.1 (Nat.le_succ _) _ _⟩
      · skip
        go_simp
        refine hK.out _ _ ?_ (fun hC10 => ?_)
        · first | (refine HC.out _ ?_; (repeat' (first | assumption | exact Kept.refl _ _ | refine Kept.drew ?_ | refine Kept.drewN ?_ _ | refine Kept.alloc ?_ _)); done) | exact HC.out _ HR5.out.1 | exact HC.out _ (HR5.out.1.alloc _)
        clear hK K hC5
        try simp only [Act.put, List.setIfInBounds_toArray, List.set_cons_zero, List.set_cons_succ]
        refine till_ready (rs := [3]) (by kernel_rfl) (by simp) ?_
        refine TillReady.cons rfl (fun K hK => ?_) TillReady.nil
        refine step_append_w (by rfl) (.tmp 7) (.tmp 9) 36 rfl W.heap.size 9 is _ 1 16 Try.underlying36 his hsz0 hsz1 hsz2 rfl (by decide) _ 0 [] (by rfl) (by first | exact own_str0 _ (Nat.le_refl _) | exact (own_str0 _ (Nat.le_refl _)).alloc _ | exact own_str1 _ _ (Nat.le_refl _)) ao l.length cap (stCells l) (by rfl) HNN.out.1 (by rw [stCells_len, Nat.mul_one]) (fun ad had j u hj => (show Same W _ from (by (repeat' (first | assumption | exact Kept.refl _ _ | refine Kept.drew ?_ | refine Kept.drewN ?_ _ | refine Kept.alloc ?_ _)))).cell (HNN.out.2 ad had j u hj) (fun f => f)) (stCells_one l) (by unfold maxLen; omega) (by omega) (by simp; try omega) ?_
        intro v5 w5 hown5 hgr5
        rw [Nat.zero_add, List.nil_append] at hown5
        obtain ⟨a5, c5, hv5⟩ := own_slice hown5
        subst hv5
        have HR5 := hide (show Same W w5 ∧ w5.ownsRow W.heap.size 9 1 (.slice a5 l.length c5) l.length (stCells l) from ⟨Kept.grown (by (repeat' (first | assumption | exact Kept.refl _ _ | refine Kept.drew ?_ | refine Kept.drewN ?_ _ | refine Kept.alloc ?_ _))) hgr5 (fun k hk hlt => by cases hk; first | exact absurd hlt (Nat.lt_irrefl _) | (simp at hlt; done) | (simp at hlt; omega)), hown5⟩)
        first
          | (have hbx := grown_old hgr5 rfl; obtain ⟨y0, y1⟩ := blk2 hbx; have y2 := fro2 hbx)
          | (have hbx := grown_new hgr5 rfl; obtain ⟨y0, y1⟩ := blk2 hbx; have y2 := fro2 hbx)
          | skip
        clear hown5 hgr5
        refine hK.out _ _ ?_ (fun hC11 => ?_)
        · first | (refine HC.out _ ?_; (repeat' (first | assumption | exact Kept.refl _ _ | refine Kept.drew ?_ | refine Kept.drewN ?_ _ | refine Kept.alloc ?_ _)); done) | exact HC.out _ HR5.out.1 | exact HC.out _ (HR5.out.1.alloc _)
        clear hK K hC10
        try simp only [Act.put, List.setIfInBounds_toArray]
        refine till_any (i := 6) (v := ?v12) rfl (by kernel_rfl) (by kernel_rfl) (by kernel_rfl) (by kernel_rfl) (fun _ _ _ h => h) (Or.inl ⟨by rfl, ?hy12⟩) (fun _ => hC11) ?rest12
        case hy12 => (intro w hSw; (try dsimp only at hSw); go_simp <;> (with_reducible rfl))
        try simp only [Act.put]
        refine till_ready (rs := [8]) (by kernel_rfl) (by simp) ?_
        refine TillReady.free rfl (by kernel_rfl) (fun K hK => ?_) TillReady.nil
        go_simp
        refine hK.out _ _ ?_
        clear hK K
        try simp only [Act.put, List.setIfInBounds_toArray, List.set_cons_zero, List.set_cons_succ]
        refine till_done (by kernel_rfl) ?_ _
        refine NoPanic.normal ?_
        go_wp2_with fail
        go_meet
        case rel => first
          | exact ⟨_, rfl, XB.new (d := ⟨l, sy⟩) HR5.out.2 HR5.out.1.size, HR5.out.1.alloc _⟩
          | exact ⟨_, rfl, XB.put (d := ⟨l, sy⟩) HR5.out.2 (Nat.le_refl _) hbx, same_put HR5.out.1 (Nat.le_refl _) _ _⟩
          | exact ⟨_, rfl, XB.put (d := ⟨l, sy⟩) HR5.out.2 (Nat.le_succ _) hbx, same_put HR5.out.1 (Nat.le_succ _) _ _⟩
    · skip
      go_simp
      refine hK.out _ _ ?_ (fun hC14 => ?_)
      · first | (refine HC.out _ ?_; (repeat' (first | assumption | exact Kept.refl _ _ | refine Kept.drew ?_ | refine Kept.drewN ?_ _ | refine Kept.alloc ?_ _)); done) | exact HC.out _ HR5.out.1 | exact HC.out _ (HR5.out.1.alloc _)
      clear hK K hC0
      try simp only [Act.put, List.setIfInBounds_toArray, List.set_cons_zero, List.set_cons_succ]
      refine till_ready (rs := [0]) (by kernel_rfl) (by simp) ?_
      refine TillReady.cons rfl (fun K hK => ?_) TillReady.nil
      go_simp
      refine hK.out _ _ ?_ (fun hC15 => ?_)
      · first | (refine HC.out _ ?_; (repeat' (first | assumption | exact Kept.refl _ _ | refine Kept.drew ?_ | refine Kept.drewN ?_ _ | refine Kept.alloc ?_ _)); done) | exact HC.out _ HR5.out.1 | exact HC.out _ (HR5.out.1.alloc _)
      clear hK K hC14
      try simp only [Act.put, List.setIfInBounds_toArray, List.set_cons_zero, List.set_cons_succ]
      refine till_ready (rs := [3]) (by kernel_rfl) (by simp) ?_
      refine TillReady.cons rfl (fun K hK => ?_) TillReady.nil
      refine step_append_w (by rfl) (.tmp 7) (.tmp 9) 36 rfl W.heap.size 9 is _ 1 16 Try.underlying36 his hsz0 hsz1 hsz2 rfl (by decide) _ 0 [] (by rfl) (by first | exact own_str0 _ (Nat.le_refl _) | exact (own_str0 _ (Nat.le_refl _)).alloc _ | exact own_str1 _ _ (Nat.le_refl _)) ao l.length cap (stCells l) (by rfl) HNN.out.1 (by rw [stCells_len, Nat.mul_one]) (fun ad had j u hj => (show Same W _ from (by (repeat' (first | assumption | exact Kept.refl _ _ | refine Kept.drew ?_ | refine Kept.drewN ?_ _ | refine Kept.alloc ?_ _)))).cell (HNN.out.2 ad had j u hj) (fun f => f)) (stCells_one l) (by unfold maxLen; omega) (by omega) (by simp; try omega) ?_
      intro v5 w5 hown5 hgr5
      rw [Nat.zero_add, List.nil_append] at hown5
      obtain ⟨a5, c5, hv5⟩ := own_slice hown5
      subst hv5
      have HR5 := hide (show Same W w5 ∧ w5.ownsRow W.heap.size 9 1 (.slice a5 l.length c5) l.length (stCells l) from ⟨Kept.grown (by (repeat' (first | assumption | exact Kept.refl _ _ | refine Kept.drew ?_ | refine Kept.drewN ?_ _ | refine Kept.alloc ?_ _))) hgr5 (fun k hk hlt => by cases hk; first | exact absurd hlt (Nat.lt_irrefl _) | (simp at hlt; done) | (simp at hlt; omega)), hown5⟩)
      first
        | (have hbx := grown_old hgr5 rfl; obtain ⟨y0, y1⟩ := blk2 hbx; have y2 := fro2 hbx)
        | (have hbx := grown_new hgr5 rfl; obtain ⟨y0, y1⟩ := blk2 hbx; have y2 := fro2 hbx)
        | skip
      clear hown5 hgr5
      refine hK.out _ _ ?_ (fun hC16 => ?_)
      · first | (refine HC.out _ ?_; (repeat' (first | assumption | exact Kept.refl _ _ | refine Kept.drew ?_ | refine Kept.drewN ?_ _ | refine Kept.alloc ?_ _)); done) | exact HC.out _ HR5.out.1 | exact HC.out _ (HR5.out.1.alloc _)
      clear hK K hC15
      try simp only [Act.put, List.setIfInBounds_toArray]
      refine till_any (i := 6) (v := ?v17) rfl (by kernel_rfl) (by kernel_rfl) (by kernel_rfl) (by kernel_rfl) (fun _ _ _ h => h) (Or.inl ⟨by rfl, ?hy17⟩) (fun _ => hC16) ?rest17
      case hy17 => (intro w hSw; (try dsimp only at hSw); go_simp <;> (with_reducible rfl))
      try simp only [Act.put]
      refine till_ready (rs := [8]) (by kernel_rfl) (by simp) ?_
      refine TillReady.free rfl (by kernel_rfl) (fun K hK => ?_) TillReady.nil
      go_simp
      refine hK.out _ _ ?_
      clear hK K
      try simp only [Act.put, List.setIfInBounds_toArray, List.set_cons_zero, List.set_cons_succ]
      refine till_done (by kernel_rfl) ?_ _
      refine NoPanic.normal ?_
      go_wp2_with fail
      go_meet
      case rel => first
        | exact ⟨_, rfl, XB.new (d := ⟨l, sy⟩) HR5.out.2 HR5.out.1.size, HR5.out.1.alloc _⟩
        | exact ⟨_, rfl, XB.put (d := ⟨l, sy⟩) HR5.out.2 (Nat.le_refl _) hbx, same_put HR5.out.1 (Nat.le_refl _) _ _⟩
        | exact ⟨_, rfl, XB.put (d := ⟨l, sy⟩) HR5.out.2 (Nat.le_succ _) hbx, same_put HR5.out.1 (Nat.le_succ _) _ _⟩
  case rest =>
    obtain ⟨gx, rfl, HXB, HKc⟩ := hcut
    obtain ⟨hgx, sv, hbx, hown⟩ := HXB.out
    obtain ⟨a5, c5, hsv⟩ := own_slice hown
    simp only at hsv
    subst hsv
    clear HXB
    simp only at hbx hgx
    rcases List.eq_nil_or_concat l with rfl | ⟨i, s, rfl⟩
    · have HD := hide (show cutD ⟨[], sy⟩ keep = ⟨[], sy⟩ from rfl)
      obtain ⟨x0, x1⟩ := blk2 hbx
      have hR := blk_kept HGR.out HKc.out (fun f => f)
      have p2 := fro2 hR
      obtain ⟨p0, p1⟩ := blk2 hR
      have HRB := hide (fun n => ret_box (d := ⟨[], sy⟩) (w := w) (wx := wc.drewN n) hR ((trs HKW.out HKc.out).drewN n) (by omega) (((own_sts hown (by unfold maxLen; simp; try omega)).mono (fun _ _ _ => trivial)).same ((Kept.refl _ wc).drewN n)))
      clear hown hR
      go_wp2_with fail
      go_quiet (fail)
      go_wp2_with fail
      obtain ⟨q0, q1, q2, q3⟩ := HRB.out nq
      simp only [List.length_nil] at q0 q1 q2 q3
      exact bodyPost_ret (v := diV (.slice a5 0 c5) sy) (by simp [results, Try.results24, go_sem, q0, q1]) rfl (by rw [HD.out]; exact ⟨_, rfl, by simpa using q2, q3⟩)
    · simp only [List.concat_eq_append] at *
      have hl : (i ++ [s]).length = i.length + 1 := by simp
      obtain ⟨sn, hsn, hsl⟩ : ∃ sn : Nat, sy = sn ∧ sn ≤ s.length := by
        generalize hdd : (⟨i ++ [s], sy⟩ : DiskT) = dd at HRD
        cases HRD.out with
        | none => simp at hdd
        | some i' s' n k h1 h2 h3 h4 h5 h6 =>
          injection hdd with e1 e2
          obtain ⟨rfl, e3⟩ := List.append_inj' e1 rfl
          cases e3
          exact ⟨n, e2, end_le h6⟩
      subst hsn
      have hs4 : s.length ≤ 400 := hx4 s (by simp)
      have hz := bsize s
      have hst := own_sts hown (by unfold maxLen; simp; omega)
      obtain ⟨b5, o5, ha5, _, e0⟩ := hst.at i.length (by omega)
      rw [List.getElem_concat_length rfl] at e0
      have ho5 : o5 = 0 := by
        rcases hown.2 with ⟨h', _⟩ | ⟨g', cap', cur, h', _⟩
        · simp at h'
        · injection h' with h1 h2 h3; rw [h1] at ha5; cases ha5; rfl
      subst ho5
      rw [Nat.zero_add] at e0
      have hcap : i.length + 1 ≤ c5 := by have := hst.len; omega
      subst ha5
      obtain ⟨x0, x1⟩ := blk2 hbx
      have d01 := HC.out _ HKc.out
      obtain ⟨d0, d1⟩ := d01
      have hil : ((i.length : Int) + 1 - 1) = i.length := by omega
      by_cases hkp : keep < (s.length : Int) - sn
      · obtain ⟨kn, hkn⟩ : ∃ kn : Nat, keep = kn := ⟨keep.toNat, by omega⟩
        subst hkn
        have HD := hide (show cutD ⟨i ++ [s], sn⟩ kn = ⟨i ++ [s.take (sn + kn)], sn⟩ by
          unfold cutD; simp only; rw [lastS_app, setLastS_app, show ((sn : Int) + min (kn : Int) ((s.length : Int) - sn)).toNat = sn + kn by omega])
        have hR := blk_kept HGR.out HKc.out (fun f => f)
        have p2 := fro2 hR
        obtain ⟨p0, p1⟩ := blk2 hR
        have hb0 : (0 : Int) ≤ i.length := by omega
        have hb1 : (i.length : Int) < (i.length : Int) + 1 := by omega
        obtain ⟨mm, hmm⟩ : ∃ mm : Nat, mm = sn + kn := ⟨_, rfl⟩
        have hwr : IntKind.i64.wrap ((sn : Int) + (kn : Int)) = (mm : Int) := by rw [IntKind.wrap_i64]; omega
        have hb2 : (0 : Int) ≤ (mm : Int) := by omega
        have hb3 : (mm : Int) ≤ s.length := by omega
        have hb4 : mm ≤ s.length := by omega
        rw [← hmm] at HD
        clear hmm
        rw [hl] at x0 hst
        have hfr := World.ownsRow.frozenAt hown i.length
        have hX : (⟨s.toArray⟩ : ByteArray).extract 0 mm = ⟨(s.take mm).toArray⟩ := by
          apply ByteArray.ext
          simp
        have HOW := hide (fun wz (hz : Same wc wz) => (show ((wz.setCell ⟨b5, i.length, none⟩ (.string ⟨(s.take mm).toArray⟩)).heap[g1]? = some (.cells #[.slice none 0 0, .int .i64 0] 38 (0, 0))) ∧ StSl (fun _ => True) (wz.setCell ⟨b5, i.length, none⟩ (.string ⟨(s.take mm).toArray⟩)) (.slice (some ⟨b5, 0, none⟩) (i.length + 1) c5) (i ++ [s.take mm]) ∧ Same w (wz.setCell ⟨b5, i.length, none⟩ (.string ⟨(s.take mm).toArray⟩)) ∧ (wz.setCell ⟨b5, i.length, none⟩ (.string ⟨(s.take mm).toArray⟩)).cell? ⟨gx, 0, none⟩ = some (.slice (some ⟨b5, 0, none⟩) (i.length + 1) c5) ∧ (wz.setCell ⟨b5, i.length, none⟩ (.string ⟨(s.take mm).toArray⟩)).cell? ⟨gx, 1, none⟩ = some (.int .i64 sn) from by
          have hown' := own_kept hown hz (fun _ _ f => f)
          have hb5 : W.heap.size ≤ b5 := own_row hown b5 rfl
          have hrb : b5 ≠ gx := by rintro rfl; exact row_box hown hbx rfl
          have hst5 : Kept (· = b5) wz (wz.setCell ⟨b5, i.length, none⟩ (.string ⟨(s.take mm).toArray⟩)) := (Kept.refl _ wz).setB _ _
          have h2 := own_set hown' i.length (s.take mm)
          have h3 : (i ++ [s]).set i.length (s.take mm) = i ++ [s.take mm] := by simp
          rw [h3] at h2
          have h4 := (own_sts (l := i ++ [s.take mm]) (v := .slice (some ⟨b5, 0, none⟩) (i.length + 1) c5) (by have := h2; simp only [List.length_append, List.length_cons, List.length_nil, Nat.zero_add] at this ⊢; exact this) (by unfold maxLen; simp; omega))
          obtain ⟨y0, y1⟩ := blk2 (blk_kept (blk_kept hbx hz (fun f => f)) hst5 (fun e => hrb e.symm))
          refine ⟨blk_kept (blk_kept hR hz (fun f => f)) hst5 (by show ¬ g1 = b5; omega), h4.mono (fun _ _ _ => trivial), ((trs HKW.out (trs HKc.out hz))).setCell (fun h => absurd h (by show ¬ b5 < w.heap.size; omega)) _, ?_, y1⟩
          rw [y0, hl]))
        have HCC := hide (fun wy (hy : Same wc wy) => (⟨hy.cell x0 (fun f => f), hy.cell d1 (fun f => f), hy.cell e0 (fun f => f)⟩ : wy.cell? ⟨gx, 0, none⟩ = some (.slice (some ⟨b5, 0, none⟩) (i.length + 1) c5) ∧ wy.cell? ⟨g, 1, none⟩ = some (.int .i64 sn) ∧ wy.cell? ⟨b5, i.length, none⟩ = some (.string ⟨s.toArray⟩)))
        clear hst hR hown
        go_wp2_with fail
        go_quiet (fail)
        go_wp2_with fail
        refine wp_region_noPanic ?_
        refine wp_till 14 (fun w' => w'.cell? ⟨gx, 0, none⟩ = some (.slice (some ⟨b5, 0, none⟩) (i.length + 1) c5) ∧ w'.cell? ⟨g, 1, none⟩ = some (.int .i64 sn) ∧ w'.cell? ⟨b5, i.length, none⟩ = some (.string ⟨s.toArray⟩)) (by kernel_rfl) ?_ (fun hD0 => ?_)
        · exact HCC.out _ (by (repeat' (first | assumption | exact Kept.refl _ _ | refine Kept.drew ?_ | refine Kept.drewN ?_ _ | refine Kept.alloc ?_ _)))
        refine till_any (i := 0) (v := ?zv1) rfl (by kernel_rfl) (by kernel_rfl) (by kernel_rfl) (by kernel_rfl) (fun _ _ _ h => h) (Or.inl ⟨by rfl, ?zhy1⟩) (fun _ => hD0) ?zrest1
        case zhy1 => (intro w hSw; (try dsimp only at hSw); go_simp <;> (with_reducible rfl))
        try simp only [Act.put, List.setIfInBounds_toArray]
        refine till_take (i := 1) (v := ?zv2) rfl (by kernel_rfl) (by kernel_rfl) (by kernel_rfl) (by kernel_rfl) (fun _ _ _ h => h) (Or.inl ⟨by rfl, ?zhy2⟩) hD0 ?zrest2
        case zhy2 => (intro w hSw; (try dsimp only at hSw); go_simp <;> (with_reducible rfl))
        try simp only [Act.put]
        refine till_any (i := 2) (v := ?zv3) rfl (by kernel_rfl) (by kernel_rfl) (by kernel_rfl) (by kernel_rfl) (fun _ _ _ h => h) (Or.inl ⟨by rfl, ?zhy3⟩) (fun _ => hD0) ?zrest3
        case zhy3 => (intro w hSw; (try dsimp only at hSw); go_simp <;> (with_reducible rfl))
        try simp only [Act.put]
        refine till_any (i := 3) (v := ?zv4) rfl (by kernel_rfl) (by kernel_rfl) (by kernel_rfl) (by kernel_rfl) (fun _ _ _ h => h) (Or.inl ⟨by rfl, ?zhy4⟩) (fun _ => hD0) ?zrest4
        case zhy4 => (intro w hSw; (try dsimp only at hSw); go_simp <;> (with_reducible rfl))
        try simp only [Act.put]
        refine till_take (i := 4) (v := ?zv5) rfl (by kernel_rfl) (by kernel_rfl) (by kernel_rfl) (by kernel_rfl) (fun _ _ _ h => h) (Or.inl ⟨by rfl, ?zhy5⟩) hD0 ?zrest5
        case zhy5 => (intro w hSw; (try dsimp only at hSw); go_simp <;> (with_reducible rfl))
        try simp only [Act.put]
        refine till_any (i := 5) (v := ?zv6) rfl (by kernel_rfl) (by kernel_rfl) (by kernel_rfl) (by kernel_rfl) (fun _ _ _ h => h) (Or.inl ⟨by rfl, ?zhy6⟩) (fun _ => hD0) ?zrest6
        case zhy6 => (intro w hSw; (try dsimp only at hSw); go_simp <;> (with_reducible rfl))
        try simp only [Act.put]
        refine till_any (i := 6) (v := ?zv7) rfl (by kernel_rfl) (by kernel_rfl) (by kernel_rfl) (by kernel_rfl) (fun _ _ _ h => h) (Or.inl ⟨by rfl, ?zhy7⟩) (fun _ => hD0) ?zrest7
        case zhy7 => (intro w hSw; (try dsimp only at hSw); go_simp <;> (with_reducible rfl))
        try simp only [Act.put]
        refine till_take (i := 7) (v := ?zv8) rfl (by kernel_rfl) (by kernel_rfl) (by kernel_rfl) (by kernel_rfl) (fun _ _ _ h => h) (Or.inl ⟨by rfl, ?zhy8⟩) hD0 ?zrest8
        case zhy8 => (intro w hSw; (try dsimp only at hSw); go_simp <;> (with_reducible rfl))
        try simp only [Act.put]
        refine till_any (i := 8) (v := ?zv9) rfl (by kernel_rfl) (by kernel_rfl) (by kernel_rfl) (by kernel_rfl) (fun _ _ _ h => h) (Or.inl ⟨by rfl, ?zhy9⟩) (fun _ => hD0) ?zrest9
        case zhy9 => (intro w hSw; (try dsimp only at hSw); go_simp <;> (with_reducible rfl))
        try simp only [Act.put]
        refine till_take (i := 9) (v := ?zv10) rfl (by kernel_rfl) (by kernel_rfl) (by kernel_rfl) (by kernel_rfl) (fun _ _ _ h => h) (Or.inl ⟨by rfl, ?zhy10⟩) hD0 ?zrest10
        case zhy10 => (intro w hSw; (try dsimp only at hSw); go_simp <;> (with_reducible rfl))
        try simp only [Act.put]
        refine till_any (i := 10) (v := ?zv11) rfl (by kernel_rfl) (by kernel_rfl) (by kernel_rfl) (by kernel_rfl) (fun _ _ _ h => h) (Or.inl ⟨by rfl, ?zhy11⟩) (fun _ => hD0) ?zrest11
        case zhy11 => (intro w hSw; (try dsimp only at hSw); go_simp <;> (with_reducible rfl))
        try simp only [Act.put]
        refine till_any (i := 11) (v := ?zv12) rfl (by kernel_rfl) (by kernel_rfl) (by kernel_rfl) (by kernel_rfl) (fun _ _ _ h => h) (Or.inl ⟨by rfl, ?zhy12⟩) (fun _ => hD0) ?zrest12
        case zhy12 => (intro w hSw; (try dsimp only at hSw); go_simp <;> (with_reducible rfl))
        try simp only [Act.put]
        refine till_any (i := 12) (v := ?zv13) rfl (by kernel_rfl) (by kernel_rfl) (by kernel_rfl) (by kernel_rfl) (fun _ _ _ h => h) (Or.inl ⟨by rfl, ?zhy13⟩) (fun _ => hD0) ?zrest13
        case zhy13 => (intro w hSw; (try dsimp only at hSw); go_simp <;> (with_reducible rfl))
        try simp only [Act.put]
        refine till_any (i := 13) (v := ?zv14) rfl (by kernel_rfl) (by kernel_rfl) (by kernel_rfl) (by kernel_rfl) (fun _ _ _ h => h) (Or.inl ⟨by rfl, ?zhy14⟩) (fun _ => hD0) ?zrest14
        case zhy14 => (intro w hSw; (try dsimp only at hSw); go_simp <;> (with_reducible rfl))
        try simp only [Act.put]
        refine till_ready (rs := [14]) (by kernel_rfl) (by simp) ?_
        refine TillReady.free rfl (by kernel_rfl) (fun K hK => ?_) TillReady.nil
        go_simp
        refine hK.out _ _ ?_
        clear hK K
        try simp only [Act.put, List.setIfInBounds_toArray, List.set_cons_zero, List.set_cons_succ]
        refine till_done (by kernel_rfl) ?_ _
        refine NoPanic.normal ?_
        skip
        obtain ⟨e1, e2, e3, e4, e5⟩ := HOW.out (wc.drewN (nq + 1)) ((Kept.refl _ wc).drewN _)
        have q2 := fro2 e1
        obtain ⟨q0, q1⟩ := blk2 e1
        obtain ⟨r0, r1, r2, r3⟩ := ret_box (d := ⟨i ++ [s.take mm], sn⟩) e1 e3 (by omega) (by simpa using e2)
        simp only [List.length_append, List.length_cons, List.length_nil, Nat.zero_add] at r0 r1 r2 r3
        have HR23 := hide (And.intro r2 r3)
        clear r2 r3 e1 e2 e3
        go_wp2_with fail
        exact bodyPost_ret (v := diV (.slice (some ⟨b5, 0, none⟩) (i.length + 1) c5) sn) (by simp [results, Try.results24, go_sem, r0, r1]) rfl (by rw [List.concat_eq_append, HD.out]; exact ⟨_, rfl, by simpa using HR23.out.1, HR23.out.2⟩)
      · have HD := hide (show cutD ⟨i ++ [s], sn⟩ keep = ⟨i ++ [s], sn⟩ by
          unfold cutD; simp only; rw [lastS_app, setLastS_app]
          rw [List.take_of_length_le (by omega)])
        have hkp' : (s.length : Int) - sn ≤ keep := by omega
        clear hkp
        have hge : ¬ keep < (s.length : Int) - sn := by omega
        have hb0 : (0 : Int) ≤ i.length := by omega
        have hb1 : (i.length : Int) < (i.length : Int) + 1 := by omega
        rw [hl] at x0 hst
        have hR := blk_kept HGR.out HKc.out (fun f => f)
        have p2 := fro2 hR
        obtain ⟨p0, p1⟩ := blk2 hR
        have HRB := hide (fun n => ret_box (d := ⟨i ++ [s], sn⟩) (w := w) (wx := wc.drewN n) hR ((trs HKW.out HKc.out).drewN n) (by omega) (((own_sts hown (by unfold maxLen; simp; try omega)).mono (fun _ _ _ => trivial)).same ((Kept.refl _ wc).drewN n)))
        clear hst hown hR
        go_wp2_with fail
        go_quiet (fail)
        go_wp2_with fail
        obtain ⟨q0, q1, q2, q3⟩ := HRB.out nq
        simp only [List.length_append, List.length_cons, List.length_nil, Nat.zero_add] at q0 q1 q2 q3
        exact bodyPost_ret (v := diV (.slice (some ⟨b5, 0, none⟩) (i.length + 1) c5) sn) (by simp [results, Try.results24, go_sem, q0, q1]) rfl (by rw [List.concat_eq_append, HD.out]; exact ⟨_, rfl, by simpa using q2, q3⟩)

end Go.Proofs.Ytillhpepfpldcaa
