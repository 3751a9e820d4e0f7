/- parts.CloneList at strings; disk.kept. -/
import Derived.Test.YtillhpepfpldcaaDisktells20
import Derived.Test.YtillhpepfpldcaaDisktells05
import Derived.Deep.RegionHeld3
namespace Go.Proofs.Ytillhpepfpldcaa
open Go.RowKit

theorem own_low {w : World} {b b' : Nat} {e : TypeId} {size : Nat} {v : Value} {n : Nat} {xs : List Value} (h : w.ownsRow b e size v n xs) (hb : b' ≤ b) : w.ownsRow b' e size v n xs := by
  obtain ⟨h1, h2⟩ := h
  refine ⟨h1, ?_⟩
  rcases h2 with h2 | ⟨g, cap, cur, hv, hg, r⟩
  · exact Or.inl h2
  · exact Or.inr ⟨g, cap, cur, hv, Nat.le_trans hb hg, r⟩

theorem sl_news {P : Nat → Prop} {w : World} {ao : Option Addr} {n cap : Nat} {l : List (List UInt8)} (h : StSl P w (.slice ao n cap) l) : ∀ ad, ao = some ad → ∀ j u, (stCells l)[j]? = some u → w.cell? (ad.add j) = some u := by
  intro ad had j u hu
  obtain ⟨ao', cap', hv, _, h3⟩ := h
  cases hv
  have hj : j < l.length := by have := (List.getElem?_eq_some_iff.1 hu).1; rwa [stCells_len] at this
  obtain ⟨b, off, ha, _, h0⟩ := h3 j l[j] (List.getElem?_eq_getElem hj)
  rw [had] at ha
  cases ha
  rw [addr_add, h0]
  have := stCells_get (List.getElem?_eq_getElem hj)
  rw [hu] at this
  exact this.symm

theorem cloneS_any (P : Nat → Prop) (w : World) (v : Value) (l : List (List UInt8)) (h : StSl P w v l) (hl8 : l.length ≤ 8) :
    Calls Try.prog 63 #[v] w fun r w' => ∃ v', r = .returned v' ∧ OwnS w.heap.size w' v' l ∧ Same w w' := by
  obtain ⟨i0, hi, hz0, hz1, hz2⟩ := info_parts info_str
  obtain ⟨ao, cap, rfl⟩ := h.form
  have hn := h.none
  have hw := sl_news h
  have HN := hide (And.intro hn hw)
  obtain ⟨_, hl, hcap⟩ := h.len
  clear h hn hw
  go_enter Try.func63, Try.ntmps63
  go_wp2_with (at_builtin; refine wpList_append_all rfl _ _ 36 rfl w.heap.size 9 i0 _ 1 16 Try.underlying36 hi hz0 hz1 hz2 rfl (by decide) _ _ _ rfl (World.ownsRow_nil _ _ _ _) ao l.length cap (stCells l) rfl HN.out.1 (by rw [stCells_len, Nat.mul_one]) HN.out.2 (stCells_one l) ?y1 ?y2 (Nat.le_refl _) ?_)
  case y1 => unfold maxLen; omega
  case y2 => omega
  intro v5 w5 hown5 hgr5
  have hS5 : Same w w5 := (Kept.refl _ w).grown hgr5 (fun k hk hlt => by cases hk)
  obtain ⟨a5, c5, e5⟩ := own_slice hown5
  subst e5
  have HO := hide hown5
  clear hown5 hgr5
  go_wp2_with fail
  go_ret
  exact ⟨_, rfl, HO.out, hS5⟩

theorem kept_up {w w' : World} (h : Kept (w.heap.size ≤ ·) w w') : Same w w' := h.mono (fun i hi hx => by have h1 : w.heap.size ≤ i := hx; omega)

/-- wrongSegs, segment by segment -/
theorem wrong_step (s : List UInt8) (t : List (List UInt8)) : wrongSegs (s :: t) = if readC s (decide (t ≠ [])) ≠ 0 then readC s (decide (t ≠ [])) else wrongSegs t := by
  have h0 : (segT s).2.2 ≠ 0 := fun e => by have := (segT_is s).2.2; rw [e] at this; exact decode_no0 _ this
  rw [wrongSegs]
  by_cases h : (segT s).2.2 = 5
  · have e1 : readC s (decide (t ≠ [])) = if (segT s).2.1 ≠ [] ∧ t ≠ [] then 4 else 0 := by
      unfold readC
      rw [if_neg (by simp [h])]
      simp
    rw [e1, if_neg (by simp [h])]
    by_cases h2 : (segT s).2.1 ≠ [] ∧ t ≠ []
    · rw [if_pos h2, if_pos h2]; simp
    · rw [if_neg h2, if_neg h2]; simp
  · have e1 : readC s (decide (t ≠ [])) = (segT s).2.2 := by unfold readC; rw [if_pos h]
    rw [e1, if_pos h, if_pos h0]

theorem ends_con (l : List BatchT) (n : Int) (a : Nat) : ((endsB a l).map fun (k : Nat) => (k : Int)).contains n = (endsB a l).any fun k => decide ((k : Int) = n) := by
  rw [Bool.eq_iff_iff]
  simp only [List.contains_iff_mem, List.mem_map, List.any_eq_true, decide_eq_true_eq]

theorem take_succ_get {α : Type} {l : List α} {i : Nat} {x : α} (h : l[i]? = some x) : l.take (i + 1) = l.take i ++ [x] := by
  rw [List.take_add_one, h]; rfl
theorem drop_get {α : Type} {l : List α} {i : Nat} {x : α} (h : l[i]? = some x) : l.drop i = x :: l.drop (i + 1) := by
  obtain ⟨hi, rfl⟩ := List.getElem?_eq_some_iff.1 h
  exact List.drop_eq_getElem_cons hi

theorem KW.make {B : Nat} {W : World} {g : Nat} {sv : Value} {E : Nat} {segs : List (List UInt8)} {syn : Int} (hblk : W.heap[g]? = some (.cells #[sv, .int .i64 syn, .slice none 0 0, .slice (some ⟨E, 0, none⟩) 1 1] 84 (0, 0)))
    (hown : OwnS B W sv segs) (hE : W.heap[E]? = some (.cells #[.int .i64 0] 3 (0, 0))) (hB : B ≤ g) (hBE : B ≤ E) (hgs : ¬ Row sv g) (hEs : ¬ Row sv E) (hgE : E ≠ g) (len : segs.length ≤ 8) (each : ∀ s ∈ segs, s.length ≤ 400) :
    KW B W g sv (.slice none 0 0) (.slice (some ⟨E, 0, none⟩) 1 1) segs syn [] [0] := by
  have hr : ∀ k, Row (.slice (some ⟨E, 0, none⟩) 1 1) k → k = E := fun k hr => (Option.some.inj hr).symm
  have hn : ∀ k, ¬ Row (.slice none 0 0) k := fun k hr => by cases hr
  refine { blk := hblk, own := hown, bat := World.ownsRow_nil _ _ _ _, evs := fun p hp => (by cases hp), end' := ⟨rfl, .inr ⟨E, 1, #[.int .i64 0], rfl, hBE, hE, Nat.le_refl _, by unfold maxLen; omega, rfl, rfl⟩⟩, hB := hB, sg := hgs, bg := hn g, eg := fun h => hgE (hr g h).symm, sb := fun k _ => hn k, se := fun k h1 h2 => hEs (by rw [← hr k h2]; exact h1), be := fun k h1 => absurd h1 (hn k), len := len, each := each }

abbrev endsOf (segs : List (List UInt8)) : List Nat := endsB 0 (segT (lastS segs)).1

set_option maxRecDepth 20000 in
set_option maxHeartbeats 3200000 in
theorem kept_any (P : Nat → Prop) (w : World) (v : Value) (d : DiskT) (h : StSl P w v d.segs) :
    Calls Try.prog 46 #[diV v d.synced] w fun r w' =>
      (checkD d ≠ 0 ∧ r = .returned (.tuple #[.pointer none, .int .i64 (checkD d)]) ∧ Same w w') ∨
      (checkD d = 0 ∧ ∃ g sv bv ev bp, r = .returned (.tuple #[.pointer (some ⟨g, 0, none⟩), .int .i64 0]) ∧ KW w.heap.size w' g sv bv ev d.segs d.synced bp (endsOf d.segs) ∧ bp.map Prod.fst = batchesD d.segs ∧ Same w w') := by
  obtain ⟨segs, syn⟩ := d
  simp only at h ⊢
  have HH := hide h
  have HT := hide (fun wx (hk : Same w wx) => tooGreat_any P wx v syn segs (h.same hk))
  obtain ⟨ao, cap, rfl⟩ := h.form
  clear h
  cases hg : tooGreatD segs with
  | true =>
    have HC := hide (show checkD ⟨segs, syn⟩ = 2 by unfold checkD; simp only; rw [if_pos hg])
    rw [hg] at HT
    clear hg
    go_enter Try.func46, Try.ntmps46
    go_wp2_with fail
    refine (HT.out _ (by repeat' (first | assumption | exact Kept.refl _ _ | refine Kept.drewN ?_ _ | refine Kept.drew ?_ | refine Kept.alloc ?_ _ | refine Kept.setB ?_ _ _))).mono ?_
    rintro r w1 ⟨rfl, hK1⟩
    go_wp2_with fail
    go_ret2
    exact .inl ⟨by rw [HC.out]; decide, by rw [HC.out]; rfl, hK1.unA⟩
  | false =>
    have HGR := hide hg
    unfold tooGreatD at hg
    simp only [Bool.or_eq_false_iff, decide_eq_false_iff_not, List.any_eq_false, decide_eq_true_eq] at hg
    have hl8 : segs.length ≤ 8 := by omega
    have hea : Hid (∀ s ∈ segs, s.length ≤ 400) := fun s hs => by have := hg.2 s hs; omega
    rw [HGR.out] at HT
    clear hg
    have HCL := hide (fun wx (hk : Same w wx) => cloneS_any P wx _ segs (HH.out.same hk) hl8)
    go_enter Try.func46, Try.ntmps46
    go_wp2_with fail
    refine (HT.out _ (by repeat' (first | assumption | exact Kept.refl _ _ | refine Kept.drewN ?_ _ | refine Kept.drew ?_ | refine Kept.alloc ?_ _ | refine Kept.setB ?_ _ _))).mono ?_
    rintro r w1 ⟨rfl, hK1⟩
    have hb1 := new_kept (w := w) hK1 (fun f => f)
    have hKw1 : Same w w1 := hK1.unA
    obtain ⟨x0, x1⟩ := blk2 hb1
    have hlt1 : w.heap.size < w1.heap.size := (Array.getElem?_eq_some_iff.1 hb1).1
    clear hK1 HT
    have hKc : Same w1 w1 := Kept.refl _ _
    have HALL := hide (fun wy (hy : Same w1 wy) => (⟨hy.cell x0 (fun f => f), hy.cell x1 (fun f => f)⟩ : wy.cell? ⟨w.heap.size, 0, none⟩ = _ ∧ wy.cell? ⟨w.heap.size, 1, none⟩ = _))
    have trs : ∀ {a b c : World}, Same a b → Same b c → Same a c := fun h k => h.trans k (fun _ _ f => f)
    go_wp2_with fail
    go_region_held3 (fun w' => w'.cell? ⟨w.heap.size, 0, none⟩ = some (.slice ao segs.length cap) ∧ w'.cell? ⟨w.heap.size, 1, none⟩ = some (.int .i64 syn)) (go_keep) ((go_at_call 63; refine (HCL.out _ (trs hKw1 (by first | exact hKc.drewN _ | exact hKc.drew | exact hKc | exact (hKc.drewN _).alloc _ | exact hKc.alloc _))).mono ?_; rintro e w9 ⟨sv, rfl, hown, hKn⟩; obtain ⟨sa, sc, hsv⟩ := own_slice hown; subst hsv; have hKc := trs (by first | exact hKc.drewN _ | exact hKc.drew | exact hKc | exact (hKc.drewN _).alloc _ | exact hKc.alloc _) hKn; obtain ⟨x0, x1⟩ := HALL.out _ hKc))
    all_goals
      have hrl : ∀ k, Row (.slice sa segs.length sc) k → k < w9.heap.size := fun k hr => (own_up hown k hr).2
      have hz19 := hKc.size
      have hzw := hKw1.size
      first
        | (have hE : w9.heap[w1.heap.size]? = some (.cells #[.int .i64 0] 3 (0, 0)) := blk_kept' hKn (heap_alloc_new w1 _) (fun f => f)
           have hlt : w1.heap.size < w9.heap.size := (Array.getElem?_eq_some_iff.1 hE).1
           have hrb : ∀ k, Row (.slice sa segs.length sc) k → w1.heap.size + 1 ≤ k := fun k hr => by have := own_row hown k hr; simpa using this
           have HK1 : Hid (KW w.heap.size (w9.alloc (.cells #[.slice sa segs.length sc, .int .i64 syn, .slice none 0 0, .slice (some ⟨w1.heap.size, 0, none⟩) 1 1] 84)) w9.heap.size (.slice sa segs.length sc) (.slice none 0 0) (.slice (some ⟨w1.heap.size, 0, none⟩) 1 1) segs syn [] [0]) :=
             KW.make (heap_alloc_new _ _) (own_kept2 (own_low hown (by simp; omega)) ((Kept.refl (fun _ => False) w9).alloc _) (fun _ _ f => f)) ((Below.heap_alloc _ _ _ hlt).trans hE) (by omega) (by omega) (fun hr => by have := hrl _ hr; omega) (fun hr => by have := hrb _ hr; omega) (by omega) hl8 hea.out
           have HKW : Hid (Same w (w9.alloc (.cells #[.slice sa segs.length sc, .int .i64 syn, .slice none 0 0, .slice (some ⟨w1.heap.size, 0, none⟩) 1 1] 84))) := (hKw1.trans hKc (fun _ _ f => f)).alloc _
           generalize (w9.alloc (.cells #[.slice sa segs.length sc, .int .i64 syn, .slice none 0 0, .slice (some ⟨w1.heap.size, 0, none⟩) 1 1] 84)) = W at *
           generalize w9.heap.size = g at *
           generalize w1.heap.size = sE at *)
        | (have HK1 : Hid (KW w.heap.size ((w9.alloc (.cells #[.int .i64 0] 3)).alloc (.cells #[.slice sa segs.length sc, .int .i64 syn, .slice none 0 0, .slice (some ⟨w9.heap.size, 0, none⟩) 1 1] 84)) (w9.heap.size + 1) (.slice sa segs.length sc) (.slice none 0 0) (.slice (some ⟨w9.heap.size, 0, none⟩) 1 1) segs syn [] [0]) :=
             KW.make (al_new _ _ _) (own_kept2 (own_low hown (by simp; omega)) (((Kept.refl (fun _ => False) w9).alloc _).alloc _) (fun _ _ f => f)) (al_old _ _ _) (by omega) (by omega) (fun hr => by have := hrl _ hr; omega) (fun hr => by have := hrl _ hr; omega) (by omega) hl8 hea.out
           have HKW : Hid (Same w ((w9.alloc (.cells #[.int .i64 0] 3)).alloc (.cells #[.slice sa segs.length sc, .int .i64 syn, .slice none 0 0, .slice (some ⟨w9.heap.size, 0, none⟩) 1 1] 84))) := ((hKw1.trans hKc (fun _ _ f => f)).alloc _).alloc _
           generalize ((w9.alloc (.cells #[.int .i64 0] 3)).alloc (.cells #[.slice sa segs.length sc, .int .i64 syn, .slice none 0 0, .slice (some ⟨w9.heap.size, 0, none⟩) 1 1] 84)) = W at *
           generalize w9.heap.size + 1 = g at *
           generalize w9.heap.size = sE at *)
      clear hrl hz19 hzw hKc hKn hown x0 x1 HALL HCL hKw1 hlt1 hb1
      obtain ⟨c0, c1, c2, c3, cf⟩ := blk4 HK1.out.blk
      have hBW : w.heap.size ≤ W.heap.size := HKW.out.size
      go_wp2_with fail
      clear c0 c1 c2 c3 cf
      go_loopg [24] segs.length (fun gk iv wr => ∃ (i : Nat) (bv ev : Value) (bp : List (BatchT × Value)), iv = .int .i64 i ∧ i + gk = segs.length ∧ bp.length ≤ 200 * i ∧ Hid (Same w wr) ∧ Hid (KW w.heap.size wr g (.slice sa segs.length sc) bv ev segs syn bp (endsOf (segs.take i))) ∧ Hid (bp.map Prod.fst = batchesD (segs.take i)) ∧ Hid (wrongSegs segs = wrongSegs (segs.drop i)))
      case atStart => exact ⟨0, _, _, [], rfl, by omega, by simp, HKW, HK1, hide rfl, hide rfl⟩
      case round =>
        obtain ⟨i, bv, ev, bp, rfl, hi, hbl, HKr, HK, HBP, HWS⟩ := hrel
        clear HK1 HKW hBW
        have hBr : w.heap.size ≤ wr.heap.size := HKr.out.size
        by_cases hlt : i < segs.length
        · obtain ⟨s, hs⟩ : ∃ s, segs[i]? = some s := ⟨_, List.getElem?_eq_getElem hlt⟩
          have HRD := hide (read_any HK.out hBr i s hs (by omega))
          have hdc : decide (segs.drop (i + 1) ≠ []) = decide (i + 1 < segs.length) := by rw [Bool.eq_iff_iff]; simp
          have HW2 := hide (show wrongSegs segs = if readC s (decide (i + 1 < segs.length)) ≠ 0 then readC s (decide (i + 1 < segs.length)) else wrongSegs (segs.drop (i + 1)) by rw [HWS.out, drop_get hs, wrong_step, hdc])
          have hsl : s.length ≤ 400 := hea.out s (List.mem_of_getElem? hs)
          have HSn := hide hs
          clear hs hdc
          obtain ⟨code, hcode⟩ : ∃ code, code = readC s (decide (i + 1 < segs.length)) := ⟨_, rfl⟩
          rw [← hcode] at HRD HW2
          clear hcode
          by_cases hc : code = 0
          · subst hc
            go_wp2_with fail
            refine HRD.out.mono ?_
            rintro r w3 ⟨rfl, hK3, hres⟩
            obtain ⟨bv', ev', bp', hkw, hbp⟩ := hres trivial
            have hKr3 : Same w w3 := kept_up (HKr.out.to.trans hK3 (fun _ _ e => e))
            have HN := hide (And.intro hkw (And.intro hbp hKr3))
            clear hres hkw hbp hKr3 hK3
            go_wp2_with fail
            go_roundg (gk - 1)
            case measure => omega
            case rel =>
              refine ⟨i + 1, bv', ev', bp', by go_num, by omega, ?_, HN.out.2.2, ?_, ?_, ?_⟩
              · have h1 := congrArg List.length HN.out.2.1
                rw [List.length_append, List.length_map, List.length_map] at h1
                have h2 := flatB_ge (segT s).1
                have h3 := whole_le s
                unfold wholeS at h3
                omega
              · have e : endsOf (segs.take (i + 1)) = endsB 0 (segT s).1 := by
                  rw [take_succ_get HSn.out]; unfold endsOf; rw [lastS_app]
                rw [e]; exact HN.out.1
              · show _ = _
                rw [take_succ_get HSn.out, HN.out.2.1, HBP.out, batches_app]
              · show _ = _
                rw [HW2.out, if_neg (by simp)]
          · have hc' : (code != 0) = true := by simp [hc]
            have HC := hide (show checkD ⟨segs, syn⟩ = code by unfold checkD; simp only; rw [if_neg (by simp [HGR.out]), HW2.out, if_pos hc, if_pos hc])
            have HN := hide hc
            clear hc
            go_wp2_with fail
            refine HRD.out.mono ?_
            rintro r w3 ⟨rfl, hK3, _⟩
            have hKr3 : Same w w3 := kept_up (HKr.out.to.trans hK3 (fun _ _ e => e))
            clear hK3
            go_wp2_with fail
            go_ret2
            exact .inl ⟨by rw [HC.out]; exact HN.out, by rw [HC.out]; rfl, hKr3⟩
        · have hil : i = segs.length := by omega
          subst hil
          rw [List.take_length] at HK HBP
          have HW0 := hide (show wrongSegs segs = 0 by rw [HWS.out, List.drop_length]; rfl)
          have HCD := hide (show checkD ⟨segs, syn⟩ = if isEnd (lastS segs) syn = false then 3 else 0 by unfold checkD; simp only; rw [if_neg (by simp [HGR.out]), if_neg (by simp [HW0.out])])
          have hel : (endsOf segs).length ≤ 1000 := by
            rw [endsB_len]
            have h2 := flatB_ge (segT (lastS segs)).1
            have h3 := whole_le (lastS segs)
            have h4 := last_len HK.out
            unfold wholeS at h3
            omega
          have hpos : 0 < (endsOf segs).length := by rw [endsB_len]; omega
          obtain ⟨eb, ec, hev⟩ := own_form HK.out.end' hpos
          subst hev
          have HCO := hide (fun (u : Nat) => (Try.slices_Contains_int eb 0 (endsOf segs).length ec ((endsOf segs).map fun (k : Nat) => (k : Int)) syn (wr.drewN u) (by simp) (by omega) (fun j hj => by
              rw [List.length_map] at hj
              have h1 := World.ownsRow.cellAt HK.out.end' j (by omega)
              have h2 := inCells_get (List.getElem?_eq_getElem hj)
              rw [h2] at h1
              rw [Nat.zero_add, World.cell?_drewN, h1]
              simp [List.getD, hj])).mono (R' := fun e w'' => e = .returned (.bool (isEnd (lastS segs) syn)) ∧ ∃ m, w'' = wr.drewN m) (fun e w'' h => ⟨by
                rw [h.1, List.take_of_length_le (by simp), ends_con]; rfl, u, h.2⟩))
          obtain ⟨c0, c1, c2, c3, cf⟩ := blk4 HK.out.blk
          cases hE : isEnd (lastS segs) syn with
          | true =>
            rw [hE] at HCO
            have HCZ := hide (show checkD ⟨segs, syn⟩ = 0 by rw [HCD.out, hE]; rfl)
            clear hE HCD hpos
            go_wp2_with fail
            go_quiet (first | (go_at_call 65; exact HCO.out _))
            go_wp2_with fail
            go_ret2
            exact .inr ⟨HCZ.out, g, _, _, _, bp, rfl, HK.out.same ((Kept.refl _ wr).drewN _), HBP.out, HKr.out.drewN _⟩
          | false =>
            rw [hE] at HCO
            have HCZ := hide (show checkD ⟨segs, syn⟩ = 3 by rw [HCD.out, hE]; rfl)
            clear hE HCD hpos
            go_wp2_with fail
            go_quiet (first | (go_at_call 65; exact HCO.out _))
            go_wp2_with fail
            go_ret2
            exact .inl ⟨by rw [HCZ.out]; decide, by rw [HCZ.out]; rfl, HKr.out.drewN _⟩

end Go.Proofs.Ytillhpepfpldcaa
