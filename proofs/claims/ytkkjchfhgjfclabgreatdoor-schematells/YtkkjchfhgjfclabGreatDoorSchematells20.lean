/- schema.readType, whatever comes: the walk. -/
import Derived.Test.YtkkjchfhgjfclabGreatDoorSchematells19
namespace Go.Proofs.YtkkjchfhgjfclabGreatDoor
open Go.RowKit

set_option maxRecDepth 20000 in
set_option maxHeartbeats 3200000 in
theorem readType_any (w : World) (q : Nat) (r : List Tok) (h : LineAt w q r) (hlen : r.length ≤ 300) :
    Calls Tryz.prog 74 #[.pointer (some ⟨q, 0, none⟩)] w fun e w' =>
      (∃ t r' af nf cf, pType r = some (t, r') ∧ e = .returned (.agg #[.string ⟨t.name.toArray⟩, .slice af nf cf]) ∧ FldSl (fun b => w.heap.size ≤ b) w' (.slice af nf cf) t.fields ∧ LineAt w' q r' ∧ Kept (· = q) w w')
      ∨ (pType r = none ∧ e = fault 1 ∧ Kept (· = q) w w') := by
  have hq := h.lt
  have hqn : q ≠ w.heap.size := by omega
  have hfl := fld_text
  have HA := hide (h.same ((Kept.refl _ w).alloc (.cells #[.string ⟨#[]⟩, .slice none 0 0] 38)))
  have HT := hide (word_any _ q r bType HA.out)
  have HK0 := hide (show Kept (· = q) w (w.alloc (.cells #[.string ⟨#[]⟩, .slice none 0 0] 38)) from (Kept.refl _ w).alloc _)
  have HB0 := hide (heap_alloc_new w (.cells #[.string ⟨#[]⟩, .slice none 0 0] 38))
  obtain ⟨i0, hi, hz0, hz1, hz2⟩ := info_parts infoF
  clear h
  go_enter Tryz.func74, Tryz.ntmps74
  go_wp2_with fail
  refine HT.out.mono ?_
  rintro e w1 (⟨a, r1, hr1, ha, rfl, hL1, hK1⟩ | ⟨hr1, rfl, hK1⟩)
  · have HR1 := hide hr1
    have HA1 := hide ha
    have HK1 := hide (kq HK0.out hK1)
    have HB1 := hide (blk_kept HB0.out hK1 hqn.symm)
    clear hr1 ha hK1 HT HA HK0 HB0
    go_wp2_with fail
    refine (take1_any _ q r1 hL1).mono ?_
    rintro e w2 (⟨b, r2, hr2, hb, rfl, hL2, hK2⟩ | ⟨hr2, rfl, hK2⟩)
    · have HR2 := hide hr2
      have HBK := hide hb
      have HK2 := hide (kq HK1.out hK2)
      have HB2 := hide (blk_kept HB1.out hK2 hqn.symm)
      have hsz2 : w.heap.size < w2.heap.size := (Array.getElem?_eq_some_iff.1 HB2.out).1
      have HN := hide (hL2.same ((Kept.refl _ w2).alloc (.cells #[.string ⟨b.s.toArray⟩, .slice none 0 0] 38)))
      have HS := hide (sign_any _ q r2 123 HN.out)
      clear hr2 hb hK2 HK1 HB1 hL1 HN
      go_wp2_with fail
      refine HS.out.mono ?_
      rintro e w3 (⟨c, r3, hr3, hs3, rfl, hL3, hK3⟩ | ⟨hs3, rfl, hK3⟩)
      · have HP := hide (show pType r = (pFields r3.length r3).map (fun x => (⟨b.s, x.1⟩, x.2)) by
          have e1 := HR1.out; have e2 := HR2.out
          subst e1 e2 hr3
          exact pType_some HA1.out HBK.out hs3)
        have hl3 : r3.length ≤ 300 := by
          have e1 := HR1.out; have e2 := HR2.out
          subst e1 e2 hr3
          simp at hlen; omega
        have HK3 := hide (kq (HK2.out.alloc (.cells #[.string ⟨b.s.toArray⟩, .slice none 0 0] 38)) hK3)
        have HB3 := hide (blk_kept (blk_kept HB2.out ((Kept.refl (· = q) w2).alloc (.cells #[.string ⟨b.s.toArray⟩, .slice none 0 0] 38)) hqn.symm) hK3 hqn.symm)
        have HG3 := hide (blk_kept (heap_alloc_new w2 (.cells #[.string ⟨b.s.toArray⟩, .slice none 0 0] 38)) hK3 (show ¬ w2.heap.size = q by omega))
        obtain ⟨g3, hg3⟩ : ∃ g3, g3 = w2.heap.size := ⟨_, rfl⟩
        rw [← hg3] at HG3 hsz2
        simp only [← hg3]
        have hqg : q < g3 := by omega
        have HL3 := hide hL3
        clear hr3 hs3 hK3 HK2 HB2 hL2 HR1 HR2 HA1 HBK HS hg3 hL3 hlen
        obtain ⟨N, hN⟩ : ∃ N, N = r3.length := ⟨_, rfl⟩
        have HNN := hide hN
        have hN1 : N ≤ 300 := by omega
        clear hN hl3
        go_wp2_with fail
        go_loopg [] (N + 1) (fun g wr => ∃ (m : Nat) (rj : List Tok) (acc : List FieldT) (v : Value), m + 1 ≤ g ∧ g ≤ m + 1 ∧ rj.length ≤ m ∧ acc.length + rj.length ≤ 300 ∧ LineAt wr q rj ∧ Kept (· = q) w wr ∧ Hid (wr.heap[w.heap.size]? = some (.cells #[.string ⟨#[]⟩, .slice none 0 0] 38 (0, 0))) ∧ Hid (wr.heap[g3]? = some (.cells #[.string ⟨b.s.toArray⟩, v] 38 (0, 0))) ∧ wr.ownsRow (g3 + 1) 40 3 v acc.length (fldCells acc) ∧ Hid (fRel r3 m rj acc))
        case atStart =>
          have e1 := HNN.out
          exact ⟨N, r3, [], .slice none 0 0, by omega, by omega, by omega, by simp; omega, HL3.out, HK3.out, HB3.out, HG3.out, World.ownsRow_nil _ _ _ _, by rw [Hid, e1]; exact fRel.start r3⟩
        case round =>
          obtain ⟨m, rj, acc, v, hg1, hg2, hrm, hacc, hLr, hKr, HBr, HGr, hown, HFR⟩ := hrel
          obtain ⟨ao, cap, hv⟩ := own_slice hown
          subst hv
          obtain ⟨c0, c1⟩ := blk2 HGr.out
          have f0 : ∀ o, wr.frozen? ⟨g3, o, none⟩ = false := fun o => by have := HGr.out; simp [World.frozen?, this]
          have hg3r : g3 < wr.heap.size := (Array.getElem?_eq_some_iff.1 HGr.out).1
          cases hp : pField rj with
          | none =>
            have HE := hide (show pType r = none by rw [HP.out, HFR.out.bad hp]; rfl)
            have HRF := hide (fun w4 (hk : Same wr w4) => readField_no w4 q rj (hLr.same hk) hp)
            clear hp
            go_wp2_with fail
            have HD := hide (fun w4 (hk : Same wr w4) => (HRF.out w4 hk).mono (R' := fun e w5 => e = fault 1 ∧ Kept (· = q) w w5) (fun e w5 h => ⟨h.1, kq (kq hKr (Kept.of_below hk.below).to) h.2⟩))
            refine wp_region_any (by kernel_rfl) ?_
            change wpAny _ _ _ _ _ _ _ (World.drew _)
            refine wpAny_take (i := 0) (v := .pointer (some ⟨g3, 1, none⟩)) rfl (by kernel_rfl) (by kernel_rfl) (by kernel_rfl) (fun _ _ _ h => h) (Or.inl ⟨by rfl, by intro w; go_simp⟩) ?_
            refine wpAny_take (i := 2) (v := .pointer (some ⟨q, 0, none⟩)) rfl (by kernel_rfl) (by kernel_rfl) (by kernel_rfl) (fun _ _ _ h => h) (Or.inl ⟨by rfl, by intro w; go_simp⟩) ?_
            refine wpAny_ready (rs := [1, 3]) (by kernel_rfl) (by simp) ?_
            refine AllReady.cons rfl (fun K hK => ?_) (AllReady.cons rfl (fun K hK => ?_) AllReady.nil)
            · go_simp
              refine hK _ _ ?_
              clear hK K
              refine wpAny_ready (rs := [3]) (by kernel_rfl) (by simp) ?_
              refine AllReady.cons rfl (fun K hK => ?_) AllReady.nil
              refine step_dies rfl 107 _ _ rfl #[.pointer (some ⟨q, 0, none⟩)] (by simp [Act.eval]) (enters_readField _) (HD.out _ (Kept.refl _ _).drew) ?_
              rintro e w4 ⟨rfl, hKf⟩
              exact ⟨_, rfl, rfl, .inr ⟨HE.out, rfl, hKf⟩⟩
            · refine step_dies rfl 107 _ _ rfl #[.pointer (some ⟨q, 0, none⟩)] (by simp [Act.eval, Act.put]) (enters_readField _) (HD.out _ (Kept.refl _ _).drew) ?_
              rintro e w4 ⟨rfl, hKf⟩
              exact ⟨_, rfl, rfl, .inr ⟨HE.out, rfl, hKf⟩⟩
          | some x =>
            obtain ⟨f, r4⟩ := x
            have hl4 := pField_len hp
            have HRF := hide (fun w4 (hk : Same wr w4) => readField_ok w4 q rj r4 f (hLr.same hk) hp)
            have HPF := hide hp
            clear hp
            obtain ⟨m1, hm1⟩ : ∃ m1, m = m1 + 1 := ⟨m - 1, by omega⟩
            have HFR1 : Hid (fRel r3 (m1 + 1) rj acc) := by rw [← hm1]; exact HFR
            have hmle : m ≤ m1 + 1 := by omega
            have hmge : m1 + 1 ≤ m := by omega
            clear HFR hm1
            have HNE := hide (fun (k : Nat) (hk : g3 + 1 ≤ k) (e : k = q) => show False by omega)
            go_wp2_with fail
            go_region_law (first
              | (refine step_call rfl 107 _ _ rfl #[.pointer (some ⟨q, 0, none⟩)] (by simp [Act.eval, Act.put]) (enters_readField _) (HRF.out _ (by first | exact (Kept.refl _ _).drew | exact (Kept.refl _ _).drewN _)) ?_; rintro e w4 ⟨rfl, hL4, hK4⟩; refine ⟨_, rfl, ?_⟩; have hK5 : Kept (· = q) wr w4 := hK4.unD; have hG4 := blk_kept HGr.out hK5 (show ¬ g3 = q by omega); obtain ⟨d0, d1⟩ := blk2 hG4; have e0 : ∀ o, w4.frozen? ⟨g3, o, none⟩ = false := (fun o => by simp [World.frozen?, hG4]); have hown4 := own_kept hown hK5 HNE.out; have hg34 : g3 < w4.heap.size := (Array.getElem?_eq_some_iff.1 hG4).1)
              | (refine step_append_at rfl (.tmp 14) (.tmp 17) 36 rfl (g3 + 1) 40 i0 _ 3 40 Tryz.underlying36 hi hz0 hz1 hz2 rfl (by decide) (.slice ao acc.length cap) acc.length (fldCells acc) (by simp [Act.eval]) (by exact hown4.alloc _) ⟨w4.heap.size, 0, none⟩ 1 1 (fldC f) (by simp [Act.eval]) rfl (by exact new_c3 w4 _ _ _ _) (fldC_one f) (by unfold maxLen; omega) (by omega) (by simp; omega) ?_; intro v5 w5 hown5 hgr5 hat5; obtain ⟨g5, cap5, hv5⟩ := own_form hown5 (by omega); subst hv5; have hG5 := blk_kept (blk_kept hG4 ((Kept.refl (fun _ => False) w4).alloc (.cells #[.string ⟨f.name.toArray⟩, .int .i64 f.kind, .string ⟨f.of.toArray⟩] 40)) (fun f => f)) (grown_kept hgr5) (fun e => by have := (own_up hown4 _ e.symm).1; omega); obtain ⟨k0, k1⟩ := blk2 hG5; have l0 : ∀ o, w5.frozen? ⟨g3, o, none⟩ = false := (fun o => by simp [World.frozen?, hG5])))
            all_goals
              have hKa : Kept (· = q) w w4 := kq hKr hK5
              have hKb : Kept (fun k => some k = (Value.slice ao acc.length cap).ownBlock) w4 w5 := ((Kept.refl _ w4).alloc _).trans (grown_kept hgr5) (fun _ _ e => e)
              have hXb : ∀ k, some k = (Value.slice ao acc.length cap).ownBlock → g3 < k := fun k e => by have := (own_up hown4 k e.symm).1; omega
              have hKc : Kept (· = q) w w5 := hKa.trans hKb (fun k hk e => by have := hXb k e; omega)
              have hLb := hL4.after hKb (fun k e => by have := hXb k e; omega)
              have hBb := blk_kept (blk_kept HBr.out hK5 hqn.symm) hKb (fun e => by have := hXb _ e; omega)
              have hS : Kept (· = g3) w5 (w5.setCell ⟨g3, 1, none⟩ (.slice (some ⟨g5, 0, none⟩) (acc.length + 1) cap5)) := (Kept.refl _ w5).setB 1 _
              have hLc := hLb.after hS (fun k e => by omega)
              have hKd : Kept (· = q) w (w5.setCell ⟨g3, 1, none⟩ (.slice (some ⟨g5, 0, none⟩) (acc.length + 1) cap5)) := hKc.trans hS (fun k hk e => by omega)
              have hBc := blk_kept hBb hS (show ¬ w.heap.size = g3 by omega)
              have hownc := own_kept hown5 hS (fun g hg e => by omega)
              have hGc : (w5.setCell ⟨g3, 1, none⟩ (.slice (some ⟨g5, 0, none⟩) (acc.length + 1) cap5)).heap[g3]? = some (.cells #[.string ⟨b.s.toArray⟩, .slice (some ⟨g5, 0, none⟩) (acc.length + 1) cap5] 38 (0, 0)) := by
                simp [World.setCell, Array.getElem?_modify, hG5]
              have HX := hide (And.intro hLc (And.intro hKd (And.intro hBc (And.intro hownc hGc))))
              clear hKa hKb hXb hKc hLb hBb hS hLc hKd hBc hownc hGc hown4 hown5 hown hgr5 hat5 hG4 hG5 hK4 hK5 hL4 hLr hKr c0 c1 f0 d0 d1 e0 k0 k1 l0 HRF HGr HBr
              obtain ⟨w6, hw6⟩ : ∃ w6, w6 = w5.setCell ⟨g3, 1, none⟩ (.slice (some ⟨g5, 0, none⟩) (acc.length + 1) cap5) := ⟨_, rfl⟩
              rw [← hw6] at HX
              go_wp2_with fail
              rw [← hw6]
              clear hw6
              refine (skip_any _ q r4 125 HX.out.1).mono ?_
              rintro e w7 (⟨y, r5, hr5, hs5, rfl, hL7, hK7⟩ | ⟨hs5, rfl, rfl⟩)
              · obtain ⟨hL6, hK6, hB6, hown6, hG6⟩ := HX.out
                have HE := hide (show pType r = some (⟨b.s, acc ++ [f]⟩, r5) by
                  rw [HP.out, HFR1.out.last HPF.out hs5, hr5]; rfl)
                have hB7 := blk_kept hB6 hK7 hqn.symm
                have hG7 := blk_kept hG6 hK7 (show ¬ g3 = q by omega)
                have hown7 := own_kept hown6 hK7 (fun k hk e => by omega)
                obtain ⟨hput, n0, n1, nf⟩ := put2 hL7 (kq hK6 hK7) hB7 hq (Nat.le_refl _)
                obtain ⟨m0, m1'⟩ := blk2 hG7
                have hw7 : w.heap.size < w7.heap.size := World.block_lt_of_cell? w7 _ n0
                have hg7 : g3 < w7.heap.size := World.block_lt_of_cell? w7 _ m0
                have hgn : g3 ≠ w.heap.size := by omega
                have hgn' : w.heap.size ≠ g3 := by omega
                have HPUT := hide hput
                have HFS := hide (show FldSl (fun b => w.heap.size ≤ b) ((w7.setCell ⟨w.heap.size, 0, none⟩ (.string ⟨b.s.toArray⟩)).setCell ⟨w.heap.size, 1, none⟩ (.slice (some ⟨g5, 0, none⟩) (acc.length + 1) cap5)) (.slice (some ⟨g5, 0, none⟩) (acc.length + 1) cap5) (acc ++ [f]) by
                  have h1 : w7.ownsRow (g3 + 1) 40 3 (.slice (some ⟨g5, 0, none⟩) (acc.length + 1) cap5) (acc ++ [f]).length (fldCells (acc ++ [f])) := by
                    rw [fldCells_snoc, List.length_append]; exact hown7
                  have h2 := (own_flds h1 (by simp; omega)).keep (hput (.string ⟨b.s.toArray⟩) (.slice (some ⟨g5, 0, none⟩) (acc.length + 1) cap5)).2.2 (fun k hk e => by omega)
                  exact h2.mono (fun k _ hk => by omega))
                clear hput hown7 hown6 hG6 hB6 hL6 hK6 hB7 hG7 hK7 hL7 hr5 hs5 HX
                go_wp2_with fail
                refine bodyPost_ret (v := .agg #[.string ⟨b.s.toArray⟩, .slice (some ⟨g5, 0, none⟩) (acc.length + 1) cap5]) (by simp [results, Tryz.results74, go_sem, n0, n1]) rfl (.inl ⟨⟨b.s, acc ++ [f]⟩, r5, _, _, _, HE.out, rfl, HFS.out, ?_⟩)
                exact ⟨(HPUT.out _ _).1, (HPUT.out _ _).2.1⟩
              · have HST := hide (HFR1.out.step HPF.out hs5)
                clear hs5
                go_wp2_with fail
                go_roundg (gk - 1)
                case measure => omega
                case rel =>
                  obtain ⟨hL6, hK6, hB6, hown6, hG6⟩ := HX.out
                  refine ⟨m1, r4, acc ++ [f], _, by omega, by omega, by omega, by simp; omega, hL6, hK6, hB6, hG6, ?_, HST⟩
                  rw [fldCells_snoc, List.length_append]; exact hown6
      · have HE := hide (show pType r = none by rw [HR1.out, HR2.out]; exact pType_none3 hs3)
        clear hs3
        go_wp2_with fail
        exact ⟨rfl, .inr ⟨HE.out, rfl, kq (HK2.out.alloc _) hK3⟩⟩
    · have HE := hide (show pType r = none by rw [HR1.out]; exact pType_none2 hr2)
      clear hr2
      go_wp2_with fail
      exact ⟨rfl, .inr ⟨HE.out, rfl, kq HK1.out hK2⟩⟩
  · have HE := hide (show pType r = none from pType_none1 hr1)
    clear hr1
    go_wp2_with fail
    exact ⟨rfl, .inr ⟨HE.out, rfl, kq HK0.out hK1⟩⟩

end Go.Proofs.YtkkjchfhgjfclabGreatDoor
