/- query.readSelect, whatever comes. -/
import Derived.Test.YtkkjchfhgjfclaaGreatDoorQuerytellsupto22
namespace Go.Proofs.YtkkjchfhgjfclaaGreatDoor
open Go.RowKit

set_option maxRecDepth 20000 in
set_option maxHeartbeats 3200000 in
theorem readSelect_any (f : Nat) (w : World) (q : Nat) (r : List Tok) (h : LineAt w q r) (hlen : r.length ≤ 300) (IH : ∀ (w1 : World) (r2 : List Tok), LineAt w1 q r2 → r2.length + 2 ≤ r.length → RL f w1 q r2) :
    Calls Tryz.prog 65 #[.pointer (some ⟨q, 0, none⟩)] w fun e w' =>
      (∃ p : SelC, ∃ r' aa na ca ak nk ck, pSel1 f r = some ((p.al, p.nm, p.args, p.k), r') ∧ (p.va = .slice aa na ca ∧ p.vk = .slice ak nk ck) ∧ e = .returned (.agg #[.string ⟨p.al.toArray⟩, .string ⟨p.nm.toArray⟩, .slice aa na ca, .slice ak nk ck]) ∧ partsOk (fun b => w.heap.size ≤ b) w' p ∧ LineAt w' q r' ∧ Kept (· = q) w w')
      ∨ (pSel1 f r = none ∧ e = fault 1 ∧ Kept (· = q) w w') := by
  have hq := h.lt
  have hqn : q ≠ w.heap.size := by omega
  have hfl := fld_text
  have HIH := hide IH
  have HA := hide (h.same ((Kept.refl _ w).alloc (.cells #[.string ⟨#[]⟩, .string ⟨#[]⟩, .slice none 0 0, .slice none 0 0] 28)))
  have ht := take1_any _ q r HA.out
  simp only [World.size_alloc] at ht
  have HT := hide ht
  have HK0 := hide (show Kept (· = q) w (w.alloc (.cells #[.string ⟨#[]⟩, .string ⟨#[]⟩, .slice none 0 0, .slice none 0 0] 28)) from (Kept.refl _ w).alloc _)
  have HB0 := hide (heap_alloc_new w (.cells #[.string ⟨#[]⟩, .string ⟨#[]⟩, .slice none 0 0, .slice none 0 0] 28))
  clear h ht IH
  go_enter Tryz.func65, Tryz.ntmps65
  go_wp2_with fail
  refine HT.out.mono ?_
  rintro e w1 (⟨a, r1, hr1, ha, rfl, hL1, hK1⟩ | ⟨hr1, rfl, hK1⟩)
  · have HR1 := hide hr1
    have HA1 := hide ha
    have hl1 : r1.length + 1 ≤ r.length := by rw [hr1]; simp
    obtain ⟨w2, hw2⟩ : ∃ w2, w2 = w1.alloc (.cells #[.string ⟨#[]⟩, .string ⟨a.s.toArray⟩, .slice none 0 0, .slice none 0 0] 28) := ⟨_, rfl⟩
    have kA : Same w1 w2 := by rw [hw2]; exact (Kept.refl _ _).alloc _
    have HK2 := hide (show Kept (· = q) w w2 from (kq HK0.out hK1).trans kA (fun _ _ f => f.elim))
    have HB2 := hide (blk_kept' (blk_kept HB0.out hK1 hqn.symm) kA)
    obtain ⟨g3, hg3⟩ : ∃ g3, g3 = w1.heap.size := ⟨_, rfl⟩
    have HG2 := hide (show w2.heap[g3]? = some (.cells #[.string ⟨#[]⟩, .string ⟨a.s.toArray⟩, .slice none 0 0, .slice none 0 0] 28 (0, 0)) by rw [hw2, hg3]; exact heap_alloc_new w1 _)
    have HL2 := hide (hL1.same kA)
    have hsz : w.heap.size < g3 := by
      have := (Array.getElem?_eq_some_iff.1 (blk_kept HB0.out hK1 hqn.symm)).1
      omega
    obtain ⟨bc, hbc⟩ : ∃ bc, isS 58 r1 = bc := ⟨_, rfl⟩
    have HSB := hide (skip_b w2 q r1 58 HL2.out bc hbc)
    have HBC := hide hbc
    clear hr1 ha hK1 HT HA HK0 HB0 kA hL1 hbc
    go_wp2_with fail
    rw [← hw2, ← hg3]
    clear hw2 hg3
    refine HSB.out.mono ?_
    rintro e w3 ⟨rfl, hL3, hK3⟩
    have hW3 : SelW w w3 q g3 (bif bc then r1.tail else r1) [] a.s (.slice none 0 0) (.slice none 0 0) :=
      ⟨hL3, kq HK2.out hK3, blk_kept HB2.out hK3 hqn.symm, blk_kept HG2.out hK3 (by omega)⟩
    clear hL3 hK3 HK2 HB2 HG2 HL2 HSB
    go_upto_if 10 with fail
    go_cut [] (fun wx => ∃ al nm r2, Hid (pName r = some ((al, nm), r2)) ∧ r2.length + 1 ≤ r.length ∧ SelW w wx q g3 r2 al nm (.slice none 0 0) (.slice none 0 0))
    case first =>
      cases bc with
      | false =>
        go_wp2_with fail
        go_meet
        case rel => exact ⟨[], a.s, r1, by rw [Hid, HR1.out]; exact pName_plain HA1.out HBC.out, by omega, hW3⟩
      | true =>
        obtain ⟨c0, c1, c2, c3, f0, hgl⟩ := hW3.cells
        have hl2 := isS_len1 HBC.out
        by_cases hb : ∃ b r2, r1.tail = b :: r2 ∧ b.k = 1
        · obtain ⟨b, r2, hr2, hbk⟩ := hb
          have HTB := hide (takesB_of (show LineAt w3 q (b :: r2) by rw [← hr2]; exact hW3.1) hbk)
          have HPN := hide (show pName r = some ((a.s, b.s), r2) by rw [HR1.out]; exact pName_alias HA1.out HBC.out hr2 hbk)
          have hl3 : r2.length + 1 ≤ r.length := by
            have : r2.length + 1 = r1.tail.length := by rw [hr2]; rfl
            omega
          have HGQ := hide (show ¬ g3 = q by omega)
          clear hr2 hbk hl2
          go_wp2_with fail
          go_region_law (refine step_call rfl 99 _ _ rfl #[.pointer (some ⟨q, 0, none⟩), .slice (some ⟨w3.heap.size, 0, none⟩) 1 1] (by simp [Act.eval, Act.put]) (enters_take _) (HTB.out _ (by repeat' (first | assumption | exact Kept.refl _ _ | refine Kept.drewN ?_ _ | refine Kept.drew ?_ | refine Kept.alloc ?_ _ | refine Kept.setB ?_ _ _)) _ (by first | exact IntSl.new1 _ 1 _ | exact (IntSl.new1 _ 1 _).same (Kept.refl _ _).drew | exact (IntSl.new1 _ 1 _).same ((Kept.refl _ _).drewN _))) ?_; rintro e w4 ⟨rfl, hL4, hK4⟩; refine ⟨_, rfl, ?_⟩; have hW4 := hW3.step hK4 hL4 hq hsz; clear hL4 hK4; obtain ⟨d0, d1, d2, d3, e0, hgl4⟩ := hW4.cells)
          all_goals
            go_wp2_with fail
            go_meet
            case rel => exact ⟨a.s, b.s, r2, HPN, hl3, (hW4.put0 a.s hq hsz).put1 b.s hq hsz⟩
        · have hb' : ∀ t r', r1.tail = t :: r' → t.k ≠ 1 := fun t r' e k => hb ⟨t, r', e, k⟩
          have HDB := hide (diesB_of (show LineAt w3 q r1.tail from hW3.1) hW3.2.1 hb')
          have HE := hide (show pSel1 f r = none by rw [pSel1, HR1.out, pName_n2 HA1.out HBC.out hb'])
          clear hb hb' hl2
          go_wp2_with fail
          refine wp_region_any (by kernel_rfl) ?_
          change wpAny _ _ _ _ _ _ _ (World.drew _)
          refine wpAny_take (i := 0) (v := .pointer (some ⟨g3, 1, none⟩)) rfl (by kernel_rfl) (by kernel_rfl) (by kernel_rfl) (fun _ _ _ h => h) (Or.inl ⟨by rfl, by intro w; go_simp⟩) ?_
          refine wpAny_take (i := 2) (v := .pointer (some ⟨q, 0, none⟩)) rfl (by kernel_rfl) (by kernel_rfl) (by kernel_rfl) (fun _ _ _ h => h) (Or.inl ⟨by rfl, by intro w; go_simp⟩) ?_
          refine wpAny_ready (rs := [1, 3]) (by kernel_rfl) (by simp) ?_
          refine AllReady.cons rfl (fun K hK => ?_) (AllReady.cons rfl (fun K hK => ?_) AllReady.nil)
          · go_simp
            refine hK _ _ ?_
            clear hK K
            refine wpAny_take (i := 6) (v := .pointer (some ⟨g3, 0, none⟩)) rfl (by kernel_rfl) (by kernel_rfl) (by kernel_rfl) (fun _ _ _ h => h) (Or.inl ⟨by rfl, by intro w; go_simp⟩) ?_
            refine wpAny_ready (rs := [3]) (by kernel_rfl) (by simp) ?_
            refine AllReady.cons rfl (fun K hK => ?_) AllReady.nil
            go_simp
            refine hK _ _ ?_
            clear hK K
            refine wpAny_ready (rs := [4]) (by kernel_rfl) (by simp) ?_
            refine AllReady.cons rfl (fun K hK => ?_) AllReady.nil
            refine step_dies rfl 99 _ _ rfl #[.pointer (some ⟨q, 0, none⟩), .slice (some ⟨w3.heap.size, 0, none⟩) 1 1] (by simp [Act.eval]) (enters_take _) (HDB.out _ (by repeat' (first | assumption | exact Kept.refl _ _ | refine Kept.drewN ?_ _ | refine Kept.drew ?_ | refine Kept.alloc ?_ _ | refine Kept.setB ?_ _ _)) _ (by first | exact IntSl.new1 _ 1 _ | exact (IntSl.new1 _ 1 _).same (Kept.refl _ _).drew | exact (IntSl.new1 _ 1 _).same ((Kept.refl _ _).drewN _))) ?_
            rintro e w4 ⟨rfl, hKf⟩
            exact ⟨_, rfl, rfl, .inr ⟨HE.out, rfl, hKf⟩⟩
          · go_simp
            refine hK _ _ ?_
            clear hK K
            refine wpAny_ready (rs := [1, 4]) (by kernel_rfl) (by simp) ?_
            refine AllReady.cons rfl (fun K hK => ?_) (AllReady.cons rfl (fun K hK => ?_) AllReady.nil)
            · go_simp
              refine hK _ _ ?_
              clear hK K
              refine wpAny_take (i := 6) (v := .pointer (some ⟨g3, 0, none⟩)) rfl (by kernel_rfl) (by kernel_rfl) (by kernel_rfl) (fun _ _ _ h => h) (Or.inl ⟨by rfl, by intro w; go_simp⟩) ?_
              refine wpAny_ready (rs := [4]) (by kernel_rfl) (by simp) ?_
              refine AllReady.cons rfl (fun K hK => ?_) AllReady.nil
              refine step_dies rfl 99 _ _ rfl #[.pointer (some ⟨q, 0, none⟩), .slice (some ⟨w3.heap.size, 0, none⟩) 1 1] (by simp [Act.eval, Act.put]) (enters_take _) (HDB.out _ (by repeat' (first | assumption | exact Kept.refl _ _ | refine Kept.drewN ?_ _ | refine Kept.drew ?_ | refine Kept.alloc ?_ _ | refine Kept.setB ?_ _ _)) _ (by first | exact IntSl.new1 _ 1 _ | exact (IntSl.new1 _ 1 _).same (Kept.refl _ _).drew | exact (IntSl.new1 _ 1 _).same ((Kept.refl _ _).drewN _))) ?_
              rintro e w4 ⟨rfl, hKf⟩
              exact ⟨_, rfl, rfl, .inr ⟨HE.out, rfl, hKf⟩⟩
            · refine step_dies rfl 99 _ _ rfl #[.pointer (some ⟨q, 0, none⟩), .slice (some ⟨w3.heap.size, 0, none⟩) 1 1] (by simp [Act.eval]) (enters_take _) (HDB.out _ (by repeat' (first | assumption | exact Kept.refl _ _ | refine Kept.drewN ?_ _ | refine Kept.drew ?_ | refine Kept.alloc ?_ _ | refine Kept.setB ?_ _ _)) _ (by first | exact IntSl.new1 _ 1 _ | exact (IntSl.new1 _ 1 _).same (Kept.refl _ _).drew | exact (IntSl.new1 _ 1 _).same ((Kept.refl _ _).drewN _))) ?_
              rintro e w4 ⟨rfl, hKf⟩
              exact ⟨_, rfl, rfl, .inr ⟨HE.out, rfl, hKf⟩⟩
    case rest =>
    obtain ⟨al, nm, r2, HPN, hl2, hW⟩ := hcut
    clear hW3 HBC HR1 HA1 hl1
    obtain ⟨b2, hb2⟩ : ∃ b2, isS 40 r2 = b2 := ⟨_, rfl⟩
    have HSB := hide (skip_b wc q r2 40 hW.1 b2 hb2)
    have HBC := hide hb2
    clear hb2
    go_wp2_with fail
    refine HSB.out.mono ?_
    rintro e w4 ⟨rfl, hL4, hK4⟩
    have hW4 := hW.step hK4 hL4 hq hsz
    clear hL4 hK4 HSB hW
    go_upto_if 20 with fail
    go_cut [] (fun wx => ∃ args r3 aa na ca, Hid (pOpt r2 = some (args, r3)) ∧ r3.length + 1 ≤ r.length ∧ SelW w wx q g3 r3 al nm (.slice aa na ca) (.slice none 0 0) ∧ Hid (ArgSlP (fun b => g3 < b) wx (.slice aa na ca) args))
    case first =>
      cases b2 with
      | false =>
        go_wp2_with fail
        go_meet
        case rel => exact ⟨[], r2, none, 0, 0, by rw [Hid, pOpt, if_neg (by rw [HBC.out]; simp)], hl2, hW4, ArgSlP.nil _ _⟩
      | true =>
        have hlt := isS_len1 HBC.out
        have hW5 : SelW w w4 q g3 r2.tail al nm (.slice none 0 0) (.slice none 0 0) := hW4
        have HRA := hide (readArgs_any w4 q r2.tail hW5.1 (by omega))
        obtain ⟨c0, c1, c2, c3, f0, hgl⟩ := hW5.cells
        clear hW4
        go_wp2_with fail
        refine HRA.out.mono ?_
        rintro e w5 (⟨args, r3, v, hp, rfl, hA5, hL5, hK5⟩ | ⟨hp, rfl, hK5⟩)
        · have HPO := hide (show pOpt r2 = some (args, r3) by rw [pOpt, if_pos HBC.out]; exact hp)
          have hl3 : r3.length ≤ r2.tail.length := by have := (pArgs_len _ _ _ _ hp).2; omega
          obtain ⟨aa, ca, hv, _⟩ := id hA5
          subst hv
          have hW6 := hW5.step hK5 hL5 hq hsz
          obtain ⟨d0, d1, d2, d3, e0, hgl5⟩ := hW6.cells
          have HA5 := hide (hA5.keep ((Kept.refl (· = g3) w5).setB 2 (.slice aa args.length ca)) (Q := fun b => g3 < b) (fun b _ hb => ⟨by omega, by omega⟩))
          clear hp hA5 hL5 hK5
          go_wp2_with fail
          go_meet
          case rel => exact ⟨args, r3, aa, _, ca, HPO, by omega, hW6.put2 _ hq hsz, HA5⟩
        · have HE := hide (show pSel1 f r = none by rw [pSel1, HPN.out]; simp only; rw [pOpt, if_pos HBC.out, hp])
          have hK6 := kq hW5.2.1 hK5
          clear hp hK5
          go_wp2_with fail
          exact ⟨rfl, .inr ⟨HE.out, rfl, hK6⟩⟩
    case rest =>
    obtain ⟨args, r3, aa, na, ca, HPO, hl3, hW, HA⟩ := hcut
    clear hW4 HBC hl2
    obtain ⟨b3, hb3⟩ : ∃ b3, isS 123 r3 = b3 := ⟨_, rfl⟩
    have HSB := hide (skip_b wc q r3 123 hW.1 b3 hb3)
    have HBC := hide hb3
    clear hb3
    go_wp2_with fail
    refine HSB.out.mono ?_
    rintro e w4 ⟨rfl, hL4, hK4⟩
    have hW4 := hW.step hK4 hL4 hq hsz
    have HA4 := hide (HA.out.keep hK4 (Q := fun b => g3 < b) (fun b _ hb => ⟨by omega, hb⟩))
    clear hL4 hK4 HSB hW HA
    go_upto_if 25 with fail
    go_cut [] (fun wx => ∃ k r4 ak nk ck, Hid (pSel1 f r = some ((al, nm, args, k), r4)) ∧ SelW w wx q g3 r4 al nm (.slice aa na ca) (.slice ak nk ck) ∧ Hid (ArgSlP (fun b => g3 < b) wx (.slice aa na ca) args) ∧ Hid (SelSlP (fun b => g3 < b) wx (.slice ak nk ck) k))
    case first =>
      cases b3 with
      | false =>
        go_wp2_with fail
        go_meet
        case rel => exact ⟨.nil, r3, none, 0, 0, by rw [Hid, pSel1, HPN.out]; simp only; rw [HPO.out]; simp only; rw [if_neg (by rw [HBC.out]; simp)]; rfl, hW4, HA4, SelSlP.nil _ _⟩
      | true =>
        have hlt := isS_len1 HBC.out
        have hW5 : SelW w w4 q g3 r3.tail al nm (.slice aa na ca) (.slice none 0 0) := hW4
        have HRA := hide (HIH.out w4 r3.tail hW5.1 (by omega))
        obtain ⟨c0, c1, c2, c3, f0, hgl⟩ := hW5.cells
        clear hW4
        go_wp2_with fail
        refine HRA.out.mono ?_
        rintro e w5 (⟨k, r4, v, hp, rfl, hS5, hL5, hK5⟩ | ⟨hp, rfl, hK5⟩)
        · have HPO := hide (show pSel1 f r = some ((al, nm, args, k), r4) by rw [pSel1, HPN.out]; simp only; rw [HPO.out]; simp only; rw [if_pos HBC.out, hp]; rfl)
          obtain ⟨ak, ck, hv, _⟩ := id hS5
          subst hv
          have hW6 := hW5.step hK5 hL5 hq hsz
          obtain ⟨d0, d1, d2, d3, e0, hgl5⟩ := hW6.cells
          have HS5 := hide (hS5.keep ((Kept.refl (· = g3) w5).setB 3 (.slice ak k.len ck)) (Q := fun b => g3 < b) (fun b _ hb => ⟨by omega, by omega⟩))
          have HA5 := hide ((HA4.out.keep hK5 (Q := fun b => g3 < b) (fun b _ hb => ⟨by omega, hb⟩)).keep ((Kept.refl (· = g3) w5).setB 3 (.slice ak k.len ck)) (Q := fun b => g3 < b) (fun b _ hb => ⟨by omega, hb⟩))
          clear hp hS5 hL5 hK5
          go_wp2_with fail
          go_meet
          case rel => exact ⟨k, r4, ak, _, ck, HPO, hW6.put3 _ hq hsz, HA5, HS5⟩
        · have HE := hide (show pSel1 f r = none by rw [pSel1, HPN.out]; simp only; rw [HPO.out]; simp only; rw [if_pos HBC.out, hp]; rfl)
          have hK6 := kq hW5.2.1 hK5
          clear hp hK5
          go_wp2_with fail
          exact ⟨rfl, .inr ⟨HE.out, rfl, hK6⟩⟩
    case rest =>
    obtain ⟨k, r4, ak, nk, ck, HP, hW, HA, HS⟩ := hcut
    obtain ⟨c0, c1, c2, c3, f0, hgl⟩ := hW.cells
    obtain ⟨hput, n0, n1, n2, n3, nf⟩ := put4n hW.1 hW.2.1 hW.2.2.1 hq (Nat.le_refl _)
    have hw7 : w.heap.size < wc.heap.size := by omega
    have hgn : g3 ≠ w.heap.size := by omega
    have hgn' : w.heap.size ≠ g3 := by omega
    have HPUT := hide hput
    clear hput hW hW4 HBC HA4
    go_wp2_with fail
    refine bodyPost_ret (v := .agg #[.string ⟨al.toArray⟩, .string ⟨nm.toArray⟩, .slice aa na ca, .slice ak nk ck]) (by simp [results, Tryz.results65, go_sem, n0, n1, n2, n3]) rfl (.inl ⟨⟨al, nm, args, k, .slice aa na ca, .slice ak nk ck⟩, r4, aa, na, ca, ak, nk, ck, HP.out, ⟨rfl, rfl⟩, rfl, ?_, ?_⟩)
    · exact ⟨HA.out.keep (HPUT.out _ _ _ _).2.2 (fun b _ hb => ⟨by omega, by omega⟩), HS.out.keep (HPUT.out _ _ _ _).2.2 (fun b _ hb => ⟨by omega, by omega⟩)⟩
    · exact ⟨(HPUT.out _ _ _ _).1, (HPUT.out _ _ _ _).2.1⟩
  · have HE := hide (show pSel1 f r = none by rw [pSel1, pName_n1 hr1])
    clear hr1
    go_wp2_with fail
    exact ⟨rfl, .inr ⟨HE.out, rfl, kq HK0.out hK1⟩⟩

end Go.Proofs.YtkkjchfhgjfclaaGreatDoor
