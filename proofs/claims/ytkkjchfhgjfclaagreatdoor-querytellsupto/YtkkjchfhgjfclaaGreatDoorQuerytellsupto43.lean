/- The reference's selectsAt. -/
import Derived.Test.YtkkjchfhgjfclaaGreatDoorQuerytellsupto38
import Derived.Test.YtkkjchfhgjfclaaGreatDoorQuerytellsupto42
import Derived.Deep.CutRange
import Derived.Deep.CutBlock
import Derived.Deep.RegionHeld3
import Derived.Deep.AppendLies
namespace Go.Proofs.YtkkjchfhgjfclaaGreatDoor
open Go.RowKit

/-- what selectsAt answers, with f left -/
def SA (f : Nat) (w : World) (T : List Tok) (k : Nat) (e : Ending) (w' : World) : Prop :=
  (∃ s v k2, isS 123 (T.drop k) = true ∧ pSels f (T.drop (k + 1)) = some (s, T.drop k2) ∧ (k + 2 ≤ k2 ∧ k2 ≤ T.length) ∧ e = .returned (.tuple #[v, .int .i64 ((k2 : Nat) : Int)]) ∧ SelSlP (fun b => w.heap.size ≤ b) w' v s ∧ Same w w')
  ∨ ((isS 123 (T.drop k) = false ∨ pSels f (T.drop (k + 1)) = none) ∧ e = .returned (.tuple #[.slice none 0 0, .int .i64 (-1)]) ∧ Same w w')

def SBx (al nm : List UInt8) (va vk : Value) : Obj := .cells #[.string ⟨al.toArray⟩, .string ⟨nm.toArray⟩, va, vk] 28 (0, 0)

theorem frz_of {w : World} {g : Nat} {cs : Array Value} {t : TypeId} (h : w.heap[g]? = some (.cells cs t (0, 0))) (o : Nat) : w.frozen? ⟨g, o, none⟩ = false := by simp [World.frozen?, h]

set_option maxRecDepth 20000 in
set_option maxHeartbeats 25600000 in
theorem selAt_step (f : Nat) (IH : ∀ f', f' < f → ∀ (w : World) (v : Value) (T : List Tok) (k : Nat), TokSl w v T → T.length ≤ 300 → k ≤ 300 → T.length ≤ f' + (k + 1) → Calls Tryz.prog 25 #[v, .int .i64 ((k : Nat) : Int)] w (SA f' w T k))
    (w : World) (v : Value) (T : List Tok) (k : Nat) (h : TokSl w v T) (hT : T.length ≤ 300) (hk : k ≤ 300) (hf : T.length ≤ f + (k + 1)) : Calls Tryz.prog 25 #[v, .int .i64 ((k : Nat) : Int)] w (SA f w T k) := by
  obtain ⟨ao, cap, rfl, _, _⟩ := id h
  have HTS := hide (show ∀ wx, Same w wx → TokSl wx (.slice ao T.length cap) T from fun wx hk => h.same hk)
  have HIH := hide IH
  clear h IH
  cases h0 : isS 123 (T.drop k) with
  | false =>
    have H0 := hide h0
    clear h0
    go_enter Tryz.func25, Tryz.ntmps25
    go_wp2_with fail
    refine (isTok_i _ _ T (HTS.out _ (Kept.refl _ _)) _ k rfl 123 _ H0.out).mono ?_
    rintro e w3 ⟨rfl, rfl⟩
    go_wp2_with fail
    go_ret2
    exact .inr ⟨.inl H0.out, rfl, Kept.refl _ _⟩
  | true =>
  have hkT := isS_lt h0
  have H0 := hide h0
  clear h0
  obtain ⟨i0, hi, hz0, hz1, hz2⟩ := info_parts infoSel
  obtain ⟨i1, hi1, hy0, hy1, hy2⟩ := info_parts infoA
  go_enter Tryz.func25, Tryz.ntmps25
  go_wp2_with fail
  refine (isTok_i _ _ T (HTS.out _ (Kept.refl _ _)) _ k rfl 123 _ H0.out).mono ?_
  rintro e w3 ⟨rfl, hw3⟩
  rw [hw3]
  clear hw3
  go_wp2_with fail
  go_loopg [1, 6, 7] (f + 1) (fun g av ov fv wr => ∃ (m kk : Nat) (fst : Bool) (acc : List SelC), m + 1 ≤ g ∧ g ≤ m + 1 ∧ m ≤ f ∧ T.length ≤ m + kk ∧ kk ≤ T.length ∧ k + 1 ≤ kk ∧ acc.length ≤ kk ∧ av = .int .i64 kk ∧ fv = .bool fst ∧ Hid (Same w wr) ∧ Hid (wr.ownsRow w.heap.size 28 4 ov acc.length (selCells acc)) ∧ Hid (∀ p ∈ acc, partsOk (fun b => w.heap.size ≤ b ∧ some b ≠ ov.ownBlock) wr p) ∧ Hid (xRel T f (T.drop (k + 1)) fst m kk acc))
  case atStart => exact ⟨f, k + 1, true, [], by omega, by omega, by omega, by omega, by omega, by omega, by simp, by go_num, rfl, Kept.refl _ _, World.ownsRow_nil _ _ _ _, (fun p hp => by cases hp), xRel.start T f (k + 1)⟩
  case round =>
    obtain ⟨m, kk, fst, acc, hm1, hm2, hmf, hmk, hkkT, hk1, hak, rfl, rfl, HKr, HOr, HPr, HXR⟩ := hrel
    obtain ⟨ao3, cap3, hv3⟩ := own_slice HOr.out
    subst hv3
    obtain ⟨wo, hwo⟩ : ∃ wo, wo = wr := ⟨_, rfl⟩
    subst hwo
    go_upto_region 6 with fail
    go_cut [25] from 19 to 150 (fun v wx => wx = wo ∧ v = .bool (fst || !isS 125 (T.drop kk)))
    case first =>
      cases fst
      · go_wp2_with fail
        refine (isTok_i _ _ T (HTS.out _ HKr.out) _ kk rfl 125 _ rfl).mono ?_
        rintro e w3 ⟨rfl, hw3⟩
        rw [hw3]
        clear hw3
        go_wp2_with fail
        go_meet
        case rel => exact ⟨rfl, by simp⟩
      · go_wp2_with fail
        go_meet
        case rel => exact ⟨rfl, rfl⟩
    case rest =>
    obtain ⟨hwc, rfl⟩ := hcut
    rw [hwc]
    clear hwc
    cases hq : (fst || !isS 125 (T.drop kk)) with
    | false =>
      obtain ⟨ho0, hs0⟩ : fst = false ∧ isS 125 (T.drop kk) = true := by simpa using hq
      subst ho0
      clear hq
      have hkl7 := isS_lt hs0
      have HPP := hide (HXR.out.done hs0)
      have HSS := hide (own_sels HOr.out (by omega) (fun p hp => (HPr.out p hp).keep (Kept.refl (fun _ => False) _) (fun b _ hb => ⟨fun f => f, hb.1⟩)))
      clear hs0 HXR
      go_wp2_with fail
      go_ret2
      exact .inl ⟨_, _, kk + 1, H0.out, HPP.out, ⟨by omega, by omega⟩, by simp, HSS.out, HKr.out⟩
    | true =>
    have HSR := hide (show sRel f (T.drop (k + 1)) m (T.drop kk) acc by
      cases fst with
      | true => exact HXR.out.more
      | false => exact HXR.out.more2 (by simpa using hq))
    clear HXR hq
    have HBAD := hide (show (∀ x, pSel1 x (T.drop kk) = none) → pSels f (T.drop (k + 1)) = none from fun hp => HSR.out.bad (hp _))
    have HW := hide (fun wx (hk : Same wo wx) (x : Int) (i : Nat) (hx : x = (i : Int)) (q : Bool) (hq : isN (T.drop i) = q) => isWord_i wx _ T (HTS.out wx (tra HKr.out hk)) x i hx q hq)
    have HTK := hide (fun wx (hk : Same wo wx) (x : Int) (i : Nat) (hx : x = (i : Int)) (c : UInt8) (q : Bool) (hq : isS c (T.drop i) = q) => isTok_i wx _ T (HTS.out wx (tra HKr.out hk)) x i hx c q hq)
    cases h1 : isN (T.drop kk) with
    | false =>
      have HE := hide (HBAD.out (fun x => pSel1_w1 (pName_w1 h1)))
      have H1 := hide h1
      clear h1
      go_wp2_with fail
      refine (HW.out _ (Kept.refl _ _) _ kk rfl _ H1.out).mono ?_
      rintro e w3 ⟨rfl, hw3⟩
      rw [hw3]
      clear hw3
      go_wp2_with fail
      go_ret2
      exact .inr ⟨.inr HE.out, rfl, HKr.out⟩
    | true =>
    have hkl := isN_lt h1
    obtain ⟨b0, o0, hao, x0, x1, x2⟩ := (HTS.out wo HKr.out).at kk hkl
    subst hao
    have H1 := hide h1
    clear h1
    obtain ⟨nm0, hnm0⟩ : ∃ nm0, nm0 = T[kk].s := ⟨_, rfl⟩
    rw [← hnm0] at x1
    have HNM0 := hide hnm0
    clear hnm0
    obtain ⟨m1, hm1e⟩ : ∃ m1, m = m1 + 1 := ⟨m - 1, by omega⟩
    have HSR1 : Hid (sRel f (T.drop (k + 1)) (m1 + 1) (T.drop kk) acc) := by rw [← hm1e]; exact HSR
    have hmle : m ≤ m1 + 1 := by omega
    have hmge : m1 + 1 ≤ m := by omega
    clear hm1e HSR
    obtain ⟨G, hG1, hG2⟩ : ∃ G, G ≤ gk ∧ gk ≤ G := ⟨gk, Nat.le_refl _, Nat.le_refl _⟩
    go_wp2_with fail
    refine (HW.out _ (Kept.refl _ _) _ kk rfl _ H1.out).mono ?_
    rintro e w3 ⟨rfl, hw3⟩
    rw [hw3]
    clear hw3
    go_wp2_with fail
    clear x0 x1 x2
    obtain ⟨g, hgg⟩ : ∃ g, g = wo.heap.size := ⟨_, rfl⟩
    have hgo := HKr.out.size
    rw [← hgg] at hgo
    have HB0 := hide (heap_alloc_new wo (.cells #[.string ⟨#[]⟩, .string ⟨nm0.toArray⟩, .slice none 0 0, .slice none 0 0] 28))
    obtain ⟨w1, hw1⟩ : ∃ w1, w1 = wo.alloc (.cells #[.string ⟨#[]⟩, .string ⟨nm0.toArray⟩, .slice none 0 0, .slice none 0 0] 28) := ⟨_, rfl⟩
    have HK1 := hide (show Same wo w1 by rw [hw1]; exact (Kept.refl _ wo).alloc _)
    rw [← hw1, ← hgg] at HB0
    rw [← hw1, ← hgg]
    have HGG := hide hgg
    clear hgg hw1
    obtain ⟨q2, h2⟩ : ∃ q2, isS 58 (T.drop (kk + 1)) = q2 := ⟨_, rfl⟩
    have H2 := hide h2
    clear h2
    refine (HTK.out _ HK1.out _ (kk + 1) (by omega) _ _ H2.out).mono ?_
    rintro e w3 ⟨rfl, hw3⟩
    rw [hw3]
    clear hw3
    go_upto_if 40 with fail
    go_cut [1] from 19 to 150 (fun av wx => ∃ (k1 : Nat) (al nm : List UInt8), av = .int .i64 k1 ∧ kk + 1 ≤ k1 ∧ k1 ≤ T.length ∧ Hid (pName (T.drop kk) = some ((al, nm), T.drop k1)) ∧ Hid (Same wo wx) ∧ Hid (wx.heap[g]? = some (SBx al nm (.slice none 0 0) (.slice none 0 0))))
    case first =>
      cases q2
      · have HPN := hide (pName_w2 H1.out H2.out)
        rw [← HNM0.out] at HPN
        go_wp2_with fail
        go_meet
        case rel => exact ⟨kk + 1, [], nm0, by go_num, by omega, by omega, HPN.out, HK1.out, HB0.out⟩
      · have hkl2 := isS_lt H2.out
        cases h3 : isN (T.drop (kk + 2)) with
        | false =>
          have HE := hide (HBAD.out (fun x => pSel1_w1 (pName_w3 H1.out H2.out h3)))
          have H3 := hide h3
          clear h3
          go_wp2_with fail
          refine (HW.out _ HK1.out _ (kk + 2) (by omega) _ H3.out).mono ?_
          rintro e w3 ⟨rfl, hw3⟩
          rw [hw3]
          clear hw3
          go_wp2_with fail
          go_ret2
          exact .inr ⟨.inr HE.out, rfl, tra HKr.out HK1.out⟩
        | true =>
          have hkl3 := isN_lt h3
          have HPN := hide (pName_w4 H1.out H2.out h3)
          have H3 := hide h3
          obtain ⟨b9, o9, e9, y0, _, _⟩ := (HTS.out wo HKr.out).at (kk + 2) hkl3
          cases e9
          have hbg : b0 < g := by have h1 := World.block_lt_of_cell? wo _ y0; have h2 := HGG.out; simp at h1; omega
          clear y0
          obtain ⟨b9, o9, e9, x0, x1, x2⟩ := (HTS.out w1 (tra HKr.out HK1.out)).at (kk + 2) hkl3
          cases e9
          obtain ⟨nm1, hnm1⟩ : ∃ nm1, nm1 = T[kk + 2].s := ⟨_, rfl⟩
          rw [← HNM0.out, ← hnm1] at HPN
          rw [← hnm1] at x1
          have hB0 : w1.heap[g]? = some (.cells #[.string ⟨#[]⟩, .string ⟨nm0.toArray⟩, .slice none 0 0, .slice none 0 0] 28 (0, 0)) := HB0.out
          obtain ⟨p0, p1, p2, p3⟩ := cells4 hB0
          have pf := frz_of hB0
          have hgw : g < w1.heap.size := (Array.getElem?_eq_some_iff.1 hB0).1
          have HX := hide (show ∀ wx, wx = (w1.setCell ⟨g, 0, none⟩ (.string ⟨nm0.toArray⟩)).setCell ⟨g, 1, none⟩ (.string ⟨nm1.toArray⟩) → Same wo wx ∧ wx.heap[g]? = some (SBx nm0 nm1 (.slice none 0 0) (.slice none 0 0)) from fun wx e => by
            rw [e]
            exact ⟨(HK1.out.setCell (p := ⟨g, 0, none⟩) (fun hh => by have h1 : g < wo.heap.size := hh; have := HGG.out; omega) _).setCell (p := ⟨g, 1, none⟩) (fun hh => by have h1 : g < wo.heap.size := hh; have := HGG.out; omega) _, by simp [World.setCell, Array.getElem?_modify, hB0, SBx]⟩)
          clear hnm1 h3 x0 x2 hB0
          go_wp2_with fail
          refine (HW.out _ HK1.out _ (kk + 2) (by omega) _ H3.out).mono ?_
          rintro e w3 ⟨rfl, hw3⟩
          rw [hw3]
          clear hw3
          go_wp2_with fail
          go_region
          go_wp2_with fail
          go_meet
          case rel => exact ⟨kk + 3, nm0, nm1, by go_num, by omega, by omega, HPN.out, (HX.out _ rfl).1.drew, (HX.out _ rfl).2⟩
    case rest =>
    obtain ⟨k1, al, nm, rfl, hk1a, hk1b, HPN, HKc, HBc⟩ := hcut
    clear H2 HB0 HK1 HNM0 H1
    obtain ⟨w2, hw2⟩ : ∃ w2, w2 = wc := ⟨_, rfl⟩
    subst hw2
    obtain ⟨q3, h3⟩ : ∃ q3, isS 40 (T.drop k1) = q3 := ⟨_, rfl⟩
    have H3 := hide h3
    clear h3
    go_wp2_with fail
    refine (HTK.out _ HKc.out _ k1 rfl _ _ H3.out).mono ?_
    rintro e w3 ⟨rfl, hw3⟩
    rw [hw3]
    clear hw3
    go_upto_if 60 with fail
    go_cut [1] from 19 to 150 (fun av wx => ∃ (k2 : Nat) (args : List ArgT) (aa : Option Addr) (na ca : Nat), av = .int .i64 k2 ∧ kk + 1 ≤ k2 ∧ k2 ≤ T.length ∧ Hid (pOpt (T.drop k1) = some (args, T.drop k2)) ∧ Hid (Same wo wx) ∧ Hid (wx.heap[g]? = some (SBx al nm (.slice aa na ca) (.slice none 0 0))) ∧ Hid (ArgSlP (fun b => g < b) wx (.slice aa na ca) args))
    case first =>
      cases q3
      · have HPO := hide (pOpt_w1 H3.out)
        go_wp2_with fail
        go_meet
        case rel => exact ⟨k1, [], none, 0, 0, rfl, by omega, by omega, HPO.out, HKc.out, HBc.out, ArgSlP.nil _ _⟩
      · have hkl4 := isS_lt H3.out
        have HPO := hide (pOpt_w2 H3.out)
        have HEA := hide (show pArgs (T.drop (k1 + 1)).length (T.drop (k1 + 1)) = none → pSels f (T.drop (k + 1)) = none from fun hp => HBAD.out (fun x => pSel1_w2 HPN.out (by rw [HPO.out, hp])))
        go_wp2_with fail
        go_loopg [1, 9] (T.length - (k1 + 1) + 1) (fun gg av ov wx => ∃ (m2 k2 : Nat) (one : Bool) (fa : List ArgT) (v : Value), m2 + 1 ≤ gg ∧ gg ≤ m2 + 1 ∧ T.length ≤ m2 + k2 ∧ k1 + 1 ≤ k2 ∧ k2 ≤ T.length ∧ fa.length ≤ k2 ∧ av = .int .i64 k2 ∧ ov = .bool one ∧ Hid (Same wo wx) ∧ Hid (wx.heap[g]? = some (SBx al nm v (.slice none 0 0))) ∧ Hid (wx.ownsRow (g + 1) 63 4 v fa.length (argCells fa)) ∧ Hid (jRel T (T.drop (k1 + 1)) one m2 k2 fa))
        case atStart =>
          refine ⟨T.length - (k1 + 1), k1 + 1, true, [], .slice none 0 0, by omega, by omega, by omega, by omega, by omega, by simp, by go_num, rfl, HKc.out, HBc.out, World.ownsRow_nil _ _ _ _, ?_⟩
          have := jRel.start T (k1 + 1)
          rw [List.length_drop] at this
          exact this
        case round =>
          obtain ⟨m2, k2, one, fa, v, hn1, hn2, hmk2, hk3, hk2T, hfa, rfl, rfl, HKx, HBx, HOx, HJR⟩ := hrel
          obtain ⟨ao5, cap5, hv5⟩ := own_slice HOx.out
          subst hv5
          obtain ⟨wi, hwi⟩ : ∃ wi, wi = wr := ⟨_, rfl⟩
          subst hwi
          go_upto_region 20 with fail
          go_cut [69] from 63 to 130 (fun v wx => wx = wi ∧ v = .bool (one || !isS 41 (T.drop k2)))
          case first =>
            cases one
            · go_wp2_with fail
              refine (HTK.out _ HKx.out _ k2 rfl 41 _ rfl).mono ?_
              rintro e w3 ⟨rfl, hw3⟩
              rw [hw3]
              clear hw3
              go_wp2_with fail
              go_meet
              case rel => exact ⟨rfl, by simp⟩
            · go_wp2_with fail
              go_meet
              case rel => exact ⟨rfl, rfl⟩
          case rest =>
          obtain ⟨hwc, rfl⟩ := hcut
          rw [hwc]
          clear hwc
          cases hq : (one || !isS 41 (T.drop k2)) with
          | false =>
            obtain ⟨ho0, hs0⟩ : one = false ∧ isS 41 (T.drop k2) = true := by simpa using hq
            subst ho0
            clear hq
            have hkl7 := isS_lt hs0
            have HPP := hide (show pOpt (T.drop k1) = some (fa, T.drop (k2 + 1)) by rw [HPO.out]; exact HJR.out.done hs0)
            have HAR := hide ((own_args HOx.out (by omega)).keep (Kept.refl (fun _ => False) _) (Q := fun b => g < b) (fun b _ hb => ⟨fun f => f, hb⟩))
            clear hs0 HJR HEA HOx
            go_wp2_with fail
            go_meet
            case rel => exact ⟨k2 + 1, fa, ao5, fa.length, cap5, by go_num, by omega, by omega, HPP.out, HKx.out, HBx.out, HAR.out⟩
          | true =>
          have HAR := hide (show aRel (T.drop (k1 + 1)) m2 (T.drop k2) fa by
            cases one with
            | true => exact HJR.out.more
            | false => exact HJR.out.more2 (by simpa using hq))
          clear HJR hq
          have HBD := hide (show pArg (T.drop k2) = none → pSels f (T.drop (k + 1)) = none from fun hp => HEA.out (HAR.out.bad hp))
          have HKw := hide (tra HKr.out HKx.out)
          cases h4 : isN (T.drop k2) with
          | false =>
            have HE := hide (HBD.out (pArg_w1 h4))
            have H4 := hide h4
            clear h4
            go_wp2_with fail
            refine (HW.out _ HKx.out _ k2 rfl _ H4.out).mono ?_
            rintro e w3 ⟨rfl, hw3⟩
            rw [hw3]
            clear hw3
            go_wp2_with fail
            go_ret2
            exact .inr ⟨.inr HE.out, rfl, HKw.out⟩
          | true =>
          have hkl8 := isN_lt h4
          have H4 := hide h4
          cases h5 : isS 58 (T.drop (k2 + 1)) with
          | false =>
            have HE := hide (HBD.out (pArg_w2 h5))
            have H5 := hide h5
            clear h4 h5
            go_wp2_with fail
            refine (HW.out _ HKx.out _ k2 rfl _ H4.out).mono ?_
            rintro e w3 ⟨rfl, hw3⟩
            rw [hw3]
            clear hw3
            go_wp2_with fail
            refine (HTK.out _ HKx.out _ (k2 + 1) (by omega) _ _ H5.out).mono ?_
            rintro e w3 ⟨rfl, hw3⟩
            rw [hw3]
            clear hw3
            go_wp2_with fail
            go_ret2
            exact .inr ⟨.inr HE.out, rfl, HKw.out⟩
          | true =>
          have H5 := hide h5
          by_cases hl6 : k2 + 2 < T.length
          · obtain ⟨b9, o9, e9, x0, x1, x2⟩ := (HTS.out wi HKw.out).at (k2 + 2) hl6
            cases e9
            by_cases hkd : T[k2 + 2].k = 2 ∨ T[k2 + 2].k = 3
            · have HPA := hide (pArg_w5 h4 h5 hl6 hkd)
              obtain ⟨b9, o9, e9, y0, y1, y2⟩ := (HTS.out wi HKw.out).at k2 hkl8
              cases e9
              obtain ⟨an, han⟩ : ∃ an, an = T[k2].s := ⟨_, rfl⟩
              obtain ⟨t, ht⟩ : ∃ t, t = T[k2 + 2] := ⟨_, rfl⟩
              rw [← ht] at HPA hkd x0 x1 x2
              rw [← han] at HPA y1
              clear h4 h5 han ht
              rcases hkd with hkd | hkd
              · have HPB := hide (show pArg (T.drop k2) = some ((⟨an, false, t.s, t.n⟩ : ArgT), T.drop (k2 + 3)) by rw [HPA.out, hkd]; rfl)
                rw [hkd] at x0
                clear hkd HPA
                obtain ⟨m3, hm3⟩ : ∃ m3, m2 = m3 + 1 := ⟨m2 - 1, by omega⟩
                have HJN := hide (show jRel T (T.drop (k1 + 1)) false m3 (k2 + 3) (fa ++ [(⟨an, false, t.s, t.n⟩ : ArgT)]) from jRel.next (by rw [← hm3]; exact HAR.out) HPB.out)
                have hm3a : m2 ≤ m3 + 1 := by omega
                have hm3b : m3 + 1 ≤ m2 := by omega
                clear hm3 HAR HBD HPB
                obtain ⟨wt, hwt⟩ : ∃ wt, wt = wi.alloc (.cells #[.int .i64 2, .string ⟨t.s.toArray⟩, .int .i64 t.n] 58) := ⟨_, rfl⟩
                obtain ⟨g3, hg3⟩ : ∃ g3, g3 = wi.heap.size := ⟨_, rfl⟩
                have hKt : Same wi wt := by rw [hwt]; exact (Kept.refl _ wi).alloc _
                have HKt := hide (tra HKx.out hKt)
                have hgt3 : g3 + 1 ≤ wt.heap.size := by rw [hwt, hg3]; simp
                have hBt : wt.heap[g]? = some (.cells #[.string ⟨al.toArray⟩, .string ⟨nm.toArray⟩, .slice ao5 fa.length cap5, .slice none 0 0] 28 (0, 0)) := blk_kept HBx.out hKt (fun f => f)
                have HBt := hide hBt
                obtain ⟨p0, p1, p2, p3⟩ := cells4 hBt
                have hgi : g < wi.heap.size := (Array.getElem?_eq_some_iff.1 HBx.out).1
                have hgg3 : g < g3 := by omega
                have hbi : b0 < wo.heap.size := by
                  obtain ⟨b9, o9, e9, u0, _, _⟩ := (HTS.out wo HKr.out).at k2 hkl8
                  cases e9
                  exact World.block_lt_of_cell? wo _ u0
                have hbg : b0 < g := by have := HGG.out; omega
                have hgwt : g < wt.heap.size := by omega
                have p2a : ∀ o, (wt.alloc o).cell? ⟨g, 2, none⟩ = some (.slice ao5 fa.length cap5) := fun o => ((Kept.refl (fun _ => False) wt).alloc o).cell p2 (fun f => f)
                have p2b : ∀ o, (wt.alloc o).drew.cell? ⟨g, 2, none⟩ = some (.slice ao5 fa.length cap5) := fun o => p2a o
                have p2c : wt.drew.cell? ⟨g, 2, none⟩ = some (.slice ao5 fa.length cap5) := p2
                have nb1 : b0 ≠ g := by omega
                have nb2 : g ≠ b0 := by omega
                have nb3 : g3 ≠ g := by omega
                have nb4 : g ≠ g3 := by omega
                have z1 : wt.cell? ⟨b0, o0 + k2 * 3 + 1, none⟩ = some (.string ⟨an.toArray⟩) := hKt.cell y1 (fun f => f)
                have z3 : wt.cell? ⟨g3, 0, none⟩ = some (.int .i64 2) ∧ wt.cell? ⟨g3, 1, none⟩ = some (.string ⟨t.s.toArray⟩) ∧ wt.cell? ⟨g3, 2, none⟩ = some (.int .i64 t.n) := by rw [hwt, hg3]; simp
                obtain ⟨z4, z5, z6⟩ := z3
                have hownT := own_kept HOx.out hKt (fun _ _ f => f)
                have hX5 : ∀ kx, (Value.slice ao5 fa.length cap5).ownBlock = some kx → g + 1 ≤ kx ∧ kx < g3 := fun kx e => by have := own_up HOx.out kx e; omega
                have ag : (Value.slice ao5 fa.length cap5).ownBlock ≠ some g := fun e => by have := hX5 _ e; omega
                have ab : (Value.slice ao5 fa.length cap5).ownBlock ≠ some b0 := fun e => by have := hX5 _ e; omega
                have a3 : (Value.slice ao5 fa.length cap5).ownBlock ≠ some g3 := fun e => by have := hX5 _ e; omega
                have HX5 := hide hX5
                have HG3 := hide hg3
                clear hX5 hBt
                go_wp2_with fail
                refine (HW.out _ HKx.out _ k2 rfl _ H4.out).mono ?_
                rintro e w3 ⟨rfl, hw3⟩
                rw [hw3]
                clear hw3
                go_wp2_with fail
                refine (HTK.out _ HKx.out _ (k2 + 1) (by omega) _ _ H5.out).mono ?_
                rintro e w3 ⟨rfl, hw3⟩
                rw [hw3]
                clear hw3
                go_wp2_with fail
                rw [← hwt, ← hg3]
                clear hwt hg3 x0 x1 x2 y0 y1 y2 hKt
                refine wp_region_noPanic ?_
                refine wp_region_held_drew (S := (fun w' => w'.cell? ⟨b0, o0 + k2 * 3 + 1, none⟩ = some (.string ⟨an.toArray⟩) ∧ w'.cell? ⟨g3, 0, none⟩ = some (.int .i64 2) ∧ w'.cell? ⟨g3, 1, none⟩ = some (.string ⟨t.s.toArray⟩) ∧ w'.cell? ⟨g3, 2, none⟩ = some (.int .i64 t.n))) (by kernel_rfl) ?_ (fun hH0 => ?_)
                · (try dsimp only) <;> go_keep
                refine wpAnyH_take (i := 0) (v := ?v1) rfl (by kernel_rfl) (by kernel_rfl) (by kernel_rfl) (fun _ _ _ h => h) (Or.inl ⟨by rfl, ?hy1⟩) (by assumption) ?rest1
                case hy1 => (intro w hSw; (try dsimp only at hSw); go_simp <;> (with_reducible rfl))
                simp only [Act.put, List.setIfInBounds_toArray]
                refine wpAnyH_take (i := 2) (v := ?v2) rfl (by kernel_rfl) (by kernel_rfl) (by kernel_rfl) (fun _ _ _ h => h) (Or.inl ⟨by rfl, ?hy2⟩) (by assumption) ?rest2
                case hy2 => (intro w hSw; (try dsimp only at hSw); go_simp <;> (with_reducible rfl))
                simp only [Act.put]
                refine wpAnyH_take (i := 3) (v := ?v3) rfl (by kernel_rfl) (by kernel_rfl) (by kernel_rfl) (fun _ _ _ h => h) (Or.inl ⟨by rfl, ?hy3⟩) (by assumption) ?rest3
                case hy3 => (intro w hSw; (try dsimp only at hSw); go_simp <;> (with_reducible rfl))
                simp only [Act.put]
                refine wpAnyH_take (i := 4) (v := ?v4) rfl (by kernel_rfl) (by kernel_rfl) (by kernel_rfl) (fun _ _ _ h => h) (Or.inl ⟨by rfl, ?hy4⟩) (by assumption) ?rest4
                case hy4 => (intro w hSw; (try dsimp only at hSw); go_simp <;> (with_reducible rfl))
                simp only [Act.put]
                refine wpAnyH_take (i := 5) (v := ?v5) rfl (by kernel_rfl) (by kernel_rfl) (by kernel_rfl) (fun _ _ _ h => h) (Or.inl ⟨by rfl, ?hy5⟩) (by assumption) ?rest5
                case hy5 => (intro w hSw; (try dsimp only at hSw); go_simp <;> (with_reducible rfl))
                simp only [Act.put]
                refine wpAnyH_take (i := 6) (v := ?v6) rfl (by kernel_rfl) (by kernel_rfl) (by kernel_rfl) (fun _ _ _ h => h) (Or.inl ⟨by rfl, ?hy6⟩) (by assumption) ?rest6
                case hy6 => (intro w hSw; (try dsimp only at hSw); go_simp <;> (with_reducible rfl))
                simp only [Act.put]
                refine wpAnyH_take (i := 7) (v := ?v7) rfl (by kernel_rfl) (by kernel_rfl) (by kernel_rfl) (fun _ _ _ h => h) (Or.inl ⟨by rfl, ?hy7⟩) (by assumption) ?rest7
                case hy7 => (intro w hSw; (try dsimp only at hSw); go_simp <;> (with_reducible rfl))
                simp only [Act.put]
                refine wpAnyH_take (i := 8) (v := ?v8) rfl (by kernel_rfl) (by kernel_rfl) (by kernel_rfl) (fun _ _ _ h => h) (Or.inl ⟨by rfl, ?hy8⟩) (by assumption) ?rest8
                case hy8 => (intro w hSw; (try dsimp only at hSw); go_simp <;> (with_reducible rfl))
                simp only [Act.put]
                refine wpAnyH_take (i := 9) (v := ?v9) rfl (by kernel_rfl) (by kernel_rfl) (by kernel_rfl) (fun _ _ _ h => h) (Or.inl ⟨by rfl, ?hy9⟩) (by assumption) ?rest9
                case hy9 => (intro w hSw; (try dsimp only at hSw); go_simp <;> (with_reducible rfl))
                simp only [Act.put]
                refine wpAnyH_take (i := 10) (v := ?v10) rfl (by kernel_rfl) (by kernel_rfl) (by kernel_rfl) (fun _ _ _ h => h) (Or.inl ⟨by rfl, ?hy10⟩) (by assumption) ?rest10
                case hy10 => (intro w hSw; (try dsimp only at hSw); go_simp <;> (with_reducible rfl))
                simp only [Act.put]
                refine wpAnyH_take (i := 11) (v := ?v11) rfl (by kernel_rfl) (by kernel_rfl) (by kernel_rfl) (fun _ _ _ h => h) (Or.inl ⟨by rfl, ?hy11⟩) (by assumption) ?rest11
                case hy11 => (intro w hSw; (try dsimp only at hSw); go_simp <;> (with_reducible rfl))
                simp only [Act.put]
                refine wpAnyH_take (i := 12) (v := ?v12) rfl (by kernel_rfl) (by kernel_rfl) (by kernel_rfl) (fun _ _ _ h => h) (Or.inl ⟨by rfl, ?hy12⟩) (by assumption) ?rest12
                case hy12 => (intro w hSw; (try dsimp only at hSw); go_simp <;> (with_reducible rfl))
                simp only [Act.put]
                refine wpAnyH_take (i := 13) (v := ?v13) rfl (by kernel_rfl) (by kernel_rfl) (by kernel_rfl) (fun _ _ _ h => h) (Or.inl ⟨by rfl, ?hy13⟩) (by assumption) ?rest13
                case hy13 => (intro w hSw; (try dsimp only at hSw); go_simp <;> (with_reducible rfl))
                simp only [Act.put]
                refine wpAnyH_take (i := 14) (v := ?v14) rfl (by kernel_rfl) (by kernel_rfl) (by kernel_rfl) (fun _ _ _ h => h) (Or.inl ⟨by rfl, ?hy14⟩) (by assumption) ?rest14
                case hy14 => (intro w hSw; (try dsimp only at hSw); go_simp <;> (with_reducible rfl))
                simp only [Act.put]
                refine wpAnyH_ready (rs := [1, 15]) (by kernel_rfl) (by simp) ?_
                refine AllReadyH.cons rfl (fun K hK => ?_) (AllReadyH.cons rfl (fun K hK => ?_) AllReadyH.nil)
                · go_simp
                  refine hK.out _ _ ?_ (fun hH1 => ?_)
                  · (try dsimp only) <;> go_keep
                  clear hK K hH0
                  try simp only [Act.put, List.setIfInBounds_toArray, List.set_cons_zero, List.set_cons_succ]
                  refine wpAnyH_ready (rs := [15]) (by kernel_rfl) (by simp) ?_
                  refine AllReadyH.cons rfl (fun K hK => ?_) AllReadyH.nil
                  go_simp
                  refine hK.out _ _ ?_ (fun hH2 => ?_)
                  · (try dsimp only) <;> go_keep
                  clear hK K hH1
                  try simp only [Act.put, List.setIfInBounds_toArray, List.set_cons_zero, List.set_cons_succ]
                  refine wpAnyH_ready (rs := [16]) (by kernel_rfl) (by simp) ?_
                  refine AllReadyH.cons rfl (fun K hK => ?_) AllReadyH.nil
                  refine step_append_lies _ (by rfl) _ _ _ (by rfl) (g + 1) 63 i1 _ 4 48 Tryz.underlying26 hi1 hy0 hy1 hy2 rfl (by omega) (.slice ao5 fa.length cap5) fa.length (argCells fa) (by rfl) ((hownT.alloc _).drew) ⟨wt.heap.size, 0, none⟩ 1 1 (argC (⟨an, false, t.s, t.n⟩ : ArgT)) (by rfl) (by rfl) (World.news_of_block (cs := #[.string ⟨an.toArray⟩, .bool false, .string ⟨t.s.toArray⟩, .int .i64 t.n]) (t := 63) (fr := (0, 0)) (heap_alloc_new wt _)) (argC_one _) (by omega) (by unfold maxLen; omega) (by omega) (by simp; omega) (wt.heap.size + 1) (by simp) ?_
                  intro gg5 cap6 w5 hown5 hgrow hat5 hlt5
                  have hG5 := blk_kept (blk_kept HBt.out ((Kept.refl (fun _ => False) wt).alloc (.cells #[.string ⟨an.toArray⟩, .bool false, .string ⟨t.s.toArray⟩, .int .i64 t.n] 63)) (fun f => f)) (grown_kept hgrow).unD (fun e => ag e.symm)
                  obtain ⟨q0, q1, q2, q3⟩ := cells4 hG5
                  have qf := frz_of hG5
                  have hKg : Kept (fun k => some k = (Value.slice ao5 fa.length cap5).ownBlock) wt w5 := ((Kept.refl _ wt).alloc _).trans (grown_kept hgrow).unD (fun _ _ e => e)
                  have s1 := hKg.cell z1 (fun e => ab e.symm)
                  have s4 := hKg.cell z4 (fun e => a3 e.symm)
                  have s5 := hKg.cell z5 (fun e => a3 e.symm)
                  have s6 := hKg.cell z6 (fun e => a3 e.symm)
                  refine hK.out _ _ ?_ (fun hH3 => ?_)
                  · (try dsimp only) <;> go_keep
                  clear hK K hH2
                  simp only [Act.put, List.setIfInBounds_toArray]
                  refine wpAnyH_take (i := 17) (v := ?v15) rfl (by kernel_rfl) (by kernel_rfl) (by kernel_rfl) (fun _ _ _ h => h) (Or.inl ⟨by rfl, ?hy15⟩) (by assumption) ?rest15
                  case hy15 => (intro w hSw; (try dsimp only at hSw); go_simp <;> (with_reducible rfl))
                  simp only [Act.put]
                  refine wpAnyH_ready (rs := [18]) (by kernel_rfl) (by simp) ?_
                  refine AllReadyH.cons rfl (fun K hK => ?_) AllReadyH.nil
                  go_simp
                  refine hK.out _ _ ?_ (fun hH4 => ?_)
                  · (try dsimp only) <;> go_keep
                  clear hK K hH3
                  try simp only [Act.put, List.setIfInBounds_toArray, List.set_cons_zero, List.set_cons_succ]
                  refine wpAnyH_done (by kernel_rfl) ?_ _
                  refine NoPanic.normal ?_
                  have hK5 : Same wo w5 := HKt.out.trans hKg (fun kk hk e => by have h1 := HX5.out kk e.symm; have := HGG.out; omega)
                  have hK6 : Same wo (w5.setCell ⟨g, 2, none⟩ (.slice (some ⟨gg5, 0, none⟩) (fa.length + 1) cap6)) := hK5.setCell (p := ⟨g, 2, none⟩) (fun hh => by have h1 : g < wo.heap.size := hh; have := HGG.out; omega) _
                  have hG6 : (w5.setCell ⟨g, 2, none⟩ (.slice (some ⟨gg5, 0, none⟩) (fa.length + 1) cap6)).heap[g]? = some (SBx al nm (.slice (some ⟨gg5, 0, none⟩) (fa.length + 1) cap6) (.slice none 0 0)) := by simp [World.setCell, Array.getElem?_modify, hG5, SBx]
                  have hO6 : (w5.setCell ⟨g, 2, none⟩ (.slice (some ⟨gg5, 0, none⟩) (fa.length + 1) cap6)).ownsRow (g + 1) 63 4 (.slice (some ⟨gg5, 0, none⟩) (fa.length + 1) cap6) (fa ++ [(⟨an, false, t.s, t.n⟩ : ArgT)]).length (argCells (fa ++ [(⟨an, false, t.s, t.n⟩ : ArgT)])) := by
                    rw [argCells_snoc, List.length_append]
                    exact own_kept hown5 ((Kept.refl (· = g) w5).setB 2 _) (fun kk hk e => by omega)
                  have HX := hide (And.intro hK6 (And.intro hG6 hO6))
                  clear hK5 hK6 hG6 hO6 hown5 hgrow hat5 hlt5 hG5 hKg q0 q1 q2 q3 qf s1 s4 s5 s6 z1 z4 z5 z6 p0 p1 p2 p3 hownT ag ab a3
                  go_wp2_with fail
                  go_roundg (gk - 1)
                  case measure => omega
                  case rel => exact ⟨m3, k2 + 3, false, fa ++ [(⟨an, false, t.s, t.n⟩ : ArgT)], _, by omega, by omega, by omega, by omega, by omega, by rw [List.length_append]; simp; omega, by go_num, rfl, HX.out.1, HX.out.2.1, HX.out.2.2, HJN⟩
                · go_simp
                  refine hK.out _ _ ?_ (fun hH1 => ?_)
                  · (try dsimp only) <;> go_keep
                  clear hK K hH0
                  try simp only [Act.put, List.setIfInBounds_toArray, List.set_cons_zero, List.set_cons_succ]
                  refine wpAnyH_ready (rs := [1]) (by kernel_rfl) (by simp) ?_
                  refine AllReadyH.cons rfl (fun K hK => ?_) AllReadyH.nil
                  go_simp
                  refine hK.out _ _ ?_ (fun hH2 => ?_)
                  · (try dsimp only) <;> go_keep
                  clear hK K hH1
                  try simp only [Act.put, List.setIfInBounds_toArray, List.set_cons_zero, List.set_cons_succ]
                  refine wpAnyH_ready (rs := [16]) (by kernel_rfl) (by simp) ?_
                  refine AllReadyH.cons rfl (fun K hK => ?_) AllReadyH.nil
                  refine step_append_lies _ (by rfl) _ _ _ (by rfl) (g + 1) 63 i1 _ 4 48 Tryz.underlying26 hi1 hy0 hy1 hy2 rfl (by omega) (.slice ao5 fa.length cap5) fa.length (argCells fa) (by rfl) ((hownT.alloc _).drew) ⟨wt.heap.size, 0, none⟩ 1 1 (argC (⟨an, false, t.s, t.n⟩ : ArgT)) (by rfl) (by rfl) (World.news_of_block (cs := #[.string ⟨an.toArray⟩, .bool false, .string ⟨t.s.toArray⟩, .int .i64 t.n]) (t := 63) (fr := (0, 0)) (heap_alloc_new wt _)) (argC_one _) (by omega) (by unfold maxLen; omega) (by omega) (by simp; omega) (wt.heap.size + 1) (by simp) ?_
                  intro gg5 cap6 w5 hown5 hgrow hat5 hlt5
                  have hG5 := blk_kept (blk_kept HBt.out ((Kept.refl (fun _ => False) wt).alloc (.cells #[.string ⟨an.toArray⟩, .bool false, .string ⟨t.s.toArray⟩, .int .i64 t.n] 63)) (fun f => f)) (grown_kept hgrow).unD (fun e => ag e.symm)
                  obtain ⟨q0, q1, q2, q3⟩ := cells4 hG5
                  have qf := frz_of hG5
                  have hKg : Kept (fun k => some k = (Value.slice ao5 fa.length cap5).ownBlock) wt w5 := ((Kept.refl _ wt).alloc _).trans (grown_kept hgrow).unD (fun _ _ e => e)
                  have s1 := hKg.cell z1 (fun e => ab e.symm)
                  have s4 := hKg.cell z4 (fun e => a3 e.symm)
                  have s5 := hKg.cell z5 (fun e => a3 e.symm)
                  have s6 := hKg.cell z6 (fun e => a3 e.symm)
                  refine hK.out _ _ ?_ (fun hH3 => ?_)
                  · (try dsimp only) <;> go_keep
                  clear hK K hH2
                  simp only [Act.put, List.setIfInBounds_toArray]
                  refine wpAnyH_take (i := 17) (v := ?v16) rfl (by kernel_rfl) (by kernel_rfl) (by kernel_rfl) (fun _ _ _ h => h) (Or.inl ⟨by rfl, ?hy16⟩) (by assumption) ?rest16
                  case hy16 => (intro w hSw; (try dsimp only at hSw); go_simp <;> (with_reducible rfl))
                  simp only [Act.put]
                  refine wpAnyH_ready (rs := [18]) (by kernel_rfl) (by simp) ?_
                  refine AllReadyH.cons rfl (fun K hK => ?_) AllReadyH.nil
                  go_simp
                  refine hK.out _ _ ?_ (fun hH4 => ?_)
                  · (try dsimp only) <;> go_keep
                  clear hK K hH3
                  try simp only [Act.put, List.setIfInBounds_toArray, List.set_cons_zero, List.set_cons_succ]
                  refine wpAnyH_done (by kernel_rfl) ?_ _
                  refine NoPanic.normal ?_
                  have hK5 : Same wo w5 := HKt.out.trans hKg (fun kk hk e => by have h1 := HX5.out kk e.symm; have := HGG.out; omega)
                  have hK6 : Same wo (w5.setCell ⟨g, 2, none⟩ (.slice (some ⟨gg5, 0, none⟩) (fa.length + 1) cap6)) := hK5.setCell (p := ⟨g, 2, none⟩) (fun hh => by have h1 : g < wo.heap.size := hh; have := HGG.out; omega) _
                  have hG6 : (w5.setCell ⟨g, 2, none⟩ (.slice (some ⟨gg5, 0, none⟩) (fa.length + 1) cap6)).heap[g]? = some (SBx al nm (.slice (some ⟨gg5, 0, none⟩) (fa.length + 1) cap6) (.slice none 0 0)) := by simp [World.setCell, Array.getElem?_modify, hG5, SBx]
                  have hO6 : (w5.setCell ⟨g, 2, none⟩ (.slice (some ⟨gg5, 0, none⟩) (fa.length + 1) cap6)).ownsRow (g + 1) 63 4 (.slice (some ⟨gg5, 0, none⟩) (fa.length + 1) cap6) (fa ++ [(⟨an, false, t.s, t.n⟩ : ArgT)]).length (argCells (fa ++ [(⟨an, false, t.s, t.n⟩ : ArgT)])) := by
                    rw [argCells_snoc, List.length_append]
                    exact own_kept hown5 ((Kept.refl (· = g) w5).setB 2 _) (fun kk hk e => by omega)
                  have HX := hide (And.intro hK6 (And.intro hG6 hO6))
                  clear hK5 hK6 hG6 hO6 hown5 hgrow hat5 hlt5 hG5 hKg q0 q1 q2 q3 qf s1 s4 s5 s6 z1 z4 z5 z6 p0 p1 p2 p3 hownT ag ab a3
                  go_wp2_with fail
                  go_roundg (gk - 1)
                  case measure => omega
                  case rel => exact ⟨m3, k2 + 3, false, fa ++ [(⟨an, false, t.s, t.n⟩ : ArgT)], _, by omega, by omega, by omega, by omega, by omega, by rw [List.length_append]; simp; omega, by go_num, rfl, HX.out.1, HX.out.2.1, HX.out.2.2, HJN⟩
              · have HPB := hide (show pArg (T.drop k2) = some ((⟨an, true, t.s, t.n⟩ : ArgT), T.drop (k2 + 3)) by rw [HPA.out, hkd]; rfl)
                rw [hkd] at x0
                clear hkd HPA
                obtain ⟨m3, hm3⟩ : ∃ m3, m2 = m3 + 1 := ⟨m2 - 1, by omega⟩
                have HJN := hide (show jRel T (T.drop (k1 + 1)) false m3 (k2 + 3) (fa ++ [(⟨an, true, t.s, t.n⟩ : ArgT)]) from jRel.next (by rw [← hm3]; exact HAR.out) HPB.out)
                have hm3a : m2 ≤ m3 + 1 := by omega
                have hm3b : m3 + 1 ≤ m2 := by omega
                clear hm3 HAR HBD HPB
                obtain ⟨wt, hwt⟩ : ∃ wt, wt = wi.alloc (.cells #[.int .i64 3, .string ⟨t.s.toArray⟩, .int .i64 t.n] 58) := ⟨_, rfl⟩
                obtain ⟨g3, hg3⟩ : ∃ g3, g3 = wi.heap.size := ⟨_, rfl⟩
                have hKt : Same wi wt := by rw [hwt]; exact (Kept.refl _ wi).alloc _
                have HKt := hide (tra HKx.out hKt)
                have hgt3 : g3 + 1 ≤ wt.heap.size := by rw [hwt, hg3]; simp
                have hBt : wt.heap[g]? = some (.cells #[.string ⟨al.toArray⟩, .string ⟨nm.toArray⟩, .slice ao5 fa.length cap5, .slice none 0 0] 28 (0, 0)) := blk_kept HBx.out hKt (fun f => f)
                have HBt := hide hBt
                obtain ⟨p0, p1, p2, p3⟩ := cells4 hBt
                have hgi : g < wi.heap.size := (Array.getElem?_eq_some_iff.1 HBx.out).1
                have hgg3 : g < g3 := by omega
                have hbi : b0 < wo.heap.size := by
                  obtain ⟨b9, o9, e9, u0, _, _⟩ := (HTS.out wo HKr.out).at k2 hkl8
                  cases e9
                  exact World.block_lt_of_cell? wo _ u0
                have hbg : b0 < g := by have := HGG.out; omega
                have hgwt : g < wt.heap.size := by omega
                have p2a : ∀ o, (wt.alloc o).cell? ⟨g, 2, none⟩ = some (.slice ao5 fa.length cap5) := fun o => ((Kept.refl (fun _ => False) wt).alloc o).cell p2 (fun f => f)
                have p2b : ∀ o, (wt.alloc o).drew.cell? ⟨g, 2, none⟩ = some (.slice ao5 fa.length cap5) := fun o => p2a o
                have p2c : wt.drew.cell? ⟨g, 2, none⟩ = some (.slice ao5 fa.length cap5) := p2
                have nb1 : b0 ≠ g := by omega
                have nb2 : g ≠ b0 := by omega
                have nb3 : g3 ≠ g := by omega
                have nb4 : g ≠ g3 := by omega
                have z1 : wt.cell? ⟨b0, o0 + k2 * 3 + 1, none⟩ = some (.string ⟨an.toArray⟩) := hKt.cell y1 (fun f => f)
                have z3 : wt.cell? ⟨g3, 0, none⟩ = some (.int .i64 3) ∧ wt.cell? ⟨g3, 1, none⟩ = some (.string ⟨t.s.toArray⟩) ∧ wt.cell? ⟨g3, 2, none⟩ = some (.int .i64 t.n) := by rw [hwt, hg3]; simp
                obtain ⟨z4, z5, z6⟩ := z3
                have hownT := own_kept HOx.out hKt (fun _ _ f => f)
                have hX5 : ∀ kx, (Value.slice ao5 fa.length cap5).ownBlock = some kx → g + 1 ≤ kx ∧ kx < g3 := fun kx e => by have := own_up HOx.out kx e; omega
                have ag : (Value.slice ao5 fa.length cap5).ownBlock ≠ some g := fun e => by have := hX5 _ e; omega
                have ab : (Value.slice ao5 fa.length cap5).ownBlock ≠ some b0 := fun e => by have := hX5 _ e; omega
                have a3 : (Value.slice ao5 fa.length cap5).ownBlock ≠ some g3 := fun e => by have := hX5 _ e; omega
                have HX5 := hide hX5
                have HG3 := hide hg3
                clear hX5 hBt
                go_wp2_with fail
                refine (HW.out _ HKx.out _ k2 rfl _ H4.out).mono ?_
                rintro e w3 ⟨rfl, hw3⟩
                rw [hw3]
                clear hw3
                go_wp2_with fail
                refine (HTK.out _ HKx.out _ (k2 + 1) (by omega) _ _ H5.out).mono ?_
                rintro e w3 ⟨rfl, hw3⟩
                rw [hw3]
                clear hw3
                go_wp2_with fail
                rw [← hwt, ← hg3]
                clear hwt hg3 x0 x1 x2 y0 y1 y2 hKt
                refine wp_region_noPanic ?_
                refine wp_region_held_drew (S := (fun w' => w'.cell? ⟨b0, o0 + k2 * 3 + 1, none⟩ = some (.string ⟨an.toArray⟩) ∧ w'.cell? ⟨g3, 0, none⟩ = some (.int .i64 3) ∧ w'.cell? ⟨g3, 1, none⟩ = some (.string ⟨t.s.toArray⟩) ∧ w'.cell? ⟨g3, 2, none⟩ = some (.int .i64 t.n))) (by kernel_rfl) ?_ (fun hH0 => ?_)
                · (try dsimp only) <;> go_keep
                refine wpAnyH_take (i := 0) (v := ?v17) rfl (by kernel_rfl) (by kernel_rfl) (by kernel_rfl) (fun _ _ _ h => h) (Or.inl ⟨by rfl, ?hy17⟩) (by assumption) ?rest17
                case hy17 => (intro w hSw; (try dsimp only at hSw); go_simp <;> (with_reducible rfl))
                simp only [Act.put, List.setIfInBounds_toArray]
                refine wpAnyH_take (i := 2) (v := ?v18) rfl (by kernel_rfl) (by kernel_rfl) (by kernel_rfl) (fun _ _ _ h => h) (Or.inl ⟨by rfl, ?hy18⟩) (by assumption) ?rest18
                case hy18 => (intro w hSw; (try dsimp only at hSw); go_simp <;> (with_reducible rfl))
                simp only [Act.put]
                refine wpAnyH_take (i := 3) (v := ?v19) rfl (by kernel_rfl) (by kernel_rfl) (by kernel_rfl) (fun _ _ _ h => h) (Or.inl ⟨by rfl, ?hy19⟩) (by assumption) ?rest19
                case hy19 => (intro w hSw; (try dsimp only at hSw); go_simp <;> (with_reducible rfl))
                simp only [Act.put]
                refine wpAnyH_take (i := 4) (v := ?v20) rfl (by kernel_rfl) (by kernel_rfl) (by kernel_rfl) (fun _ _ _ h => h) (Or.inl ⟨by rfl, ?hy20⟩) (by assumption) ?rest20
                case hy20 => (intro w hSw; (try dsimp only at hSw); go_simp <;> (with_reducible rfl))
                simp only [Act.put]
                refine wpAnyH_take (i := 5) (v := ?v21) rfl (by kernel_rfl) (by kernel_rfl) (by kernel_rfl) (fun _ _ _ h => h) (Or.inl ⟨by rfl, ?hy21⟩) (by assumption) ?rest21
                case hy21 => (intro w hSw; (try dsimp only at hSw); go_simp <;> (with_reducible rfl))
                simp only [Act.put]
                refine wpAnyH_take (i := 6) (v := ?v22) rfl (by kernel_rfl) (by kernel_rfl) (by kernel_rfl) (fun _ _ _ h => h) (Or.inl ⟨by rfl, ?hy22⟩) (by assumption) ?rest22
                case hy22 => (intro w hSw; (try dsimp only at hSw); go_simp <;> (with_reducible rfl))
                simp only [Act.put]
                refine wpAnyH_take (i := 7) (v := ?v23) rfl (by kernel_rfl) (by kernel_rfl) (by kernel_rfl) (fun _ _ _ h => h) (Or.inl ⟨by rfl, ?hy23⟩) (by assumption) ?rest23
                case hy23 => (intro w hSw; (try dsimp only at hSw); go_simp <;> (with_reducible rfl))
                simp only [Act.put]
                refine wpAnyH_take (i := 8) (v := ?v24) rfl (by kernel_rfl) (by kernel_rfl) (by kernel_rfl) (fun _ _ _ h => h) (Or.inl ⟨by rfl, ?hy24⟩) (by assumption) ?rest24
                case hy24 => (intro w hSw; (try dsimp only at hSw); go_simp <;> (with_reducible rfl))
                simp only [Act.put]
                refine wpAnyH_take (i := 9) (v := ?v25) rfl (by kernel_rfl) (by kernel_rfl) (by kernel_rfl) (fun _ _ _ h => h) (Or.inl ⟨by rfl, ?hy25⟩) (by assumption) ?rest25
                case hy25 => (intro w hSw; (try dsimp only at hSw); go_simp <;> (with_reducible rfl))
                simp only [Act.put]
                refine wpAnyH_take (i := 10) (v := ?v26) rfl (by kernel_rfl) (by kernel_rfl) (by kernel_rfl) (fun _ _ _ h => h) (Or.inl ⟨by rfl, ?hy26⟩) (by assumption) ?rest26
                case hy26 => (intro w hSw; (try dsimp only at hSw); go_simp <;> (with_reducible rfl))
                simp only [Act.put]
                refine wpAnyH_take (i := 11) (v := ?v27) rfl (by kernel_rfl) (by kernel_rfl) (by kernel_rfl) (fun _ _ _ h => h) (Or.inl ⟨by rfl, ?hy27⟩) (by assumption) ?rest27
                case hy27 => (intro w hSw; (try dsimp only at hSw); go_simp <;> (with_reducible rfl))
                simp only [Act.put]
                refine wpAnyH_take (i := 12) (v := ?v28) rfl (by kernel_rfl) (by kernel_rfl) (by kernel_rfl) (fun _ _ _ h => h) (Or.inl ⟨by rfl, ?hy28⟩) (by assumption) ?rest28
                case hy28 => (intro w hSw; (try dsimp only at hSw); go_simp <;> (with_reducible rfl))
                simp only [Act.put]
                refine wpAnyH_take (i := 13) (v := ?v29) rfl (by kernel_rfl) (by kernel_rfl) (by kernel_rfl) (fun _ _ _ h => h) (Or.inl ⟨by rfl, ?hy29⟩) (by assumption) ?rest29
                case hy29 => (intro w hSw; (try dsimp only at hSw); go_simp <;> (with_reducible rfl))
                simp only [Act.put]
                refine wpAnyH_take (i := 14) (v := ?v30) rfl (by kernel_rfl) (by kernel_rfl) (by kernel_rfl) (fun _ _ _ h => h) (Or.inl ⟨by rfl, ?hy30⟩) (by assumption) ?rest30
                case hy30 => (intro w hSw; (try dsimp only at hSw); go_simp <;> (with_reducible rfl))
                simp only [Act.put]
                refine wpAnyH_ready (rs := [1, 15]) (by kernel_rfl) (by simp) ?_
                refine AllReadyH.cons rfl (fun K hK => ?_) (AllReadyH.cons rfl (fun K hK => ?_) AllReadyH.nil)
                · go_simp
                  refine hK.out _ _ ?_ (fun hH1 => ?_)
                  · (try dsimp only) <;> go_keep
                  clear hK K hH0
                  try simp only [Act.put, List.setIfInBounds_toArray, List.set_cons_zero, List.set_cons_succ]
                  refine wpAnyH_ready (rs := [15]) (by kernel_rfl) (by simp) ?_
                  refine AllReadyH.cons rfl (fun K hK => ?_) AllReadyH.nil
                  go_simp
                  refine hK.out _ _ ?_ (fun hH2 => ?_)
                  · (try dsimp only) <;> go_keep
                  clear hK K hH1
                  try simp only [Act.put, List.setIfInBounds_toArray, List.set_cons_zero, List.set_cons_succ]
                  refine wpAnyH_ready (rs := [16]) (by kernel_rfl) (by simp) ?_
                  refine AllReadyH.cons rfl (fun K hK => ?_) AllReadyH.nil
                  refine step_append_lies _ (by rfl) _ _ _ (by rfl) (g + 1) 63 i1 _ 4 48 Tryz.underlying26 hi1 hy0 hy1 hy2 rfl (by omega) (.slice ao5 fa.length cap5) fa.length (argCells fa) (by rfl) ((hownT.alloc _).drew) ⟨wt.heap.size, 0, none⟩ 1 1 (argC (⟨an, true, t.s, t.n⟩ : ArgT)) (by rfl) (by rfl) (World.news_of_block (cs := #[.string ⟨an.toArray⟩, .bool true, .string ⟨t.s.toArray⟩, .int .i64 t.n]) (t := 63) (fr := (0, 0)) (heap_alloc_new wt _)) (argC_one _) (by omega) (by unfold maxLen; omega) (by omega) (by simp; omega) (wt.heap.size + 1) (by simp) ?_
                  intro gg5 cap6 w5 hown5 hgrow hat5 hlt5
                  have hG5 := blk_kept (blk_kept HBt.out ((Kept.refl (fun _ => False) wt).alloc (.cells #[.string ⟨an.toArray⟩, .bool true, .string ⟨t.s.toArray⟩, .int .i64 t.n] 63)) (fun f => f)) (grown_kept hgrow).unD (fun e => ag e.symm)
                  obtain ⟨q0, q1, q2, q3⟩ := cells4 hG5
                  have qf := frz_of hG5
                  have hKg : Kept (fun k => some k = (Value.slice ao5 fa.length cap5).ownBlock) wt w5 := ((Kept.refl _ wt).alloc _).trans (grown_kept hgrow).unD (fun _ _ e => e)
                  have s1 := hKg.cell z1 (fun e => ab e.symm)
                  have s4 := hKg.cell z4 (fun e => a3 e.symm)
                  have s5 := hKg.cell z5 (fun e => a3 e.symm)
                  have s6 := hKg.cell z6 (fun e => a3 e.symm)
                  refine hK.out _ _ ?_ (fun hH3 => ?_)
                  · (try dsimp only) <;> go_keep
                  clear hK K hH2
                  simp only [Act.put, List.setIfInBounds_toArray]
                  refine wpAnyH_take (i := 17) (v := ?v31) rfl (by kernel_rfl) (by kernel_rfl) (by kernel_rfl) (fun _ _ _ h => h) (Or.inl ⟨by rfl, ?hy31⟩) (by assumption) ?rest31
                  case hy31 => (intro w hSw; (try dsimp only at hSw); go_simp <;> (with_reducible rfl))
                  simp only [Act.put]
                  refine wpAnyH_ready (rs := [18]) (by kernel_rfl) (by simp) ?_
                  refine AllReadyH.cons rfl (fun K hK => ?_) AllReadyH.nil
                  go_simp
                  refine hK.out _ _ ?_ (fun hH4 => ?_)
                  · (try dsimp only) <;> go_keep
                  clear hK K hH3
                  try simp only [Act.put, List.setIfInBounds_toArray, List.set_cons_zero, List.set_cons_succ]
                  refine wpAnyH_done (by kernel_rfl) ?_ _
                  refine NoPanic.normal ?_
                  have hK5 : Same wo w5 := HKt.out.trans hKg (fun kk hk e => by have h1 := HX5.out kk e.symm; have := HGG.out; omega)
                  have hK6 : Same wo (w5.setCell ⟨g, 2, none⟩ (.slice (some ⟨gg5, 0, none⟩) (fa.length + 1) cap6)) := hK5.setCell (p := ⟨g, 2, none⟩) (fun hh => by have h1 : g < wo.heap.size := hh; have := HGG.out; omega) _
                  have hG6 : (w5.setCell ⟨g, 2, none⟩ (.slice (some ⟨gg5, 0, none⟩) (fa.length + 1) cap6)).heap[g]? = some (SBx al nm (.slice (some ⟨gg5, 0, none⟩) (fa.length + 1) cap6) (.slice none 0 0)) := by simp [World.setCell, Array.getElem?_modify, hG5, SBx]
                  have hO6 : (w5.setCell ⟨g, 2, none⟩ (.slice (some ⟨gg5, 0, none⟩) (fa.length + 1) cap6)).ownsRow (g + 1) 63 4 (.slice (some ⟨gg5, 0, none⟩) (fa.length + 1) cap6) (fa ++ [(⟨an, true, t.s, t.n⟩ : ArgT)]).length (argCells (fa ++ [(⟨an, true, t.s, t.n⟩ : ArgT)])) := by
                    rw [argCells_snoc, List.length_append]
                    exact own_kept hown5 ((Kept.refl (· = g) w5).setB 2 _) (fun kk hk e => by omega)
                  have HX := hide (And.intro hK6 (And.intro hG6 hO6))
                  clear hK5 hK6 hG6 hO6 hown5 hgrow hat5 hlt5 hG5 hKg q0 q1 q2 q3 qf s1 s4 s5 s6 z1 z4 z5 z6 p0 p1 p2 p3 hownT ag ab a3
                  go_wp2_with fail
                  go_roundg (gk - 1)
                  case measure => omega
                  case rel => exact ⟨m3, k2 + 3, false, fa ++ [(⟨an, true, t.s, t.n⟩ : ArgT)], _, by omega, by omega, by omega, by omega, by omega, by rw [List.length_append]; simp; omega, by go_num, rfl, HX.out.1, HX.out.2.1, HX.out.2.2, HJN⟩
                · go_simp
                  refine hK.out _ _ ?_ (fun hH1 => ?_)
                  · (try dsimp only) <;> go_keep
                  clear hK K hH0
                  try simp only [Act.put, List.setIfInBounds_toArray, List.set_cons_zero, List.set_cons_succ]
                  refine wpAnyH_ready (rs := [1]) (by kernel_rfl) (by simp) ?_
                  refine AllReadyH.cons rfl (fun K hK => ?_) AllReadyH.nil
                  go_simp
                  refine hK.out _ _ ?_ (fun hH2 => ?_)
                  · (try dsimp only) <;> go_keep
                  clear hK K hH1
                  try simp only [Act.put, List.setIfInBounds_toArray, List.set_cons_zero, List.set_cons_succ]
                  refine wpAnyH_ready (rs := [16]) (by kernel_rfl) (by simp) ?_
                  refine AllReadyH.cons rfl (fun K hK => ?_) AllReadyH.nil
                  refine step_append_lies _ (by rfl) _ _ _ (by rfl) (g + 1) 63 i1 _ 4 48 Tryz.underlying26 hi1 hy0 hy1 hy2 rfl (by omega) (.slice ao5 fa.length cap5) fa.length (argCells fa) (by rfl) ((hownT.alloc _).drew) ⟨wt.heap.size, 0, none⟩ 1 1 (argC (⟨an, true, t.s, t.n⟩ : ArgT)) (by rfl) (by rfl) (World.news_of_block (cs := #[.string ⟨an.toArray⟩, .bool true, .string ⟨t.s.toArray⟩, .int .i64 t.n]) (t := 63) (fr := (0, 0)) (heap_alloc_new wt _)) (argC_one _) (by omega) (by unfold maxLen; omega) (by omega) (by simp; omega) (wt.heap.size + 1) (by simp) ?_
                  intro gg5 cap6 w5 hown5 hgrow hat5 hlt5
                  have hG5 := blk_kept (blk_kept HBt.out ((Kept.refl (fun _ => False) wt).alloc (.cells #[.string ⟨an.toArray⟩, .bool true, .string ⟨t.s.toArray⟩, .int .i64 t.n] 63)) (fun f => f)) (grown_kept hgrow).unD (fun e => ag e.symm)
                  obtain ⟨q0, q1, q2, q3⟩ := cells4 hG5
                  have qf := frz_of hG5
                  have hKg : Kept (fun k => some k = (Value.slice ao5 fa.length cap5).ownBlock) wt w5 := ((Kept.refl _ wt).alloc _).trans (grown_kept hgrow).unD (fun _ _ e => e)
                  have s1 := hKg.cell z1 (fun e => ab e.symm)
                  have s4 := hKg.cell z4 (fun e => a3 e.symm)
                  have s5 := hKg.cell z5 (fun e => a3 e.symm)
                  have s6 := hKg.cell z6 (fun e => a3 e.symm)
                  refine hK.out _ _ ?_ (fun hH3 => ?_)
                  · (try dsimp only) <;> go_keep
                  clear hK K hH2
                  simp only [Act.put, List.setIfInBounds_toArray]
                  refine wpAnyH_take (i := 17) (v := ?v32) rfl (by kernel_rfl) (by kernel_rfl) (by kernel_rfl) (fun _ _ _ h => h) (Or.inl ⟨by rfl, ?hy32⟩) (by assumption) ?rest32
                  case hy32 => (intro w hSw; (try dsimp only at hSw); go_simp <;> (with_reducible rfl))
                  simp only [Act.put]
                  refine wpAnyH_ready (rs := [18]) (by kernel_rfl) (by simp) ?_
                  refine AllReadyH.cons rfl (fun K hK => ?_) AllReadyH.nil
                  go_simp
                  refine hK.out _ _ ?_ (fun hH4 => ?_)
                  · (try dsimp only) <;> go_keep
                  clear hK K hH3
                  try simp only [Act.put, List.setIfInBounds_toArray, List.set_cons_zero, List.set_cons_succ]
                  refine wpAnyH_done (by kernel_rfl) ?_ _
                  refine NoPanic.normal ?_
                  have hK5 : Same wo w5 := HKt.out.trans hKg (fun kk hk e => by have h1 := HX5.out kk e.symm; have := HGG.out; omega)
                  have hK6 : Same wo (w5.setCell ⟨g, 2, none⟩ (.slice (some ⟨gg5, 0, none⟩) (fa.length + 1) cap6)) := hK5.setCell (p := ⟨g, 2, none⟩) (fun hh => by have h1 : g < wo.heap.size := hh; have := HGG.out; omega) _
                  have hG6 : (w5.setCell ⟨g, 2, none⟩ (.slice (some ⟨gg5, 0, none⟩) (fa.length + 1) cap6)).heap[g]? = some (SBx al nm (.slice (some ⟨gg5, 0, none⟩) (fa.length + 1) cap6) (.slice none 0 0)) := by simp [World.setCell, Array.getElem?_modify, hG5, SBx]
                  have hO6 : (w5.setCell ⟨g, 2, none⟩ (.slice (some ⟨gg5, 0, none⟩) (fa.length + 1) cap6)).ownsRow (g + 1) 63 4 (.slice (some ⟨gg5, 0, none⟩) (fa.length + 1) cap6) (fa ++ [(⟨an, true, t.s, t.n⟩ : ArgT)]).length (argCells (fa ++ [(⟨an, true, t.s, t.n⟩ : ArgT)])) := by
                    rw [argCells_snoc, List.length_append]
                    exact own_kept hown5 ((Kept.refl (· = g) w5).setB 2 _) (fun kk hk e => by omega)
                  have HX := hide (And.intro hK6 (And.intro hG6 hO6))
                  clear hK5 hK6 hG6 hO6 hown5 hgrow hat5 hlt5 hG5 hKg q0 q1 q2 q3 qf s1 s4 s5 s6 z1 z4 z5 z6 p0 p1 p2 p3 hownT ag ab a3
                  go_wp2_with fail
                  go_roundg (gk - 1)
                  case measure => omega
                  case rel => exact ⟨m3, k2 + 3, false, fa ++ [(⟨an, true, t.s, t.n⟩ : ArgT)], _, by omega, by omega, by omega, by omega, by omega, by rw [List.length_append]; simp; omega, by go_num, rfl, HX.out.1, HX.out.2.1, HX.out.2.2, HJN⟩
            · have hn2 : T[k2 + 2].k ≠ 2 := fun e => hkd (.inl e)
              have hn3 : T[k2 + 2].k ≠ 3 := fun e => hkd (.inr e)
              have HE := hide (HBD.out (pArg_w4 hl6 hn2 hn3))
              have hb2 : (T[k2 + 2].k != 2) = true := by simp [hn2]
              have hb3 : (T[k2 + 2].k != 3) = true := by simp [hn3]
              clear h4 h5 hkd hn2 hn3
              go_wp2_with fail
              refine (HW.out _ HKx.out _ k2 rfl _ H4.out).mono ?_
              rintro e w3 ⟨rfl, hw3⟩
              rw [hw3]
              clear hw3
              go_wp2_with fail
              refine (HTK.out _ HKx.out _ (k2 + 1) (by omega) _ _ H5.out).mono ?_
              rintro e w3 ⟨rfl, hw3⟩
              rw [hw3]
              clear hw3
              go_wp2_with fail
              go_ret2
              exact .inr ⟨.inr HE.out, rfl, HKw.out⟩
          · have HE := hide (HBD.out (pArg_w3 (by omega)))
            clear h4 h5
            go_wp2_with fail
            refine (HW.out _ HKx.out _ k2 rfl _ H4.out).mono ?_
            rintro e w3 ⟨rfl, hw3⟩
            rw [hw3]
            clear hw3
            go_wp2_with fail
            refine (HTK.out _ HKx.out _ (k2 + 1) (by omega) _ _ H5.out).mono ?_
            rintro e w3 ⟨rfl, hw3⟩
            rw [hw3]
            clear hw3
            go_wp2_with fail
            go_ret2
            exact .inr ⟨.inr HE.out, rfl, HKw.out⟩
    case rest =>
    obtain ⟨k2, args, aa, na, ca, rfl, hk2a, hk2b, HPO, HKd, HBd, HAd⟩ := hcut
    clear HBc HKc H3
    obtain ⟨w4, hw4⟩ : ∃ w4, w4 = wc := ⟨_, rfl⟩
    subst hw4
    obtain ⟨q4, h4⟩ : ∃ q4, isS 123 (T.drop k2) = q4 := ⟨_, rfl⟩
    have H4 := hide h4
    clear h4
    go_wp2_with fail
    refine (HTK.out _ HKd.out _ k2 rfl _ _ H4.out).mono ?_
    rintro e w3 ⟨rfl, hw3⟩
    rw [hw3]
    clear hw3
    go_upto_if 135 with fail
    go_cut [1] from 19 to 150 (fun av wx => ∃ (k3 : Nat) (ks : Sels) (ak : Option Addr) (nk ck : Nat), av = .int .i64 k3 ∧ kk + 1 ≤ k3 ∧ k3 ≤ T.length ∧ Hid (pSel1 m1 (T.drop kk) = some ((al, nm, args, ks), T.drop k3)) ∧ Hid (Same wo wx) ∧ Hid (wx.heap[g]? = some (SBx al nm (.slice aa na ca) (.slice ak nk ck))) ∧ Hid (ArgSlP (fun b => g < b) wx (.slice aa na ca) args) ∧ Hid (SelSlP (fun b => g < b) wx (.slice ak nk ck) ks))
    case first =>
      cases q4
      · have HPS := hide (pSel1_w5 (f := m1) HPN.out HPO.out H4.out)
        go_wp2_with fail
        go_meet
        case rel => exact ⟨k2, .nil, none, 0, 0, rfl, by omega, by omega, HPS.out, HKd.out, HBd.out, HAd.out, SelSlP.nil _ _⟩
      · have HREC := hide (HIH.out m1 (by omega) w4 _ T k2 (HTS.out _ (tra HKr.out HKd.out)) hT (by omega) (by omega))
        have hgw : g < w4.heap.size := (Array.getElem?_eq_some_iff.1 HBd.out).1
        go_wp2_with fail
        refine HREC.out.mono ?_
        rintro e w5 (⟨s, v, k3, hs1, hs2, ⟨hk3a, hk3b⟩, rfl, hsl, hK5⟩ | ⟨hor, rfl, hK5⟩)
        · have HPS := hide (pSel1_w4 HPN.out HPO.out H4.out hs2)
          obtain ⟨ak, ck, hv, _⟩ := id hsl
          subst hv
          have HSL := hide hsl
          have hB5 : w5.heap[g]? = some (.cells #[.string ⟨al.toArray⟩, .string ⟨nm.toArray⟩, .slice aa na ca, .slice none 0 0] 28 (0, 0)) := blk_kept HBd.out hK5 (fun f => f)
          obtain ⟨p0, p1, p2, p3⟩ := cells4 hB5
          have pf := frz_of hB5
          have HKE := hide (tra HKd.out hK5)
          have HX := hide (show ∀ v, Same wo (w5.setCell ⟨g, 3, none⟩ v) ∧ (w5.setCell ⟨g, 3, none⟩ v).heap[g]? = some (SBx al nm (.slice aa na ca) v) ∧ Kept (· = g) w5 (w5.setCell ⟨g, 3, none⟩ v) from fun v => ⟨HKE.out.setCell (p := ⟨g, 3, none⟩) (fun hh => by have h1 : g < wo.heap.size := hh; have := HGG.out; omega) _, by simp [World.setCell, Array.getElem?_modify, hB5, SBx], (Kept.refl _ w5).setB 3 v⟩)
          have HA5 := hide (show ∀ v, ArgSlP (fun b => g < b) (w5.setCell ⟨g, 3, none⟩ v) (.slice aa na ca) args from fun v => (HAd.out.keep hK5 (Q := fun b => g < b) (fun b _ hb => ⟨fun f => f, hb⟩)).keep (HX.out v).2.2 (fun b _ hb => ⟨by omega, hb⟩))
          have HS5 := hide (show ∀ v, SelSlP (fun b => g < b) (w5.setCell ⟨g, 3, none⟩ v) (.slice ak s.len ck) s from fun v => HSL.out.keep (HX.out v).2.2 (fun b _ hb => ⟨by omega, by omega⟩))
          have hk3c : ¬ (k3 : Int) < 0 := by omega
          clear hsl hs1 hs2 hK5 hB5
          go_wp2_with fail
          go_meet
          case rel => exact ⟨k3, s, ak, s.len, ck, rfl, by omega, by omega, HPS.out, (HX.out _).1, (HX.out _).2.1, HA5.out _, HS5.out _⟩
        · have hnone : pSels m1 (T.drop (k2 + 1)) = none := hor.elim (fun e => by rw [H4.out] at e; cases e) id
          have HE := hide (HSR1.out.bad (pSel1_w3 HPN.out HPO.out H4.out hnone))
          have HK5 := hide (tra HKr.out (tra HKd.out hK5))
          clear hor hnone hK5
          go_wp2_with fail
          go_ret2
          exact .inr ⟨.inr HE.out, rfl, HK5.out⟩
    case rest =>
    obtain ⟨k3, ks, ak, nk, ck, rfl, hk3a, hk3b, HPS, HKe, HBe, HAe, HSe⟩ := hcut
    obtain ⟨p, hp⟩ : ∃ p : SelC, p = ⟨al, nm, args, ks, .slice aa na ca, .slice ak nk ck⟩ := ⟨_, rfl⟩
    have HNX := hide (show xRel T f (T.drop (k + 1)) false m1 k3 (acc ++ [p]) from xRel.next HSR1.out (by rw [hp]; exact HPS.out))
    have HSC := hide (show selC p = [.string ⟨al.toArray⟩, .string ⟨nm.toArray⟩, .slice aa na ca, .slice ak nk ck] by rw [hp]; rfl)
    have HF1 := hide (show partsOk (fun b => g < b) wc p by rw [hp]; exact ⟨HAe.out, HSe.out⟩)
    have HF0 := hide (show ∀ p ∈ acc, partsOk (fun b => w.heap.size ≤ b ∧ some b ≠ (Value.slice ao3 acc.length cap3).ownBlock) wc p from fun p hp => (HPr.out p hp).keep HKe.out (fun b _ hb => ⟨fun f => f, hb⟩))
    have hBe : wc.heap[g]? = some (.cells #[.string ⟨al.toArray⟩, .string ⟨nm.toArray⟩, .slice aa na ca, .slice ak nk ck] 28 (0, 0)) := HBe.out
    obtain ⟨p0, p1, p2, p3⟩ := cells4 hBe
    have hgw : g < wc.heap.size := (Array.getElem?_eq_some_iff.1 hBe).1
    have hown1 := own_kept HOr.out HKe.out (fun _ _ f => f)
    have hws : w.heap.size ≤ wc.heap.size := Nat.le_trans HKr.out.size HKe.out.size
    have HKA := hide (tra HKr.out HKe.out)
    clear hp hBe HBe HAe HSe HPS HPO HPN HBd HAd H4 HBAD HSR1
    go_wp2_with (at_builtin; refine wpList_append_own_at _ rfl _ _ 22 rfl w.heap.size 28 i0 _ 4 80 Tryz.underlying22 hi hz0 hz1 hz2 rfl (by decide) _ _ _ rfl (hown1.alloc _) ⟨wc.heap.size, 0, none⟩ 1 1 (selC p) rfl rfl ?a1 ?a2 ?a3 ?a4 ?a5 ?_)
    case a1 => rw [HSC.out]; exact new_c4 wc _ _ _ _ _
    case a2 => intro u hu; rw [HSC.out] at hu; simp at hu; rcases hu with rfl | rfl | rfl | rfl <;> rfl
    case a3 => unfold maxLen; omega
    case a4 => omega
    case a5 => simp; omega
    intro v2 w2 hown2 hgr2 _ hat2
    obtain ⟨g2, cap2, hv2⟩ := own_form hown2 (by omega)
    subst hv2
    have hKb : Kept (fun k => some k = (Value.slice ao3 acc.length cap3).ownBlock) wc w2 := ((Kept.refl _ wc).alloc _).trans (grown_kept hgr2) (fun _ _ e => e)
    have hXb : ∀ k, some k = (Value.slice ao3 acc.length cap3).ownBlock → w.heap.size ≤ k ∧ k < g := fun k e => by have h1 := own_up HOr.out k e.symm; have := HGG.out; omega
    have HKC := hide (show Same w w2 from HKA.out.trans hKb (fun k hk e => by have := (hXb k e).1; omega))
    have hat3 : some g2 = (Value.slice ao3 acc.length cap3).ownBlock ∨ wc.heap.size ≤ g2 := by
      rcases hat2 with e | e
      · exact .inl e
      · right
        have e2 : g2 = _ := Option.some.inj e
        rw [e2]; simp
    have HFA := hide (show ∀ x ∈ acc ++ [p], partsOk (fun b => w.heap.size ≤ b ∧ some b ≠ (Value.slice (some ⟨g2, 0, none⟩) (acc.length + 1) cap2).ownBlock) w2 x from fun x hx => by
      rcases List.mem_append.1 hx with hx | hx
      · refine (HF0.out x hx).keep hKb (fun b hb hh => ⟨hh.2, hh.1, fun e => ?_⟩)
        have e2 : b = g2 := Option.some.inj e
        rcases hat3 with e3 | e3
        · exact hh.2 (by rw [e2]; exact e3)
        · omega
      · simp only [List.mem_singleton] at hx
        subst hx
        refine HF1.out.keep hKb (fun b hb hh => ⟨fun e => by have := (hXb b e).2; omega, by omega, fun e => ?_⟩)
        have e2 : b = g2 := Option.some.inj e
        rcases hat3 with e3 | e3
        · have := (hXb g2 e3).2; omega
        · omega)
    have HOW2 := hide (show w2.ownsRow w.heap.size 28 4 (.slice (some ⟨g2, 0, none⟩) (acc.length + 1) cap2) (acc ++ [p]).length (selCells (acc ++ [p])) by rw [selCells_app, List.length_append, show selCells [p] = selC p from by simp [selCells]]; exact hown2)
    clear hgr2 hown2 hat2 hat3 hKb hXb hown1
    go_wp2_with fail
    go_roundg (G - 1)
    case measure => omega
    case rel => exact ⟨m1, k3, false, acc ++ [p], by omega, by omega, by omega, by omega, by omega, by omega, by rw [List.length_append]; simp; omega, rfl, rfl, HKC.out, HOW2.out, HFA.out, HNX.out⟩

theorem selAt_any (f : Nat) : ∀ (w : World) (v : Value) (T : List Tok) (k : Nat), TokSl w v T → T.length ≤ 300 → k ≤ 300 → T.length ≤ f + (k + 1) → Calls Tryz.prog 25 #[v, .int .i64 ((k : Nat) : Int)] w (SA f w T k) := by
  induction f using Nat.strongRecOn with
  | ind f ih => exact fun w v T k h hT hk hf => selAt_step f ih w v T k h hT hk hf

end Go.Proofs.YtkkjchfhgjfclaaGreatDoor
