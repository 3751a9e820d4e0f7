/- The law StateApart. -/
import Derived.Test.YtidodjbmlbjchaaStateapart40
import Derived.Test.YtidodjbmlbjchaaStateapart46
import Derived.Deep.DeepCutAuto
namespace Go.Proofs.Ytidodjbmlbjchaa
open Go.RowKit

theorem thIx_mem {a : StateT} (h : Right a) {t : ThingT} (ht : t ∈ a.things) : ∃ j, ∃ hj : j < a.things.length, a.things[j] = t ∧ thIx a.things t.ty t.id = j := by
  obtain ⟨j, hj, hjt⟩ := List.getElem_of_mem ht
  refine ⟨j, hj, hjt, thIx_is hj (by rw [hjt]; exact ⟨rfl, rfl⟩) fun k hk hkj hx => ?_⟩
  have := key_inj h.sorted hk hj (by rw [hx.1, hjt]) (by rw [hx.2, hjt])
  omega

theorem one_thing {P : Nat → Prop} {w : World} {b : Nat} {t : ThingT} {vc : Value} {ty : TypeId} (h : w.heap[b]? = some (.cells #[.int .i64 t.ty, .int .i64 t.id, vc] ty (0, 0))) (hP : P b) (hc : CelSl P w vc t.cells) : ThgSl P w (.slice (some ⟨b, 0, none⟩) 1 1) [t] := by
  refine ⟨some ⟨b, 0, none⟩, 1, rfl, ⟨by simp [maxLen], by simp⟩, fun i x hx => ?_⟩
  cases i with
  | zero =>
    simp at hx
    subst hx
    obtain ⟨h0, h1, h2⟩ := blk3 h
    exact ⟨b, 0, vc, rfl, hP, h0, h1, h2, hc⟩
  | succ i => simp at hx

set_option maxRecDepth 20000 in
set_option maxHeartbeats 3200000 in
theorem stateApart_any (w : World) (vt vh : Value) (s : StateT) (x y : EventT) (ht : TypSl anyB w vt s.types) (hh : ThgSl anyB w vh s.things) :
    Calls Try.prog 4 #[stV vt vh, evV x, evV y] w fun r w' => r = .returned (.bool true) ∧ Same w w' := by
  obtain ⟨at', ct, rfl, _, _⟩ := id ht
  obtain ⟨ah, ch, rfl, _, _⟩ := id hh
  obtain ⟨_, hmax, _⟩ := hh.len
  obtain ⟨W, hW⟩ : ∃ W, W = ((w.alloc (.cells #[.slice at' s.types.length ct, .slice ah s.things.length ch] 25)).alloc (.cells #[.int .i64 x.kind, .int .i64 x.ty, .int .i64 x.id, .int .i64 x.field, .int .i64 x.n, .string ⟨x.text.toArray⟩] 27)).alloc (.cells #[.int .i64 y.kind, .int .i64 y.ty, .int .i64 y.id, .int .i64 y.field, .int .i64 y.n, .string ⟨y.text.toArray⟩] 27) := ⟨_, rfl⟩
  obtain ⟨gs, hgs⟩ : ∃ g, g = w.heap.size := ⟨_, rfl⟩
  obtain ⟨gx, hgx⟩ : ∃ g, g = w.heap.size + 1 := ⟨_, rfl⟩
  obtain ⟨gy, hgy⟩ : ∃ g, g = w.heap.size + 1 + 1 := ⟨_, rfl⟩
  have HKW := hide (show Same w W by rw [hW]; exact (((Kept.refl _ w).alloc _).alloc _).alloc _)
  have hGS : W.heap[gs]? = some (.cells #[.slice at' s.types.length ct, .slice ah s.things.length ch] 25 (0, 0)) := by rw [hW, hgs]; rw [Below.heap_alloc _ _ _ (by simp; omega)]; exact al_o _ _ _
  have hGX : W.heap[gx]? = some (.cells #[.int .i64 x.kind, .int .i64 x.ty, .int .i64 x.id, .int .i64 x.field, .int .i64 x.n, .string ⟨x.text.toArray⟩] 27 (0, 0)) := by rw [hW, hgx]; rw [Below.heap_alloc _ _ _ (by simp)]; exact al_n _ _ _
  have hGY : W.heap[gy]? = some (.cells #[.int .i64 y.kind, .int .i64 y.ty, .int .i64 y.id, .int .i64 y.field, .int .i64 y.n, .string ⟨y.text.toArray⟩] 27 (0, 0)) := by rw [hW, hgy]; have h := heap_alloc_new ((w.alloc (.cells #[.slice at' s.types.length ct, .slice ah s.things.length ch] 25)).alloc (.cells #[.int .i64 x.kind, .int .i64 x.ty, .int .i64 x.id, .int .i64 x.field, .int .i64 x.n, .string ⟨x.text.toArray⟩] 27)) (.cells #[.int .i64 y.kind, .int .i64 y.ty, .int .i64 y.id, .int .i64 y.field, .int .i64 y.n, .string ⟨y.text.toArray⟩] 27); rw [World.size_alloc, World.size_alloc] at h; exact h
  have HS := hide (fun wy (hy : Same W wy) => blk2' (blk_kept hGS hy (fun f => f)))
  have HX := hide (fun wy (hy : Same W wy) => blk6 (blk_kept hGX hy (fun f => f)))
  have HY := hide (fun wy (hy : Same W wy) => blk6 (blk_kept hGY hy (fun f => f)))
  have HT := hide (fun wy (hy : Same W wy) => (ht.same HKW.out).same hy)
  have HH := hide (fun wy (hy : Same W wy) => (hh.same HKW.out).same hy)
  clear ht hh hGS hGX hGY
  go_enter Try.func4, Try.ntmps4
  go_upto_region 1 with fail
  rw [← hW, ← hgy, ← hgx, ← hgs]
  clear hW hgy hgx hgs
  go_wp2_with fail
  refine (stateBegun_any _).mono ?_
  rintro r w1 ⟨rfl, hK1⟩
  have HK1 := hide hK1
  clear hK1
  have HDO := hide (stDo_any w1 _ _ s x (HT.out w1 HK1.out) (HH.out w1 HK1.out))
  obtain ⟨c0, c1⟩ := HS.out w1 HK1.out
  obtain ⟨e0, e1, e2, e3, e4, e5⟩ := HX.out w1 HK1.out
  go_wp2_with fail
  refine HDO.out.mono ?_
  clear HDO c0 c1 e0 e1 e2 e3 e4 e5
  rintro r w2 ⟨hK2, hm⟩
  have HK2 := hide (tra HK1.out hK2)
  clear hK2
  cases hd : doSt s x with
  | error m =>
    rw [hd] at hm
    simp only at hm
    subst hm
    have hm0 := doSt_no hd
    have hqb : (m != 0) = true := by simp [hm0]
    clear hd hm0
    go_wp2_with fail
    go_ret
    exact ⟨rfl, tra HKW.out (HK2.out.alloc _)⟩
  | ok a =>
    rw [hd] at hm
    simp only at hm
    obtain ⟨va, vb, rfl, hva, hvb⟩ := hm
    obtain ⟨hra, hta⟩ := do_right hd
    obtain ⟨a3, c3, rfl, _, _⟩ := id hva
    obtain ⟨a4, c4, rfl, _, _⟩ := id hvb
    have HD := hide hd
    obtain ⟨w3, hw3⟩ : ∃ w3, w3 = w2.alloc (.cells #[.slice a3 a.types.length c3, .slice a4 a.things.length c4] 25) := ⟨_, rfl⟩
    obtain ⟨ga, hga⟩ : ∃ g, g = w2.heap.size := ⟨_, rfl⟩
    have HK23 := hide (show Same w2 w3 by rw [hw3]; exact (Kept.refl _ w2).alloc _)
    have HK3 := hide (tra HK2.out HK23.out)
    have HTA := hide (fun wy (hy : Same w3 wy) => (hva.same (tra HK23.out hy)).any)
    have HHA := hide (fun wy (hy : Same w3 wy) => (hvb.same (tra HK23.out hy)).any)
    have hbx : w3.heap[ga]? = some (.cells #[.slice a3 a.types.length c3, .slice a4 a.things.length c4] 25 (0, 0)) := by rw [hw3, hga]; exact heap_alloc_new _ _
    have HBX := hide (fun wy (hy : Same w3 wy) => blk2' (blk_kept hbx hy (fun f => f)))
    have HRA := hide hra
    have HTI := hide (fun wy (hy : Same w3 wy) ty ix => rThingAt_any wy a3 a.types.length c3 _ a.things ty ix anyB (HHA.out wy hy))
    clear hva hvb hbx hra hd hta
    go_upto_region 4 with fail
    rw [← hw3, ← hga]
    clear hw3 hga
    obtain ⟨c0, c1⟩ := HS.out w3 HK3.out
    go_wp2_with fail
    go_loopg [9] s.things.length (fun g i wr => ∃ k : Nat, k + g = s.things.length ∧ i = .int .i64 k ∧ Hid (Same w3 wr))
    case atStart => exact ⟨0, by omega, rfl, Kept.refl _ _⟩
    case round =>
      obtain ⟨k, hk, rfl, HK⟩ := hrel
      clear c0 c1
      obtain ⟨c0, c1⟩ := HS.out wr (tra HK3.out HK.out)
      by_cases hlt : k < s.things.length
      · obtain ⟨ba, oa, aca, nca, cca, rfl, _, a0, a1, a2, hna, hca⟩ := (HH.out wr (tra HK3.out HK.out)).at k hlt
        obtain ⟨t, het⟩ : ∃ t, t = s.things[k] := ⟨_, rfl⟩
        have HME := hide (show t ∈ s.things by rw [het]; exact List.getElem_mem hlt)
        rw [← het] at a0 a1 hna hca
        have HCA := hide hca
        have HNA := hide hna
        clear het hca hna
        go_upto_region 10 with fail
        obtain ⟨w4, hw4⟩ : ∃ w4, w4 = wr.alloc (.cells #[.int .i64 t.ty, .int .i64 t.id, .slice aca nca cca] 40) := ⟨_, rfl⟩
        obtain ⟨gt, hgt⟩ : ∃ g, g = wr.heap.size := ⟨_, rfl⟩
        have HK34 := hide (show Same wr w4 by rw [hw4]; exact (Kept.refl _ wr).alloc _)
        have HK4 := hide (tra HK.out HK34.out)
        have hbt : w4.heap[gt]? = some (.cells #[.int .i64 t.ty, .int .i64 t.id, .slice aca nca cca] 40 (0, 0)) := by rw [hw4, hgt]; exact heap_alloc_new _ _
        have HBT := hide (fun wy (hy : Same w4 wy) => blk3 (blk_kept hbt hy (fun f => f)))
        have HCT := hide (fun wy (hy : Same w4 wy) => (HCA.out.same HK34.out).same hy)
        rw [← hw4, ← hgt]
        clear hw4 hgt hbt c0 c1 a0 a1 a2
        obtain ⟨x0, x1⟩ := HBX.out w4 HK4.out
        obtain ⟨t0, t1, t2⟩ := HBT.out w4 (Kept.refl _ _)
        go_wp2_with fail
        refine (HTI.out _ HK4.out t.ty t.id).mono ?_
        rintro r w5 ⟨rfl, hK5⟩
        clear x0 x1 t0 t1 t2
        have HK45 := hide hK5
        clear hK5
        obtain ⟨z, hz⟩ : ∃ z, thIx a.things t.ty t.id = z := ⟨_, rfl⟩
        rw [hz]
        have HZ := hide hz
        clear hz
        obtain ⟨t0, t1, t2⟩ := HBT.out w5 HK45.out
        obtain ⟨e0, e1, e2, e3, e4, e5⟩ := HX.out w5 (tra HK3.out (tra HK4.out HK45.out))
        go_upto_region 11 with fail
        go_cut [62] from 33 to 78 (fun v wx => v = .bool (decide (t.ty = x.ty ∧ t.id = x.id)) ∧ Hid (Same w5 wx))
        case first =>
          by_cases h1 : t.ty = x.ty
          · by_cases h2 : t.id = x.id
            · rw [← h1] at e1
              rw [← h2] at e2
              have HF := hide (show Value.bool true = .bool (decide (t.ty = x.ty ∧ t.id = x.id)) by simp [h1, h2])
              clear h1 h2
              go_wp2_with fail
              go_meet
              case rel => exact ⟨HF.out, Kept.refl _ _⟩
            · rw [← h1] at e1
              have HF := hide (show Value.bool false = .bool (decide (t.ty = x.ty ∧ t.id = x.id)) by simp [h2])
              have hb : (t.id == x.id) = false := by simp [h2]
              clear h1 h2
              go_wp2_with fail
              go_meet
              case rel => exact ⟨HF.out, Kept.refl _ _⟩
          · have HF := hide (show Value.bool false = .bool (decide (t.ty = x.ty ∧ t.id = x.id)) by simp [h1])
            have hb : (t.ty == x.ty) = false := by simp [h1]
            clear h1
            go_wp2_with fail
            go_meet
            case rel => exact ⟨HF.out, Kept.refl _ _⟩
        case rest =>
          obtain ⟨hv, HKc⟩ := hcut
          subst hv
          have HKe := hide (tra HK45.out HKc.out)
          have HK3e := hide (tra HK4.out HKe.out)
          clear t0 t1 t2 e0 e1 e2 e3 e4 e5
          by_cases hns : t.ty = x.ty ∧ t.id = x.id
          · have hdec : decide (t.ty = x.ty ∧ t.id = x.id) = true := by simp [hns]
            rw [hdec]
            clear hns hdec
            go_wp2_with fail
            go_roundg (gk - 1)
            case measure => omega
            case rel => exact ⟨k + 1, by omega, by go_num, HK3e⟩
          · have hdec : decide (t.ty = x.ty ∧ t.id = x.id) = false := by simp [hns]
            rw [hdec]
            obtain ⟨j, hj, hjt, hzj⟩ := thIx_mem HRA.out (others HD.out HME.out hns)
            obtain rfl : z = (j : Int) := HZ.out.symm.trans hzj
            obtain ⟨b4, o4, ac4, nc4, cc4, rfl, _, f0, f1, f2, hn4, hc4⟩ := (HHA.out wc HK3e.out).at j hj
            rw [hjt] at f0 f1 hn4 hc4
            have HC4 := hide hc4
            have hneg : ¬ ((j : Int) < 0) := by omega
            have hpos : (0 : Int) ≤ (j : Int) := by omega
            have hlen : (j : Int) < (a.things.length : Int) := by omega
            have HSS := hide (fun wy (hy : Same wc wy) b1 b2 (h1 : wy.heap[b1]? = some (.cells #[.int .i64 t.ty, .int .i64 t.id, .slice aca nca cca] 40 (0, 0))) (h2 : wy.heap[b2]? = some (.cells #[.int .i64 t.ty, .int .i64 t.id, .slice ac4 nc4 cc4] 40 (0, 0))) =>
              sameState_eq wy (.slice none 0 0) (.slice none 0 0) (.slice (some ⟨b1, 0, none⟩) 1 1) (.slice (some ⟨b2, 0, none⟩) 1 1) ⟨[], [t]⟩ (TypSl.nil _ _) (TypSl.nil _ _) (one_thing h1 trivial (HCT.out wy (tra HKe.out hy))) (one_thing h2 trivial (HC4.out.same hy)))
            have HSAB := hide (fun (v1 v2 : Value) (wz : World) (hw : (v1 = .slice (some ⟨wc.heap.size, 0, none⟩) 1 1 ∧ v2 = .slice (some ⟨wc.heap.size + 1, 0, none⟩) 1 1 ∧ wz = ((wc.alloc (.cells #[.int .i64 t.ty, .int .i64 t.id, .slice aca nca cca] 40)).alloc (.cells #[.int .i64 t.ty, .int .i64 t.id, .slice ac4 nc4 cc4] 40)).drew) ∨ (v1 = .slice (some ⟨wc.heap.size + 1, 0, none⟩) 1 1 ∧ v2 = .slice (some ⟨wc.heap.size, 0, none⟩) 1 1 ∧ wz = ((wc.alloc (.cells #[.int .i64 t.ty, .int .i64 t.id, .slice ac4 nc4 cc4] 40)).alloc (.cells #[.int .i64 t.ty, .int .i64 t.id, .slice aca nca cca] 40)).drew)) => (show Calls Try.prog 10 #[stV (.slice none 0 0) v1, stV (.slice none 0 0) v2] wz fun e w' => e = .returned (.bool true) ∧ Same wc w' from by
              rcases hw with ⟨rfl, rfl, rfl⟩ | ⟨rfl, rfl, rfl⟩
              · exact (HSS.out _ (((Kept.refl _ wc).alloc _).alloc _).drew _ _ (al_o wc _ _) (al_n wc _ _)).mono (fun e w' h => ⟨h.1, tra (((Kept.refl _ wc).alloc _).alloc _).drew h.2⟩)
              · exact (HSS.out _ (((Kept.refl _ wc).alloc _).alloc _).drew _ _ (al_n wc _ _) (al_o wc _ _)).mono (fun e w' h => ⟨h.1, tra (((Kept.refl _ wc).alloc _).alloc _).drew h.2⟩)))
            have HCC := hide (fun wy (hy : Same wc wy) => (⟨hy.cell f0 (fun f => f), hy.cell f1 (fun f => f), hy.cell f2 (fun f => f)⟩ : wy.cell? ⟨b4, o4 + j * 3, none⟩ = _ ∧ wy.cell? ⟨b4, o4 + j * 3 + 1, none⟩ = _ ∧ wy.cell? ⟨b4, o4 + j * 3 + 2, none⟩ = _))
            obtain ⟨x0, x1⟩ := HBX.out wc HK3e.out
            obtain ⟨t0, t1, t2⟩ := HBT.out wc HKe.out
            clear hns hdec hjt hzj hn4 hc4
            go_wp2_with fail
            go_region_held3 (fun w' => w'.cell? ⟨gt, 0, none⟩ = some (.int .i64 t.ty) ∧ w'.cell? ⟨gt, 1, none⟩ = some (.int .i64 t.id) ∧ w'.cell? ⟨gt, 2, none⟩ = some (.slice aca nca cca) ∧ w'.cell? ⟨ga, 1, none⟩ = some (.slice (some ⟨b4, o4, none⟩) a.things.length c4) ∧ w'.cell? ⟨b4, o4 + j * 3, none⟩ = some (.int .i64 t.ty) ∧ w'.cell? ⟨b4, o4 + j * 3 + 1, none⟩ = some (.int .i64 t.id) ∧ w'.cell? ⟨b4, o4 + j * 3 + 2, none⟩ = some (.slice ac4 nc4 cc4)) (go_keep)
              ((go_at_call 10; refine (HSAB.out _ _ _ (by first | exact .inl ⟨rfl, rfl, rfl⟩ | exact .inr ⟨rfl, rfl, rfl⟩)).mono ?_; rintro r9 w9 ⟨rfl, hK9⟩; obtain ⟨v0, v1⟩ := HBX.out w9 (tra HK3e.out hK9); obtain ⟨v2, v3, v4⟩ := HBT.out w9 (tra HKe.out hK9); obtain ⟨v5, v6, v7⟩ := HCC.out w9 hK9))
            all_goals
              have HK9 := hide (tra HK3e.out hK9)
              clear hK9 v0 v1 v2 v3 v4 v5 v6 v7
              go_wp2_with fail
              go_roundg (gk - 1)
              case measure => omega
              case rel => exact ⟨k + 1, by omega, by go_num, HK9⟩
      · have HKE := hide HK.out
        obtain ⟨e0, e1, e2, e3, e4, e5⟩ := HX.out wr (tra HK3.out HK.out)
        obtain ⟨y0, y1, y2, y3, y4, y5⟩ := HY.out wr (tra HK3.out HK.out)
        have HFIN := hide (tra HKW.out (tra HK3.out HK.out))
        by_cases hx3 : x.kind < 3
        · go_wp2_with fail
          go_ret
          exact ⟨rfl, HFIN.out⟩
        by_cases hy3 : y.kind < 3
        · go_wp2_with fail
          go_ret
          exact ⟨rfl, HFIN.out⟩
        have HX3 := hide (show 3 ≤ x.kind by omega)
        have HY3 := hide (show 3 ≤ y.kind by omega)
        have HEI := hide (fun hne => either HD.out HX3.out HY3.out hne)
        go_upto_region 15 with fail
        go_cut [108] (fun v wx => v = .bool (decide (x.ty = y.ty ∧ x.id = y.id ∧ x.field = y.field)) ∧ Hid (Same wr wx))
        case first =>
          by_cases h1 : x.ty = y.ty
          · by_cases h2 : x.id = y.id
            · by_cases h3 : x.field = y.field
              · have HF := hide (show Value.bool true = .bool (decide (x.ty = y.ty ∧ x.id = y.id ∧ x.field = y.field)) by simp [h1, h2, h3])
                rw [← h1] at y1
                rw [← h2] at y2
                rw [← h3] at y3
                clear h1 h2 h3
                go_wp2_with fail
                go_meet
                case rel => exact ⟨HF.out, Kept.refl _ _⟩
              · have HF := hide (show Value.bool false = .bool (decide (x.ty = y.ty ∧ x.id = y.id ∧ x.field = y.field)) by simp [h3])
                have hb : (x.field == y.field) = false := by simp [h3]
                rw [← h1] at y1
                rw [← h2] at y2
                clear h1 h2 h3
                go_wp2_with fail
                go_meet
                case rel => exact ⟨HF.out, Kept.refl _ _⟩
            · have HF := hide (show Value.bool false = .bool (decide (x.ty = y.ty ∧ x.id = y.id ∧ x.field = y.field)) by simp [h2])
              have hb : (x.id == y.id) = false := by simp [h2]
              rw [← h1] at y1
              clear h1 h2
              go_wp2_with fail
              go_meet
              case rel => exact ⟨HF.out, Kept.refl _ _⟩
          · have HF := hide (show Value.bool false = .bool (decide (x.ty = y.ty ∧ x.id = y.id ∧ x.field = y.field)) by simp [h1])
            have hb : (x.ty == y.ty) = false := by simp [h1]
            clear h1
            go_wp2_with fail
            go_meet
            case rel => exact ⟨HF.out, Kept.refl _ _⟩
        case rest =>
          obtain ⟨hv, HKc⟩ := hcut
          subst hv
          have HK3c := hide (tra HK.out HKc.out)
          have HKF := hide (tra HKW.out (tra HK3.out HK3c.out))
          clear c0 c1 e0 e1 e2 e3 e4 e5 y0 y1 y2 y3 y4 y5 hx3 hy3
          by_cases hns : x.ty = y.ty ∧ x.id = y.id ∧ x.field = y.field
          · have hdec : decide (x.ty = y.ty ∧ x.id = y.id ∧ x.field = y.field) = true := by simp [hns]
            rw [hdec]
            clear hns hdec
            go_wp2_with fail
            go_ret
            exact ⟨rfl, HKF.out⟩
          have hdec : decide (x.ty = y.ty ∧ x.id = y.id ∧ x.field = y.field) = false := by simp [hns]
          rw [hdec]
          have hei := HEI.out hns
          clear hns hdec
          have HDA := hide (stDo_any wc _ _ a y (HTA.out wc HK3c.out) (HHA.out wc HK3c.out))
          obtain ⟨x0, x1⟩ := HBX.out wc HK3c.out
          obtain ⟨y0, y1, y2, y3, y4, y5⟩ := HY.out wc (tra HK3.out HK3c.out)
          cases hdy : doSt s y with
          | error m =>
            rw [hdy] at hei
            simp only at hei
            rw [hei] at HDA
            have hm0 := doSt_no hdy
            have hmb : (m != 0) = true := by simp [hm0]
            have HDY := hide hdy
            clear hei hdy
            go_wp2_with fail
            refine HDA.out.mono ?_
            clear HDA x0 x1 y0 y1 y2 y3 y4 y5
            rintro r w6 ⟨hK6, rfl⟩
            obtain ⟨w7, hw7⟩ : ∃ w7, w7 = w6.alloc (.cells #[.slice none 0 0, .slice none 0 0] 25) := ⟨_, rfl⟩
            have HK7 := hide (tra HK3.out (tra HK3c.out (tra hK6 (show Same w6 w7 by rw [hw7]; exact (Kept.refl _ w6).alloc _))))
            clear hK6
            go_upto_region 18 with fail
            rw [← hw7]
            clear hw7
            have HDS := hide (stDo_any w7 _ _ s y (HT.out w7 HK7.out) (HH.out w7 HK7.out))
            rw [HDY.out] at HDS
            obtain ⟨c0, c1⟩ := HS.out w7 HK7.out
            obtain ⟨y0, y1, y2, y3, y4, y5⟩ := HY.out w7 HK7.out
            go_wp2_with fail
            refine HDS.out.mono ?_
            clear HDS c0 c1 y0 y1 y2 y3 y4 y5
            rintro r w8 ⟨hK8, rfl⟩
            have HF := hide (tra HKW.out (tra HK7.out (hK8.alloc (.cells #[.slice none 0 0, .slice none 0 0] 25))))
            clear hK8 hm0
            go_wp2_with fail
            go_ret
            exact ⟨rfl, HF.out⟩
          | ok c =>
            rw [hdy] at hei
            obtain ⟨b, hb1, hb2⟩ := hei
            rw [hb1] at HDA
            have HDY := hide hdy
            have HB2 := hide hb2
            clear hdy hb1 hb2
            go_wp2_with fail
            refine HDA.out.mono ?_
            clear HDA x0 x1 y0 y1 y2 y3 y4 y5
            rintro r w6 ⟨hK6, vc, vd, rfl, htb, hhb⟩
            obtain ⟨a7, c7, rfl, _, _⟩ := id htb
            obtain ⟨a8, c8, rfl, _, _⟩ := id hhb
            obtain ⟨w7, hw7⟩ : ∃ w7, w7 = w6.alloc (.cells #[.slice a7 b.types.length c7, .slice a8 b.things.length c8] 25) := ⟨_, rfl⟩
            obtain ⟨gb, hgb⟩ : ∃ g, g = w6.heap.size := ⟨_, rfl⟩
            have HK67 := hide (show Same w6 w7 by rw [hw7]; exact (Kept.refl _ w6).alloc _)
            have HK7 := hide (tra HK3.out (tra HK3c.out (tra hK6 HK67.out)))
            have hbx : w7.heap[gb]? = some (.cells #[.slice a7 b.types.length c7, .slice a8 b.things.length c8] 25 (0, 0)) := by rw [hw7, hgb]; exact heap_alloc_new _ _
            have HBB := hide (fun wy (hy : Same w7 wy) => blk2' (blk_kept hbx hy (fun f => f)))
            have HTB := hide (fun wy (hy : Same w7 wy) => (htb.same (tra HK67.out hy)).any)
            have HHB := hide (fun wy (hy : Same w7 wy) => (hhb.same (tra HK67.out hy)).any)
            clear hK6 htb hhb hbx
            go_upto_region 18 with fail
            rw [← hw7, ← hgb]
            clear hw7 hgb
            have HDS := hide (stDo_any w7 _ _ s y (HT.out w7 HK7.out) (HH.out w7 HK7.out))
            rw [HDY.out] at HDS
            obtain ⟨c0, c1⟩ := HS.out w7 HK7.out
            obtain ⟨y0, y1, y2, y3, y4, y5⟩ := HY.out w7 HK7.out
            go_wp2_with fail
            refine HDS.out.mono ?_
            clear HDS c0 c1 y0 y1 y2 y3 y4 y5
            rintro r w8 ⟨hK8, ve, vf, rfl, htc, hhc⟩
            obtain ⟨a9, c9, rfl, _, _⟩ := id htc
            obtain ⟨a0, c0, rfl, _, _⟩ := id hhc
            obtain ⟨w9, hw9⟩ : ∃ w9, w9 = w8.alloc (.cells #[.slice a9 c.types.length c9, .slice a0 c.things.length c0] 25) := ⟨_, rfl⟩
            obtain ⟨gc, hgc⟩ : ∃ g, g = w8.heap.size := ⟨_, rfl⟩
            have HK89 := hide (show Same w8 w9 by rw [hw9]; exact (Kept.refl _ w8).alloc _)
            have HK79 := hide (tra hK8 HK89.out)
            have HK9 := hide (tra HK7.out HK79.out)
            obtain ⟨z0, z1⟩ := blk2' (show w9.heap[gc]? = some (.cells #[.slice a9 c.types.length c9, .slice a0 c.things.length c0] 25 (0, 0)) by rw [hw9, hgc]; exact heap_alloc_new _ _)
            have HDC := hide (stDo_any w9 _ _ c x (htc.same HK89.out).any (hhc.same HK89.out).any)
            rw [HB2.out] at HDC
            clear hK8 htc hhc
            go_upto_region 19 with fail
            rw [← hw9, ← hgc]
            clear hw9 hgc
            obtain ⟨e0, e1, e2, e3, e4, e5⟩ := HX.out w9 HK9.out
            go_wp2_with fail
            refine HDC.out.mono ?_
            clear HDC e0 e1 e2 e3 e4 e5 z0 z1
            rintro r w10 ⟨hK10, vg, vi, rfl, htd, hhd⟩
            obtain ⟨a5, c5, rfl, _, _⟩ := id htd
            obtain ⟨a6, c6, rfl, _, _⟩ := id hhd
            obtain ⟨w11, hw11⟩ : ∃ w11, w11 = w10.alloc (.cells #[.slice a5 b.types.length c5, .slice a6 b.things.length c6] 25) := ⟨_, rfl⟩
            obtain ⟨gd, hgd⟩ : ∃ g, g = w10.heap.size := ⟨_, rfl⟩
            have HK10 := hide (show Same w10 w11 by rw [hw11]; exact (Kept.refl _ w10).alloc _)
            have HK711 := hide (tra HK79.out (tra hK10 HK10.out))
            obtain ⟨z0, z1⟩ := blk2' (show w11.heap[gd]? = some (.cells #[.slice a5 b.types.length c5, .slice a6 b.things.length c6] 25 (0, 0)) by rw [hw11, hgd]; exact heap_alloc_new _ _)
            have HSE := hide (sameState_eq w11 _ _ _ _ b (HTB.out w11 HK711.out) (htd.same HK10.out).any (HHB.out w11 HK711.out) (hhd.same HK10.out).any)
            clear hK10 htd hhd
            go_upto_region 22 with fail
            rw [← hw11, ← hgd]
            clear hw11 hgd
            obtain ⟨x0, x1⟩ := HBB.out w11 HK711.out
            go_wp2_with fail
            refine HSE.out.mono ?_
            rintro r w12 ⟨rfl, hK12⟩
            have HF := hide (tra HKW.out (tra HK7.out (tra HK711.out hK12)))
            clear hK12
            go_wp2_with fail
            go_ret
            exact ⟨rfl, HF.out⟩

end Go.Proofs.Ytidodjbmlbjchaa
