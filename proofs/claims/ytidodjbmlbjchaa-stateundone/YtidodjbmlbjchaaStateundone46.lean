import Derived.Test.YtidodjbmlbjchaaStateundone43
import Derived.Test.YtidodjbmlbjchaaStateundone45
import Derived.Test.YtidodjbmlbjchaaStateundone40
/- stateBegun. -/
namespace Go.Proofs.Ytidodjbmlbjchaa
open Go.RowKit

def stwA : StateT := ⟨types2, [⟨0, 3, [cw1, cw2, cw3, ⟨0, [], [3]⟩]⟩, tw2, tw3]⟩
def stwB : StateT := ⟨types2, [⟨0, 3, [cw1, cw2, cw3, ⟨0, [], [3]⟩]⟩, tw3]⟩
theorem bg1 : doSt world3 ⟨6, 0, 3, 3, 4, []⟩ = .ok stwA := by kernel_rfl
theorem bg2 : doSt world3 ⟨2, 0, 4, 0, 0, []⟩ = .error 4 := by kernel_rfl
theorem bg3 : doSt stwA ⟨2, 0, 4, 0, 0, []⟩ = .ok stwB := by kernel_rfl
theorem bg4 : undoSt world3 ⟨3, 0, 3, 0, 9, []⟩ = .ok ⟨3, 0, 3, 0, 5, []⟩ := by kernel_rfl
theorem bg5 : checkSt world3 = 0 := by kernel_rfl

abbrev evBg : EventT := ⟨3, 0, 3, 0, 5, []⟩
theorem eq_ev (w : World) : (binOp .eql 27 (evV evBg) (evV evBg)).run Try.prog w = .ok (.bool true) w := by kernel_rfl

set_option maxRecDepth 20000 in
set_option maxHeartbeats 3200000 in
theorem stateBegun_any (w : World) :
    Calls Try.prog 5 #[] w fun e w' => e = .returned (.bool true) ∧ Same w w' := by
  have HEQ := hide eq_ev
  go_enter Try.func5, Try.ntmps5
  go_wp2_with fail
  refine (world_any _).mono ?_
  rintro r w1 ⟨vt1, vh1, rfl, ht1, hh1, hK1⟩
  have HK1 := hide hK1
  have HD1 := hide (stDo_any w1 _ _ world3 ⟨6, 0, 3, 3, 4, []⟩ ht1 hh1)
  rw [bg1] at HD1
  obtain ⟨a1, c1, rfl, _, _⟩ := id ht1
  obtain ⟨a2, c2, rfl, _, _⟩ := id hh1
  clear hK1 ht1 hh1
  go_wp2_with fail
  refine HD1.out.mono ?_
  clear HD1
  rintro r w2 ⟨hK2, va, vb, rfl, hta, hha⟩
  obtain ⟨a3, c3, rfl, _, _⟩ := id hta
  obtain ⟨a4, c4, rfl, _, _⟩ := id hha
  obtain ⟨w3, hw3⟩ : ∃ w3, w3 = w2.alloc (.cells #[.slice a3 stwA.types.length c3, .slice a4 stwA.things.length c4] 25) := ⟨_, rfl⟩
  obtain ⟨ga, hga⟩ : ∃ g, g = w2.heap.size := ⟨_, rfl⟩
  have HK23 := hide (show Same w2 w3 by rw [hw3]; exact (Kept.refl _ w2).alloc _)
  have HK3 := hide (tra HK1.out (tra hK2 HK23.out))
  have HTA := hide (fun wy (hy : Same w3 wy) => (hta.same (tra HK23.out hy)).any)
  have HHA := hide (fun wy (hy : Same w3 wy) => (hha.same (tra HK23.out hy)).any)
  have hbx : w3.heap[ga]? = some (.cells #[.slice a3 stwA.types.length c3, .slice a4 stwA.things.length c4] 25 (0, 0)) := by rw [hw3, hga]; exact heap_alloc_new _ _
  have HBX := hide (fun wy (hy : Same w3 wy) => blk2' (blk_kept hbx hy (fun f => f)))
  clear hK2 hta hha hbx
  go_upto_region 2 with fail
  rw [← hw3, ← hga]
  clear hw3 hga
  go_wp2_with fail
  refine (world_any _).mono ?_
  rintro r w4 ⟨vt4, vh4, rfl, ht4, hh4, hK4⟩
  have HD4 := hide (stDo_any w4 _ _ world3 ⟨2, 0, 4, 0, 0, []⟩ ht4 hh4)
  rw [bg2] at HD4
  obtain ⟨a5, c5, rfl, _, _⟩ := id ht4
  obtain ⟨a6, c6, rfl, _, _⟩ := id hh4
  have HK34 := hide hK4
  clear hK4 ht4 hh4
  go_wp2_with fail
  refine HD4.out.mono ?_
  clear HD4
  rintro r w5 ⟨hK5, rfl⟩
  obtain ⟨w6, hw6⟩ : ∃ w6, w6 = w5.alloc (.cells #[.slice none 0 0, .slice none 0 0] 25) := ⟨_, rfl⟩
  have HK36 := hide (show Same w3 w6 from tra HK34.out (tra hK5 (by rw [hw6]; exact (Kept.refl _ w5).alloc _)))
  clear hK5
  go_upto_region 3 with fail
  rw [← hw6]
  clear hw6
  obtain ⟨x0, x1⟩ := HBX.out w6 HK36.out
  have HD6 := hide (stDo_any w6 _ _ stwA ⟨2, 0, 4, 0, 0, []⟩ (HTA.out w6 HK36.out) (HHA.out w6 HK36.out))
  rw [bg3] at HD6
  go_wp2_with fail
  refine HD6.out.mono ?_
  clear HD6 x0 x1
  rintro r w7 ⟨hK7, vc, vd, rfl, htb, hhb⟩
  obtain ⟨a7, c7, rfl, _, _⟩ := id htb
  obtain ⟨a8, c8, rfl, _, _⟩ := id hhb
  obtain ⟨w8, hw8⟩ : ∃ w8, w8 = w7.alloc (.cells #[.slice a7 stwB.types.length c7, .slice a8 stwB.things.length c8] 25) := ⟨_, rfl⟩
  obtain ⟨gb, hgb⟩ : ∃ g, g = w7.heap.size := ⟨_, rfl⟩
  have HK38 := hide (show Same w3 w8 from tra HK36.out (tra hK7 (by rw [hw8]; exact (Kept.refl _ w7).alloc _)))
  have hbx : w8.heap[gb]? = some (.cells #[.slice a7 stwB.types.length c7, .slice a8 stwB.things.length c8] 25 (0, 0)) := by rw [hw8, hgb]; exact heap_alloc_new _ _
  have HBY := hide (fun wy (hy : Same w8 wy) => blk2' (blk_kept hbx hy (fun f => f)))
  clear hK7 htb hhb hbx
  go_upto_region 4 with fail
  rw [← hw8, ← hgb]
  clear hw8 hgb
  go_wp2_with fail
  refine (world_any _).mono ?_
  rintro r w9 ⟨vt9, vh9, rfl, ht9, hh9, hK9⟩
  have HU9 := hide (stUndo_any w9 _ _ world3 ⟨3, 0, 3, 0, 9, []⟩ ht9 hh9)
  rw [bg4] at HU9
  obtain ⟨a9, c9, rfl, _, _⟩ := id ht9
  obtain ⟨a0, c0, rfl, _, _⟩ := id hh9
  have HK89 := hide hK9
  clear hK9 ht9 hh9
  go_wp2_with fail
  refine HU9.out.mono ?_
  clear HU9
  rintro r w10 ⟨hK10, rfl⟩
  obtain ⟨w11, hw11⟩ : ∃ w11, w11 = w10.alloc (.cells #[.int .i64 3, .int .i64 0, .int .i64 3, .int .i64 0, .int .i64 5, .string ⟨#[]⟩] 27) := ⟨_, rfl⟩
  obtain ⟨gu, hgu⟩ : ∃ g, g = w10.heap.size := ⟨_, rfl⟩
  have HK811 := hide (show Same w8 w11 from tra HK89.out (tra hK10 (by rw [hw11]; exact (Kept.refl _ w10).alloc _)))
  have hbx : w11.heap[gu]? = some (.cells #[.int .i64 3, .int .i64 0, .int .i64 3, .int .i64 0, .int .i64 5, .string ⟨#[]⟩] 27 (0, 0)) := by rw [hw11, hgu]; exact heap_alloc_new _ _
  have HBU := hide (fun wy (hy : Same w11 wy) => cells6e (blk_kept hbx hy (fun f => f)))
  clear hK10 hbx
  go_upto_region 5 with fail
  rw [← hw11, ← hgu]
  clear hw11 hgu
  go_wp2_with fail
  refine (world_any _).mono ?_
  rintro r w12 ⟨vt12, vh12, rfl, ht12, hh12, hK12⟩
  have HC := hide (stCheck_any w12 _ _ world3 ht12 hh12)
  rw [bg5] at HC
  obtain ⟨a12, c12, rfl, _, _⟩ := id ht12
  obtain ⟨a13, c13, rfl, _, _⟩ := id hh12
  have HK12 := hide hK12
  clear hK12 ht12 hh12
  go_wp2_with fail
  refine HC.out.mono ?_
  rintro r w13 ⟨rfl, hK13⟩
  have HKU := hide (tra HK12.out hK13)
  have HKB := hide (tra HK811.out HKU.out)
  have HKA := hide (tra HK38.out HKB.out)
  clear hK13
  obtain ⟨x0, x1⟩ := HBX.out w13 HKA.out
  obtain ⟨y0, y1⟩ := HBY.out w13 HKB.out
  obtain ⟨u0, u1, u2, u3, u4, u5, u6⟩ := HBU.out w13 HKU.out
  obtain ⟨bh, oh, ac, nc, cc, rfl, _, _, _, z2, hnc, hcl⟩ := (HHA.out w13 HKA.out).at 0 (by decide)
  obtain ⟨bc, oc, ai, ni, ci, rfl, _, _, _, d2, hni, _⟩ := hcl.at 3 (by decide)
  have hnc' : nc = 4 := hnc
  have hni' : ni = 1 := hni
  subst hnc' hni'
  have HFIN := hide (tra HK3.out HKA.out)
  have heq := HEQ.out w13
  have hl1 : stwA.things.length = 3 := rfl
  have hl2 : stwB.things.length = 2 := rfl
  rw [hl1] at x1
  rw [hl2] at y1
  simp only [Nat.zero_mul, Nat.add_zero] at z2 d2
  clear x0 y0 hnc hni hcl u6 hl1 hl2
  go_wp2_with fail
  go_ret
  exact ⟨rfl, HFIN.out⟩

end Go.Proofs.Ytidodjbmlbjchaa

/- The law StateUndone. -/
namespace Go.Proofs.Ytidodjbmlbjchaa
open Go.RowKit

set_option maxRecDepth 20000 in
set_option maxHeartbeats 3200000 in
theorem stateUndone_any (w : World) (vt vh : Value) (s : StateT) (e : EventT) (ht : TypSl anyB w vt s.types) (hh : ThgSl anyB w vh s.things) :
    Calls Try.prog 3 #[stV vt vh, evV e] w fun r w' => r = .returned (.bool true) ∧ Same w w' := by
  obtain ⟨at', ct, rfl, _, _⟩ := id ht
  obtain ⟨ah, ch, rfl, _, _⟩ := id hh
  obtain ⟨W, hW⟩ : ∃ W, W = (w.alloc (.cells #[.slice at' s.types.length ct, .slice ah s.things.length ch] 25)).alloc (.cells #[.int .i64 e.kind, .int .i64 e.ty, .int .i64 e.id, .int .i64 e.field, .int .i64 e.n, .string ⟨e.text.toArray⟩] 27) := ⟨_, rfl⟩
  obtain ⟨gs, hgs⟩ : ∃ g, g = w.heap.size := ⟨_, rfl⟩
  obtain ⟨ge, hge⟩ : ∃ g, g = w.heap.size + 1 := ⟨_, rfl⟩
  have HKW := hide (show Same w W by rw [hW]; exact ((Kept.refl _ w).alloc _).alloc _)
  have hGS : W.heap[gs]? = some (.cells #[.slice at' s.types.length ct, .slice ah s.things.length ch] 25 (0, 0)) := by rw [hW, hgs]; exact al_o _ _ _
  have hGE : W.heap[ge]? = some (.cells #[.int .i64 e.kind, .int .i64 e.ty, .int .i64 e.id, .int .i64 e.field, .int .i64 e.n, .string ⟨e.text.toArray⟩] 27 (0, 0)) := by rw [hW, hge]; exact al_n _ _ _
  obtain ⟨c0, c1⟩ := blk2' hGS
  obtain ⟨e0, e1, e2, e3, e4, e5⟩ := blk6 hGE
  have HALL := hide (fun wy (hy : Same W wy) => (⟨hy.cell c0 (fun f => f), hy.cell c1 (fun f => f), hy.cell e0 (fun f => f), hy.cell e1 (fun f => f), hy.cell e2 (fun f => f), hy.cell e3 (fun f => f), hy.cell e4 (fun f => f), hy.cell e5 (fun f => f)⟩ : wy.cell? ⟨gs, 0, none⟩ = _ ∧ wy.cell? ⟨gs, 1, none⟩ = _ ∧ wy.cell? ⟨ge, 0, none⟩ = _ ∧ wy.cell? ⟨ge, 1, none⟩ = _ ∧ wy.cell? ⟨ge, 2, none⟩ = _ ∧ wy.cell? ⟨ge, 3, none⟩ = _ ∧ wy.cell? ⟨ge, 4, none⟩ = _ ∧ wy.cell? ⟨ge, 5, none⟩ = _))
  have HT := hide (fun wy (hy : Same W wy) => (ht.same HKW.out).same hy)
  have HH := hide (fun wy (hy : Same W wy) => (hh.same HKW.out).same hy)
  clear ht hh hGS hGE c0 c1 e0 e1 e2 e3 e4 e5
  go_enter Try.func3, Try.ntmps3
  go_upto_region 1 with fail
  rw [← hW, ← hge, ← hgs]
  clear hW hge hgs
  go_wp2_with fail
  refine (stateBegun_any _).mono ?_
  rintro r w1 ⟨rfl, hK1⟩
  have HK1 := hide hK1
  clear hK1
  have HDO := hide (stDo_any w1 _ _ s e (HT.out w1 HK1.out) (HH.out w1 HK1.out))
  obtain ⟨c0, c1, e0, e1, e2, e3, e4, e5⟩ := HALL.out w1 HK1.out
  go_wp2_with fail
  refine HDO.out.mono ?_
  clear HDO c0 c1 e0 e1 e2 e3 e4 e5
  rintro r w2 ⟨hK2, hm⟩
  have HK2 := hide (tra HK1.out hK2)
  clear hK2
  cases hd : doSt s e with
  | error m =>
    rw [hd] at hm
    simp only at hm
    subst hm
    have hm0 := doSt_no hd
    have hqb : (m != 0) = true := by simp [hm0]
    clear hd hm0
    go_wp2_with fail
    go_ret
    exact ⟨rfl, tra HKW.out (HK2.out.alloc _)⟩
  | ok a =>
    rw [hd] at hm
    simp only at hm
    obtain ⟨va, vb, rfl, hva, hvb⟩ := hm
    obtain ⟨hra, hta⟩ := do_right hd
    obtain ⟨a3, c3, rfl, _, _⟩ := id hva
    obtain ⟨a4, c4, rfl, _, _⟩ := id hvb
    have HD := hide hd
    obtain ⟨w3, hw3⟩ : ∃ w3, w3 = w2.alloc (.cells #[.slice a3 a.types.length c3, .slice a4 a.things.length c4] 25) := ⟨_, rfl⟩
    obtain ⟨ga, hga⟩ : ∃ g, g = w2.heap.size := ⟨_, rfl⟩
    have HK23 := hide (show Same w2 w3 by rw [hw3]; exact (Kept.refl _ w2).alloc _)
    have HK3 := hide (tra HK2.out HK23.out)
    have HTA := hide (fun wy (hy : Same w3 wy) => (hva.same (tra HK23.out hy)).any)
    have HHA := hide (fun wy (hy : Same w3 wy) => (hvb.same (tra HK23.out hy)).any)
    have HST := hide (fun wy (hy : Same w3 wy) => sameTypes_eq wy (.slice a3 a.types.length c3) _ s.types anyB anyB (by rw [← hta]; exact HTA.out wy hy) (HT.out wy (tra HK3.out hy)))
    have hbx : w3.heap[ga]? = some (.cells #[.slice a3 a.types.length c3, .slice a4 a.things.length c4] 25 (0, 0)) := by rw [hw3, hga]; exact heap_alloc_new _ _
    have HBX := hide (fun wy (hy : Same w3 wy) => blk2' (blk_kept hbx hy (fun f => f)))
    have HCK := hide (fun wy (hy : Same w3 wy) => stCheck_any wy _ _ a (HTA.out wy hy) (HHA.out wy hy))
    rw [(checkSt_iff a).2 hra] at HCK
    clear hva hvb hbx hra hd hta
    go_upto_region 4 with fail
    rw [← hw3, ← hga]
    clear hw3 hga
    obtain ⟨x0, x1⟩ := HBX.out w3 (Kept.refl _ _)
    go_wp2_with fail
    refine (HCK.out _ (Kept.refl _ _)).mono ?_
    clear HCK x0 x1
    rintro r w4 ⟨rfl, hK4⟩
    have HK34 := hide hK4
    clear hK4
    obtain ⟨x0, x1⟩ := HBX.out w4 HK34.out
    obtain ⟨c0, c1, e0, e1, e2, e3, e4, e5⟩ := HALL.out w4 (tra HK3.out HK34.out)
    go_wp2_with fail
    refine (HST.out _ HK34.out).mono ?_
    clear HST x0 x1 c0 c1 e0 e1 e2 e3 e4 e5
    rintro r w5 ⟨rfl, n5, hw5⟩
    have HK35 := hide (tra HK34.out (show Same w4 w5 by rw [hw5]; exact (Kept.refl _ w4).drewN n5))
    have HK5 := hide (tra HK3.out HK35.out)
    clear hw5
    have HUN := hide (stUndo_any w5 _ _ s e (HT.out w5 HK5.out) (HH.out w5 HK5.out))
    obtain ⟨c0, c1, e0, e1, e2, e3, e4, e5⟩ := HALL.out w5 HK5.out
    go_wp2_with fail
    refine HUN.out.mono ?_
    clear HUN c0 c1 e0 e1 e2 e3 e4 e5
    rintro r w6 ⟨hK6, hm⟩
    have HK36 := hide (tra HK35.out hK6)
    clear hK6
    cases hu : undoSt s e with
    | error m =>
      rw [hu] at hm
      simp only at hm
      subst hm
      obtain ⟨rfl, he2⟩ := undo_err HD.out hu
      obtain ⟨w7, hw7⟩ : ∃ w7, w7 = w6.alloc (.cells #[.int .i64 0, .int .i64 0, .int .i64 0, .int .i64 0, .int .i64 0, .string ⟨#[]⟩] 27) := ⟨_, rfl⟩
      have HK7 := hide (tra HK3.out (tra HK36.out (show Same w6 w7 by rw [hw7]; exact (Kept.refl _ w6).alloc _)))
      obtain ⟨c0, c1, e0, e1, e2, e3, e4, e5⟩ := HALL.out w7 HK7.out
      rw [he2] at e0
      clear hu he2
      go_upto_region 9 with fail
      rw [← hw7]
      clear hw7
      go_wp2_with fail
      go_ret
      exact ⟨rfl, tra HKW.out HK7.out⟩
    | ok u =>
      rw [hu] at hm
      simp only at hm
      subst hm
      have hund := undone HD.out hu
      obtain ⟨w7, hw7⟩ : ∃ w7, w7 = w6.alloc (.cells #[.int .i64 u.kind, .int .i64 u.ty, .int .i64 u.id, .int .i64 u.field, .int .i64 u.n, .string ⟨u.text.toArray⟩] 27) := ⟨_, rfl⟩
      obtain ⟨gu, hgu⟩ : ∃ g, g = w6.heap.size := ⟨_, rfl⟩
      have HK37 := hide (tra HK36.out (show Same w6 w7 by rw [hw7]; exact (Kept.refl _ w6).alloc _))
      have hbx : w7.heap[gu]? = some (.cells #[.int .i64 u.kind, .int .i64 u.ty, .int .i64 u.id, .int .i64 u.field, .int .i64 u.n, .string ⟨u.text.toArray⟩] 27 (0, 0)) := by rw [hw7, hgu]; exact heap_alloc_new _ _
      obtain ⟨u0, u1, u2, u3, u4, u5⟩ := blk6 hbx
      have HD2 := hide (stDo_any w7 _ _ a u (HTA.out w7 HK37.out) (HHA.out w7 HK37.out))
      rw [hund] at HD2
      obtain ⟨x0, x1⟩ := HBX.out w7 HK37.out
      clear hu hund hbx
      go_upto_region 9 with fail
      rw [← hw7, ← hgu]
      clear hw7 hgu
      go_wp2_with fail
      refine HD2.out.mono ?_
      clear HD2 u0 u1 u2 u3 u4 u5 x0 x1
      rintro r w8 ⟨hK8, vc, vd, rfl, htb, hhb⟩
      obtain ⟨a7, c7, rfl, _, _⟩ := id htb
      obtain ⟨a8, c8, rfl, _, _⟩ := id hhb
      obtain ⟨w9, hw9⟩ : ∃ w9, w9 = w8.alloc (.cells #[.slice a7 s.types.length c7, .slice a8 s.things.length c8] 25) := ⟨_, rfl⟩
      obtain ⟨gb, hgb⟩ : ∃ g, g = w8.heap.size := ⟨_, rfl⟩
      have HK89 := hide (show Same w8 w9 by rw [hw9]; exact (Kept.refl _ w8).alloc _)
      have HK9 := hide (tra HK3.out (tra HK37.out (tra hK8 HK89.out)))
      have hbx : w9.heap[gb]? = some (.cells #[.slice a7 s.types.length c7, .slice a8 s.things.length c8] 25 (0, 0)) := by rw [hw9, hgb]; exact heap_alloc_new _ _
      obtain ⟨y0, y1⟩ := blk2' hbx
      have HSS := hide (sameState_eq w9 _ _ _ _ s (htb.same HK89.out).any (HT.out w9 HK9.out) (hhb.same HK89.out).any (HH.out w9 HK9.out))
      obtain ⟨c0, c1, e0, e1, e2, e3, e4, e5⟩ := HALL.out w9 HK9.out
      clear hK8 htb hhb hbx
      go_upto_region 12 with fail
      rw [← hw9, ← hgb]
      clear hw9 hgb
      go_wp2_with fail
      refine HSS.out.mono ?_
      rintro r w10 ⟨rfl, hK10⟩
      have HF := hide (tra HKW.out (tra HK9.out hK10))
      clear hK10
      go_wp2_with fail
      go_ret
      exact ⟨rfl, HF.out⟩

end Go.Proofs.Ytidodjbmlbjchaa
