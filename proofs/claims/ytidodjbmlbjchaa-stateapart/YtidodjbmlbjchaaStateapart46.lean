/- stateBegun. -/
import Derived.Test.YtidodjbmlbjchaaStateapart43
import Derived.Test.YtidodjbmlbjchaaStateapart45
namespace Go.Proofs.Ytidodjbmlbjchaa
open Go.RowKit

def stwA : StateT := ⟨types2, [⟨0, 3, [cw1, cw2, cw3, ⟨0, [], [3]⟩]⟩, tw2, tw3]⟩
def stwB : StateT := ⟨types2, [⟨0, 3, [cw1, cw2, cw3, ⟨0, [], [3]⟩]⟩, tw3]⟩
theorem bg1 : doSt world3 ⟨6, 0, 3, 3, 4, []⟩ = .ok stwA := by kernel_rfl
theorem bg2 : doSt world3 ⟨2, 0, 4, 0, 0, []⟩ = .error 4 := by kernel_rfl
theorem bg3 : doSt stwA ⟨2, 0, 4, 0, 0, []⟩ = .ok stwB := by kernel_rfl
theorem bg4 : undoSt world3 ⟨3, 0, 3, 0, 9, []⟩ = .ok ⟨3, 0, 3, 0, 5, []⟩ := by kernel_rfl
theorem bg5 : checkSt world3 = 0 := by kernel_rfl

abbrev evBg : EventT := ⟨3, 0, 3, 0, 5, []⟩
theorem eq_ev (w : World) : (binOp .eql 27 (evV evBg) (evV evBg)).run Try.prog w = .ok (.bool true) w := by kernel_rfl

set_option maxRecDepth 20000 in
set_option maxHeartbeats 3200000 in
theorem stateBegun_any (w : World) :
    Calls Try.prog 5 #[] w fun e w' => e = .returned (.bool true) ∧ Same w w' := by
  have HEQ := hide eq_ev
  go_enter Try.func5, Try.ntmps5
  go_wp2_with fail
  refine (world_any _).mono ?_
  rintro r w1 ⟨vt1, vh1, rfl, ht1, hh1, hK1⟩
  have HK1 := hide hK1
  have HD1 := hide (stDo_any w1 _ _ world3 ⟨6, 0, 3, 3, 4, []⟩ ht1 hh1)
  rw [bg1] at HD1
  obtain ⟨a1, c1, rfl, _, _⟩ := id ht1
  obtain ⟨a2, c2, rfl, _, _⟩ := id hh1
  clear hK1 ht1 hh1
  go_wp2_with fail
  refine HD1.out.mono ?_
  clear HD1
  rintro r w2 ⟨hK2, va, vb, rfl, hta, hha⟩
  obtain ⟨a3, c3, rfl, _, _⟩ := id hta
  obtain ⟨a4, c4, rfl, _, _⟩ := id hha
  obtain ⟨w3, hw3⟩ : ∃ w3, w3 = w2.alloc (.cells #[.slice a3 stwA.types.length c3, .slice a4 stwA.things.length c4] 25) := ⟨_, rfl⟩
  obtain ⟨ga, hga⟩ : ∃ g, g = w2.heap.size := ⟨_, rfl⟩
  have HK23 := hide (show Same w2 w3 by rw [hw3]; exact (Kept.refl _ w2).alloc _)
  have HK3 := hide (tra HK1.out (tra hK2 HK23.out))
  have HTA := hide (fun wy (hy : Same w3 wy) => (hta.same (tra HK23.out hy)).any)
  have HHA := hide (fun wy (hy : Same w3 wy) => (hha.same (tra HK23.out hy)).any)
  have hbx : w3.heap[ga]? = some (.cells #[.slice a3 stwA.types.length c3, .slice a4 stwA.things.length c4] 25 (0, 0)) := by rw [hw3, hga]; exact heap_alloc_new _ _
  have HBX := hide (fun wy (hy : Same w3 wy) => blk2' (blk_kept hbx hy (fun f => f)))
  clear hK2 hta hha hbx
  go_upto_region 2 with fail
  rw [← hw3, ← hga]
  clear hw3 hga
  go_wp2_with fail
  refine (world_any _).mono ?_
  rintro r w4 ⟨vt4, vh4, rfl, ht4, hh4, hK4⟩
  have HD4 := hide (stDo_any w4 _ _ world3 ⟨2, 0, 4, 0, 0, []⟩ ht4 hh4)
  rw [bg2] at HD4
  obtain ⟨a5, c5, rfl, _, _⟩ := id ht4
  obtain ⟨a6, c6, rfl, _, _⟩ := id hh4
  have HK34 := hide hK4
  clear hK4 ht4 hh4
  go_wp2_with fail
  refine HD4.out.mono ?_
  clear HD4
  rintro r w5 ⟨hK5, rfl⟩
  obtain ⟨w6, hw6⟩ : ∃ w6, w6 = w5.alloc (.cells #[.slice none 0 0, .slice none 0 0] 25) := ⟨_, rfl⟩
  have HK36 := hide (show Same w3 w6 from tra HK34.out (tra hK5 (by rw [hw6]; exact (Kept.refl _ w5).alloc _)))
  clear hK5
  go_upto_region 3 with fail
  rw [← hw6]
  clear hw6
  obtain ⟨x0, x1⟩ := HBX.out w6 HK36.out
  have HD6 := hide (stDo_any w6 _ _ stwA ⟨2, 0, 4, 0, 0, []⟩ (HTA.out w6 HK36.out) (HHA.out w6 HK36.out))
  rw [bg3] at HD6
  go_wp2_with fail
  refine HD6.out.mono ?_
  clear HD6 x0 x1
  rintro r w7 ⟨hK7, vc, vd, rfl, htb, hhb⟩
  obtain ⟨a7, c7, rfl, _, _⟩ := id htb
  obtain ⟨a8, c8, rfl, _, _⟩ := id hhb
  obtain ⟨w8, hw8⟩ : ∃ w8, w8 = w7.alloc (.cells #[.slice a7 stwB.types.length c7, .slice a8 stwB.things.length c8] 25) := ⟨_, rfl⟩
  obtain ⟨gb, hgb⟩ : ∃ g, g = w7.heap.size := ⟨_, rfl⟩
  have HK38 := hide (show Same w3 w8 from tra HK36.out (tra hK7 (by rw [hw8]; exact (Kept.refl _ w7).alloc _)))
  have hbx : w8.heap[gb]? = some (.cells #[.slice a7 stwB.types.length c7, .slice a8 stwB.things.length c8] 25 (0, 0)) := by rw [hw8, hgb]; exact heap_alloc_new _ _
  have HBY := hide (fun wy (hy : Same w8 wy) => blk2' (blk_kept hbx hy (fun f => f)))
  clear hK7 htb hhb hbx
  go_upto_region 4 with fail
  rw [← hw8, ← hgb]
  clear hw8 hgb
  go_wp2_with fail
  refine (world_any _).mono ?_
  rintro r w9 ⟨vt9, vh9, rfl, ht9, hh9, hK9⟩
  have HU9 := hide (stUndo_any w9 _ _ world3 ⟨3, 0, 3, 0, 9, []⟩ ht9 hh9)
  rw [bg4] at HU9
  obtain ⟨a9, c9, rfl, _, _⟩ := id ht9
  obtain ⟨a0, c0, rfl, _, _⟩ := id hh9
  have HK89 := hide hK9
  clear hK9 ht9 hh9
  go_wp2_with fail
  refine HU9.out.mono ?_
  clear HU9
  rintro r w10 ⟨hK10, rfl⟩
  obtain ⟨w11, hw11⟩ : ∃ w11, w11 = w10.alloc (.cells #[.int .i64 3, .int .i64 0, .int .i64 3, .int .i64 0, .int .i64 5, .string ⟨#[]⟩] 27) := ⟨_, rfl⟩
  obtain ⟨gu, hgu⟩ : ∃ g, g = w10.heap.size := ⟨_, rfl⟩
  have HK811 := hide (show Same w8 w11 from tra HK89.out (tra hK10 (by rw [hw11]; exact (Kept.refl _ w10).alloc _)))
  have hbx : w11.heap[gu]? = some (.cells #[.int .i64 3, .int .i64 0, .int .i64 3, .int .i64 0, .int .i64 5, .string ⟨#[]⟩] 27 (0, 0)) := by rw [hw11, hgu]; exact heap_alloc_new _ _
  have HBU := hide (fun wy (hy : Same w11 wy) => cells6e (blk_kept hbx hy (fun f => f)))
  clear hK10 hbx
  go_upto_region 5 with fail
  rw [← hw11, ← hgu]
  clear hw11 hgu
  go_wp2_with fail
  refine (world_any _).mono ?_
  rintro r w12 ⟨vt12, vh12, rfl, ht12, hh12, hK12⟩
  have HC := hide (stCheck_any w12 _ _ world3 ht12 hh12)
  rw [bg5] at HC
  obtain ⟨a12, c12, rfl, _, _⟩ := id ht12
  obtain ⟨a13, c13, rfl, _, _⟩ := id hh12
  have HK12 := hide hK12
  clear hK12 ht12 hh12
  go_wp2_with fail
  refine HC.out.mono ?_
  rintro r w13 ⟨rfl, hK13⟩
  have HKU := hide (tra HK12.out hK13)
  have HKB := hide (tra HK811.out HKU.out)
  have HKA := hide (tra HK38.out HKB.out)
  clear hK13
  obtain ⟨x0, x1⟩ := HBX.out w13 HKA.out
  obtain ⟨y0, y1⟩ := HBY.out w13 HKB.out
  obtain ⟨u0, u1, u2, u3, u4, u5, u6⟩ := HBU.out w13 HKU.out
  obtain ⟨bh, oh, ac, nc, cc, rfl, _, _, _, z2, hnc, hcl⟩ := (HHA.out w13 HKA.out).at 0 (by decide)
  obtain ⟨bc, oc, ai, ni, ci, rfl, _, _, _, d2, hni, _⟩ := hcl.at 3 (by decide)
  have hnc' : nc = 4 := hnc
  have hni' : ni = 1 := hni
  subst hnc' hni'
  have HFIN := hide (tra HK3.out HKA.out)
  have heq := HEQ.out w13
  have hl1 : stwA.things.length = 3 := rfl
  have hl2 : stwB.things.length = 2 := rfl
  rw [hl1] at x1
  rw [hl2] at y1
  simp only [Nat.zero_mul, Nat.add_zero] at z2 d2
  clear x0 y0 hnc hni hcl u6 hl1 hl2
  go_wp2_with fail
  go_ret
  exact ⟨rfl, HFIN.out⟩

end Go.Proofs.Ytidodjbmlbjchaa
