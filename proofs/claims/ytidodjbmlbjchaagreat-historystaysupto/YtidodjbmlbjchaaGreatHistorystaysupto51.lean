import Derived.Test.YtidodjbmlbjchaaGreatHistorystaysupto43
import Derived.Test.YtidodjbmlbjchaaGreatHistorystaysupto50
import Derived.Test.YtidodjbmlbjchaaGreatHistorystaysupto48
import Derived.Test.YtidodjbmlbjchaaGreatHistorystaysupto49
import Derived.Deep.DeepCutAuto
/- stateBegun. -/
namespace Go.Proofs.YtidodjbmlbjchaaGreat
open Go.RowKit

def stwA : StateT := ⟨types2, [⟨0, 3, [cw1, cw2, cw3, ⟨0, [], [3]⟩]⟩, tw2, tw3]⟩
def stwB : StateT := ⟨types2, [⟨0, 3, [cw1, cw2, cw3, ⟨0, [], [3]⟩]⟩, tw3]⟩
theorem bg1 : doSt world3 ⟨6, 0, 3, 3, 4, []⟩ = .ok stwA := by kernel_rfl
theorem bg2 : doSt world3 ⟨2, 0, 4, 0, 0, []⟩ = .error 4 := by kernel_rfl
theorem bg3 : doSt stwA ⟨2, 0, 4, 0, 0, []⟩ = .ok stwB := by kernel_rfl
theorem bg4 : undoSt world3 ⟨3, 0, 3, 0, 9, []⟩ = .ok ⟨3, 0, 3, 0, 5, []⟩ := by kernel_rfl
theorem bg5 : checkSt world3 = 0 := by kernel_rfl

abbrev evBg : EventT := ⟨3, 0, 3, 0, 5, []⟩
theorem eq_ev (w : World) : (binOp .eql 27 (evV evBg) (evV evBg)).run Tryz.prog w = .ok (.bool true) w := by kernel_rfl

set_option maxRecDepth 20000 in
set_option maxHeartbeats 3200000 in
theorem stateBegun_any (w : World) :
    Calls Tryz.prog 12 #[] w fun e w' => e = .returned (.bool true) ∧ Same w w' := by
  have HEQ := hide eq_ev
  go_enter Tryz.func12, Tryz.ntmps12
  go_wp2_with fail
  refine (world_any _).mono ?_
  rintro r w1 ⟨vt1, vh1, rfl, ht1, hh1, hK1⟩
  have HK1 := hide hK1
  have HD1 := hide (stDo_any w1 _ _ world3 ⟨6, 0, 3, 3, 4, []⟩ ht1 hh1)
  rw [bg1] at HD1
  obtain ⟨a1, c1, rfl, _, _⟩ := id ht1
  obtain ⟨a2, c2, rfl, _, _⟩ := id hh1
  clear hK1 ht1 hh1
  go_wp2_with fail
  refine HD1.out.mono ?_
  clear HD1
  rintro r w2 ⟨hK2, va, vb, rfl, hta, hha⟩
  obtain ⟨a3, c3, rfl, _, _⟩ := id hta
  obtain ⟨a4, c4, rfl, _, _⟩ := id hha
  obtain ⟨w3, hw3⟩ : ∃ w3, w3 = w2.alloc (.cells #[.slice a3 stwA.types.length c3, .slice a4 stwA.things.length c4] 25) := ⟨_, rfl⟩
  obtain ⟨ga, hga⟩ : ∃ g, g = w2.heap.size := ⟨_, rfl⟩
  have HK23 := hide (show Same w2 w3 by rw [hw3]; exact (Kept.refl _ w2).alloc _)
  have HK3 := hide (tra HK1.out (tra hK2 HK23.out))
  have HTA := hide (fun wy (hy : Same w3 wy) => (hta.same (tra HK23.out hy)).any)
  have HHA := hide (fun wy (hy : Same w3 wy) => (hha.same (tra HK23.out hy)).any)
  have hbx : w3.heap[ga]? = some (.cells #[.slice a3 stwA.types.length c3, .slice a4 stwA.things.length c4] 25 (0, 0)) := by rw [hw3, hga]; exact heap_alloc_new _ _
  have HBX := hide (fun wy (hy : Same w3 wy) => blk2' (blk_kept hbx hy (fun f => f)))
  clear hK2 hta hha hbx
  go_upto_region 2 with fail
  rw [← hw3, ← hga]
  clear hw3 hga
  go_wp2_with fail
  refine (world_any _).mono ?_
  rintro r w4 ⟨vt4, vh4, rfl, ht4, hh4, hK4⟩
  have HD4 := hide (stDo_any w4 _ _ world3 ⟨2, 0, 4, 0, 0, []⟩ ht4 hh4)
  rw [bg2] at HD4
  obtain ⟨a5, c5, rfl, _, _⟩ := id ht4
  obtain ⟨a6, c6, rfl, _, _⟩ := id hh4
  have HK34 := hide hK4
  clear hK4 ht4 hh4
  go_wp2_with fail
  refine HD4.out.mono ?_
  clear HD4
  rintro r w5 ⟨hK5, rfl⟩
  obtain ⟨w6, hw6⟩ : ∃ w6, w6 = w5.alloc (.cells #[.slice none 0 0, .slice none 0 0] 25) := ⟨_, rfl⟩
  have HK36 := hide (show Same w3 w6 from tra HK34.out (tra hK5 (by rw [hw6]; exact (Kept.refl _ w5).alloc _)))
  clear hK5
  go_upto_region 3 with fail
  rw [← hw6]
  clear hw6
  obtain ⟨x0, x1⟩ := HBX.out w6 HK36.out
  have HD6 := hide (stDo_any w6 _ _ stwA ⟨2, 0, 4, 0, 0, []⟩ (HTA.out w6 HK36.out) (HHA.out w6 HK36.out))
  rw [bg3] at HD6
  go_wp2_with fail
  refine HD6.out.mono ?_
  clear HD6 x0 x1
  rintro r w7 ⟨hK7, vc, vd, rfl, htb, hhb⟩
  obtain ⟨a7, c7, rfl, _, _⟩ := id htb
  obtain ⟨a8, c8, rfl, _, _⟩ := id hhb
  obtain ⟨w8, hw8⟩ : ∃ w8, w8 = w7.alloc (.cells #[.slice a7 stwB.types.length c7, .slice a8 stwB.things.length c8] 25) := ⟨_, rfl⟩
  obtain ⟨gb, hgb⟩ : ∃ g, g = w7.heap.size := ⟨_, rfl⟩
  have HK38 := hide (show Same w3 w8 from tra HK36.out (tra hK7 (by rw [hw8]; exact (Kept.refl _ w7).alloc _)))
  have hbx : w8.heap[gb]? = some (.cells #[.slice a7 stwB.types.length c7, .slice a8 stwB.things.length c8] 25 (0, 0)) := by rw [hw8, hgb]; exact heap_alloc_new _ _
  have HBY := hide (fun wy (hy : Same w8 wy) => blk2' (blk_kept hbx hy (fun f => f)))
  clear hK7 htb hhb hbx
  go_upto_region 4 with fail
  rw [← hw8, ← hgb]
  clear hw8 hgb
  go_wp2_with fail
  refine (world_any _).mono ?_
  rintro r w9 ⟨vt9, vh9, rfl, ht9, hh9, hK9⟩
  have HU9 := hide (stUndo_any w9 _ _ world3 ⟨3, 0, 3, 0, 9, []⟩ ht9 hh9)
  rw [bg4] at HU9
  obtain ⟨a9, c9, rfl, _, _⟩ := id ht9
  obtain ⟨a0, c0, rfl, _, _⟩ := id hh9
  have HK89 := hide hK9
  clear hK9 ht9 hh9
  go_wp2_with fail
  refine HU9.out.mono ?_
  clear HU9
  rintro r w10 ⟨hK10, rfl⟩
  obtain ⟨w11, hw11⟩ : ∃ w11, w11 = w10.alloc (.cells #[.int .i64 3, .int .i64 0, .int .i64 3, .int .i64 0, .int .i64 5, .string ⟨#[]⟩] 27) := ⟨_, rfl⟩
  obtain ⟨gu, hgu⟩ : ∃ g, g = w10.heap.size := ⟨_, rfl⟩
  have HK811 := hide (show Same w8 w11 from tra HK89.out (tra hK10 (by rw [hw11]; exact (Kept.refl _ w10).alloc _)))
  have hbx : w11.heap[gu]? = some (.cells #[.int .i64 3, .int .i64 0, .int .i64 3, .int .i64 0, .int .i64 5, .string ⟨#[]⟩] 27 (0, 0)) := by rw [hw11, hgu]; exact heap_alloc_new _ _
  have HBU := hide (fun wy (hy : Same w11 wy) => cells6e (blk_kept hbx hy (fun f => f)))
  clear hK10 hbx
  go_upto_region 5 with fail
  rw [← hw11, ← hgu]
  clear hw11 hgu
  go_wp2_with fail
  refine (world_any _).mono ?_
  rintro r w12 ⟨vt12, vh12, rfl, ht12, hh12, hK12⟩
  have HC := hide (stCheck_any w12 _ _ world3 ht12 hh12)
  rw [bg5] at HC
  obtain ⟨a12, c12, rfl, _, _⟩ := id ht12
  obtain ⟨a13, c13, rfl, _, _⟩ := id hh12
  have HK12 := hide hK12
  clear hK12 ht12 hh12
  go_wp2_with fail
  refine HC.out.mono ?_
  rintro r w13 ⟨rfl, hK13⟩
  have HKU := hide (tra HK12.out hK13)
  have HKB := hide (tra HK811.out HKU.out)
  have HKA := hide (tra HK38.out HKB.out)
  clear hK13
  obtain ⟨x0, x1⟩ := HBX.out w13 HKA.out
  obtain ⟨y0, y1⟩ := HBY.out w13 HKB.out
  obtain ⟨u0, u1, u2, u3, u4, u5, u6⟩ := HBU.out w13 HKU.out
  obtain ⟨bh, oh, ac, nc, cc, rfl, _, _, _, z2, hnc, hcl⟩ := (HHA.out w13 HKA.out).at 0 (by decide)
  obtain ⟨bc, oc, ai, ni, ci, rfl, _, _, _, d2, hni, _⟩ := hcl.at 3 (by decide)
  have hnc' : nc = 4 := hnc
  have hni' : ni = 1 := hni
  subst hnc' hni'
  have HFIN := hide (tra HK3.out HKA.out)
  have heq := HEQ.out w13
  have hl1 : stwA.things.length = 3 := rfl
  have hl2 : stwB.things.length = 2 := rfl
  rw [hl1] at x1
  rw [hl2] at y1
  simp only [Nat.zero_mul, Nat.add_zero] at z2 d2
  clear x0 y0 hnc hni hcl u6 hl1 hl2
  go_wp2_with fail
  go_ret
  exact ⟨rfl, HFIN.out⟩

end Go.Proofs.YtidodjbmlbjchaaGreat

/- historyBegun. -/
namespace Go.Proofs.YtidodjbmlbjchaaGreat
open Go.RowKit

def deeds4 : List EventT := [⟨1, 0, 1, 0, 0, []⟩, ⟨3, 0, 1, 0, 4, []⟩, ⟨1, 1, 2, 0, 0, []⟩, ⟨5, 0, 1, 2, 2, []⟩]
def stD : StateT := ⟨types2, [⟨0, 1, [⟨4, [], []⟩, cell0, ⟨0, [], [2]⟩, cell0]⟩, ⟨1, 2, [cell0]⟩]⟩
def stE : StateT := ⟨types2, [⟨0, 1, [⟨4, [], []⟩, cell0, cell0, cell0]⟩]⟩
theorem hb1 : atS types2 deeds4 deeds4.length = .ok stD := by kernel_rfl
theorem hb2 : atS types2 deeds4 2 = .ok stE := by kernel_rfl
theorem hb3 : groupS stE (deeds4.drop 2) = .ok stD := by kernel_rfl
theorem hb4 : backS stE (deeds4.drop 2) = .ok [⟨6, 0, 1, 2, 2, []⟩, ⟨2, 1, 2, 0, 0, []⟩] := by kernel_rfl

theorem evs_new {P : Nat → Prop} {w : World} (hP : P w.heap.size) (l : List EventT) (hn : l.length ≤ maxLen) {arr : Array Value} {t : TypeId} (ha : arr.toList = evCells l) :
    EvSl P (w.alloc (.cells arr t)) (.slice (some ⟨w.heap.size, 0, none⟩) l.length l.length) l := by
  refine ⟨_, l.length, rfl, ⟨hn, Nat.le_refl _⟩, fun i e he => ⟨w.heap.size, 0, rfl, hP, ?_⟩⟩
  have := ev_row (w := w.alloc (.cells arr t)) (b := w.heap.size) (off := 0) (l := l) (fun j u hj => by rw [Nat.zero_add]; exact new_at (by rw [ha]; exact hj)) i e he
  exact this

theorem deeds_any (w : World) :
    Calls Tryz.prog 49 #[] w fun e w' => ∃ b, e = .returned (.slice (some ⟨b, 0, none⟩) 4 4) ∧ EvSl (w.heap.size ≤ ·) w' (.slice (some ⟨b, 0, none⟩) 4 4) deeds4 ∧ Same w w' := by
  go_enter Tryz.func49, Tryz.ntmps49
  go_wp2
  go_ret
  exact ⟨_, rfl, evs_new (Nat.le_refl _) deeds4 (by simp [deeds4, maxLen]) rfl, (Kept.refl _ w).alloc _⟩

theorem EvSl.drop2 {P : Nat → Prop} {w : World} {b : Nat} {l : List EventT} (h : EvSl P w (.slice (some ⟨b, 0, none⟩) 4 4) l) : EvSl P w (.slice (some ⟨b, 12, none⟩) 2 2) (l.drop 2) := by
  obtain ⟨ao, cap, hv, hl, hc⟩ := h
  injection hv with h1 h2 h3
  have hlen : (l.drop 2).length = 2 := by rw [List.length_drop]; omega
  refine ⟨some ⟨b, 12, none⟩, 2, by rw [hlen], by rw [hlen]; exact ⟨by unfold maxLen; omega, Nat.le_refl _⟩, fun i e he => ?_⟩
  rw [List.getElem?_drop] at he
  obtain ⟨b', off, ha, hp, h0⟩ := hc (2 + i) e he
  rw [← h1] at ha
  cases ha
  refine ⟨b, 12, rfl, hp, ?_⟩
  rw [show 12 + i * 6 = 0 + (2 + i) * 6 by omega]
  exact h0

end Go.Proofs.YtidodjbmlbjchaaGreat

/- historyBegun: its walk. -/
namespace Go.Proofs.YtidodjbmlbjchaaGreat
open Go.RowKit

set_option maxRecDepth 20000 in
set_option maxHeartbeats 3200000 in
theorem historyBegun_any (w : World) :
    Calls Tryz.prog 22 #[] w fun e w' => e = .returned (.bool true) ∧ Same w w' := by
  go_enter Tryz.func22, Tryz.ntmps22
  go_wp2_with fail
  refine (types_any _).mono ?_
  rintro r w1 ⟨b1, rfl, ht1, hK1⟩
  have HT1 := hide (fun wy (hy : Same w1 wy) => (ht1.same hy).any)
  have HK1 := hide hK1
  clear ht1 hK1
  go_wp2_with fail
  refine (deeds_any _).mono ?_
  rintro r w2 ⟨b2, rfl, he2, hK2⟩
  have HA := hide (all_any _ w2 _ _ types2 deeds4 (HT1.out w2 hK2) he2)
  rw [hb1] at HA
  have HK2 := hide (tra HK1.out hK2)
  clear he2 hK2 HT1
  go_wp2_with fail
  refine HA.out.mono ?_
  clear HA
  rintro r w3 ⟨hK3, va, vb, rfl, hta, hha⟩
  obtain ⟨a3, c3, rfl, _, _⟩ := id hta
  obtain ⟨a4, c4, rfl, _, _⟩ := id hha
  obtain ⟨w4, hw4⟩ : ∃ w4, w4 = w3.alloc (.cells #[.slice a3 stD.types.length c3, .slice a4 stD.things.length c4] 25) := ⟨_, rfl⟩
  obtain ⟨ga, hga⟩ : ∃ g, g = w3.heap.size := ⟨_, rfl⟩
  have HK34 := hide (show Same w3 w4 by rw [hw4]; exact (Kept.refl _ w3).alloc _)
  have HK4 := hide (tra HK2.out (tra hK3 HK34.out))
  have HTA := hide (fun wy (hy : Same w4 wy) => (hta.same (tra HK34.out hy)).any)
  have HHA := hide (fun wy (hy : Same w4 wy) => (hha.same (tra HK34.out hy)).any)
  have hbx : w4.heap[ga]? = some (.cells #[.slice a3 stD.types.length c3, .slice a4 stD.things.length c4] 25 (0, 0)) := by rw [hw4, hga]; exact heap_alloc_new _ _
  have HBX := hide (fun wy (hy : Same w4 wy) => blk2' (blk_kept hbx hy (fun f => f)))
  clear hK3 hta hha hbx
  go_upto_region 2 with fail
  rw [← hw4, ← hga]
  clear hw4 hga
  go_wp2_with fail
  refine (types_any _).mono ?_
  rintro r w5 ⟨b5, rfl, ht5, hK5⟩
  have HT5 := hide (fun wy (hy : Same w5 wy) => (ht5.same hy).any)
  have HK45 := hide hK5
  clear ht5 hK5
  go_wp2_with fail
  refine (deeds_any _).mono ?_
  rintro r w6 ⟨b6, rfl, he6, hK6⟩
  have HA := hide (at_any _ w6 _ _ types2 deeds4 2 (by decide) (HT5.out w6 hK6) he6)
  rw [hb2] at HA
  have HK46 := hide (tra HK45.out hK6)
  clear he6 hK6 HT5
  go_wp2_with fail
  refine HA.out.mono ?_
  clear HA
  rintro r w7 ⟨hK7, vc, vd, rfl, htb, hhb⟩
  obtain ⟨a5, c5, rfl, _, _⟩ := id htb
  obtain ⟨a6, c6, rfl, _, _⟩ := id hhb
  obtain ⟨w8, hw8⟩ : ∃ w8, w8 = w7.alloc (.cells #[.slice a5 stE.types.length c5, .slice a6 stE.things.length c6] 25) := ⟨_, rfl⟩
  obtain ⟨gb, hgb⟩ : ∃ g, g = w7.heap.size := ⟨_, rfl⟩
  have HK78 := hide (show Same w7 w8 by rw [hw8]; exact (Kept.refl _ w7).alloc _)
  have HK48 := hide (tra HK46.out (tra hK7 HK78.out))
  have HTB := hide (fun wy (hy : Same w8 wy) => (htb.same (tra HK78.out hy)).any)
  have HHB := hide (fun wy (hy : Same w8 wy) => (hhb.same (tra HK78.out hy)).any)
  have hbx : w8.heap[gb]? = some (.cells #[.slice a5 stE.types.length c5, .slice a6 stE.things.length c6] 25 (0, 0)) := by rw [hw8, hgb]; exact heap_alloc_new _ _
  have HBY := hide (fun wy (hy : Same w8 wy) => blk2' (blk_kept hbx hy (fun f => f)))
  have HDD := hide (fun wy => deeds_any wy)
  have HGB := hide (show gb < w8.heap.size from (Array.getElem?_eq_some_iff.1 hbx).1)
  clear hK7 htb hhb hbx
  go_upto_region 3 with fail
  rw [← hw8, ← hgb]
  clear hw8 hgb
  obtain ⟨x0, x1⟩ := HBY.out w8 (Kept.refl _ _)
  go_cut [5, 6] (fun v5 v6 wx => ∃ (g5 : Nat) (a7 : Option Addr) (c7 : Nat) (a8 : Option Addr) (c8 : Nat), v5 = .pointer (some ⟨g5, 0, none⟩) ∧ v6 = .int .i64 0 ∧ Hid (Same w8 wx) ∧ Hid (wx.heap[g5]? = some (.cells #[.slice a7 stD.types.length c7, .slice a8 stD.things.length c8] 25 (0, 0))) ∧ Hid (TypSl anyB wx (.slice a7 stD.types.length c7) stD.types) ∧ Hid (ThgSl anyB wx (.slice a8 stD.things.length c8) stD.things))
  case first =>
    have hn8 : gb ≠ w8.heap.size := by have := HGB.out; omega
    have hn8' : w8.heap.size ≠ gb := by omega
    go_region_held3 (fun w' => w'.cell? ⟨gb, 0, none⟩ = some (.slice a5 stE.types.length c5) ∧ w'.cell? ⟨gb, 1, none⟩ = some (.slice a6 stE.things.length c6)) (go_keep)
      (first
        | (go_at_call 49; refine (HDD.out _).mono ?_; rintro r9 w9 ⟨b9, rfl, he9, hK9⟩; have HK9 := hide (tra (show Same w8 _ from (by exact (by repeat' (first | assumption | exact Kept.refl _ _ | refine Kept.drewN ?_ _ | refine Kept.drew ?_ | refine Kept.alloc ?_ _ | refine Kept.setB ?_ _ _)))) hK9); obtain ⟨v0, v1⟩ := HBY.out w9 HK9.out; have hn9 : gb ≠ w9.heap.size := (by have h8 := HGB.out; have h9 := HK9.out.size; omega); have hn9' : w9.heap.size ≠ gb := (by omega); have HE9 := hide (fun wy (hy : Same w9 wy) => (he9.same hy).drop2); first | (have hbx := new_kept hK9 (fun f => f)) | (have hbx := new_kept hK9.unD (fun f => f)) | skip; clear hK9 he9)
        | (go_at_call 17; have HGR := hide (fun wy (hy : Same w9 wy) => group_any _ wy _ _ _ stE (deeds4.drop 2) (HTB.out wy (tra HK9.out hy)) (HHB.out wy (tra HK9.out hy)) (HE9.out wy hy)); rw [hb3] at HGR; refine (HGR.out _ (by exact (by repeat' (first | assumption | exact Kept.refl _ _ | refine Kept.drewN ?_ _ | refine Kept.drew ?_ | refine Kept.alloc ?_ _ | refine Kept.setB ?_ _ _)))).mono ?_; rintro r10 w10 ⟨hK10, vt10, vh10, rfl, ht10, hh10⟩; obtain ⟨a7, c7, rfl, _, _⟩ := id ht10; obtain ⟨a8, c8, rfl, _, _⟩ := id hh10; have HK10 := hide (tra HK9.out (tra (show Same w9 _ from (by exact (by repeat' (first | assumption | exact Kept.refl _ _ | refine Kept.drewN ?_ _ | refine Kept.drew ?_ | refine Kept.alloc ?_ _ | refine Kept.setB ?_ _ _)))) hK10)); obtain ⟨z0, z1⟩ := HBY.out w10 HK10.out; have hn10 : gb ≠ w10.heap.size := (by have h8 := HGB.out; have h9 := HK10.out.size; omega); have hn10' : w10.heap.size ≠ gb := (by omega); have HF10 := hide (And.intro ht10 (And.intro hh10 hK10)); first | (revert hbx; intro hbx; have hbz := blk_kept (blk_kept hbx (show Same w9 _ from (by exact (by repeat' (first | assumption | exact Kept.refl _ _ | refine Kept.drewN ?_ _ | refine Kept.drew ?_ | refine Kept.alloc ?_ _ | refine Kept.setB ?_ _ _)))) (fun f => f)) hK10 (fun f => f); obtain ⟨y0, y1⟩ := blk2' hbz; have y2 := fro2' hbz) | (have hbz := new_kept hK10 (fun f => f); obtain ⟨y0, y1⟩ := blk2' hbz; have y2 := fro2' hbz) | (have hbz := new_kept hK10.unD (fun f => f); obtain ⟨y0, y1⟩ := blk2' hbz; have y2 := fro2' hbz) | skip; clear ht10 hh10 hK10 HGR))
    all_goals
      go_wp2_with fail
      go_meet
      case rel =>
        first
          | (have hz : w10.heap[w9.heap.size]? = some (.cells #[.slice none 0 0, .slice none 0 0] 25 (0, 0)) := hbz
             have hKg : Kept (· = w9.heap.size) w10 ((w10.setCell ⟨w9.heap.size, 0, none⟩ (.slice a7 stD.types.length c7)).setCell ⟨w9.heap.size, 1, none⟩ (.slice a8 stD.things.length c8)) := ((Kept.refl _ w10).setB 0 _).setB 1 _
             have hgs : w8.heap.size ≤ w9.heap.size := by first | exact Nat.le_refl _ | exact HK9.out.size
             exact ⟨_, _, _, _, _, rfl, rfl, HK10.out.trans hKg (fun i hi e => by omega), set2b' hz _ _, ((HF10.out.1.off hz).keep hKg (fun k hk e => hk.2 e)).any, ((HF10.out.2.1.off hz).keep hKg (fun k hk e => hk.2 e)).any⟩)
          | (have hz : w10.heap[w8.heap.size]? = some (.cells #[.slice none 0 0, .slice none 0 0] 25 (0, 0)) := hbz
             have hKg : Kept (· = w8.heap.size) w10 ((w10.setCell ⟨w8.heap.size, 0, none⟩ (.slice a7 stD.types.length c7)).setCell ⟨w8.heap.size, 1, none⟩ (.slice a8 stD.things.length c8)) := ((Kept.refl _ w10).setB 0 _).setB 1 _
             have hgs : w8.heap.size ≤ w8.heap.size := by first | exact Nat.le_refl _ | exact HK9.out.size
             exact ⟨_, _, _, _, _, rfl, rfl, HK10.out.trans hKg (fun i hi e => by omega), set2b' hz _ _, ((HF10.out.1.off hz).keep hKg (fun k hk e => hk.2 e)).any, ((HF10.out.2.1.off hz).keep hKg (fun k hk e => hk.2 e)).any⟩)
          | exact ⟨_, _, _, _, _, rfl, rfl, HK10.out.alloc _, heap_alloc_new _ _, (HF10.out.1.same ((Kept.refl _ w10).alloc _)).any, (HF10.out.2.1.same ((Kept.refl _ w10).alloc _)).any⟩
  case rest =>
    obtain ⟨g5, a7, c7, a8, c8, rfl, rfl, HKc, hbc, htc, hhc⟩ := hcut
    have HBZ := hide (fun wy (hy : Same wc wy) => blk2' (blk_kept hbc.out hy (fun f => f)))
    have HTC := hide (fun wy (hy : Same wc wy) => htc.out.same hy)
    have HHC := hide (fun wy (hy : Same wc wy) => hhc.out.same hy)
    clear hbc htc hhc x0 x1
    obtain ⟨x0, x1⟩ := HBY.out wc HKc.out
    go_wp2_with fail
    go_region_held3 (fun w' => w'.cell? ⟨gb, 0, none⟩ = some (.slice a5 stE.types.length c5) ∧ w'.cell? ⟨gb, 1, none⟩ = some (.slice a6 stE.things.length c6)) (go_keep)
      (first
        | (go_at_call 49; refine (HDD.out _).mono ?_; rintro r9 w9 ⟨b9, rfl, he9, hK9⟩; have HK9 := hide (tra (show Same wc _ from (by exact (by repeat' (first | assumption | exact Kept.refl _ _ | refine Kept.drewN ?_ _ | refine Kept.drew ?_ | refine Kept.alloc ?_ _ | refine Kept.setB ?_ _ _)))) hK9); obtain ⟨v0, v1⟩ := HBY.out w9 (tra HKc.out HK9.out); have HE9 := hide (fun wy (hy : Same w9 wy) => (he9.same hy).drop2); clear hK9 he9)
        | (go_at_call 18; have HGR := hide (fun wy (hy : Same w9 wy) => hback_any _ wy _ _ _ stE (deeds4.drop 2) (HTB.out wy (tra HKc.out (tra HK9.out hy))) (HHB.out wy (tra HKc.out (tra HK9.out hy))) (HE9.out wy hy)); rw [hb4] at HGR; refine (HGR.out _ (by exact (by repeat' (first | assumption | exact Kept.refl _ _ | refine Kept.drewN ?_ _ | refine Kept.drew ?_ | refine Kept.alloc ?_ _ | refine Kept.setB ?_ _ _)))).mono ?_; rintro r10 w10 ⟨hK10, v10, rfl, hev10⟩; have HK10 := hide (tra HK9.out (tra (show Same w9 _ from (by exact (by repeat' (first | assumption | exact Kept.refl _ _ | refine Kept.drewN ?_ _ | refine Kept.drew ?_ | refine Kept.alloc ?_ _ | refine Kept.setB ?_ _ _)))) hK10)); obtain ⟨z0, z1⟩ := HBY.out w10 (tra HKc.out HK10.out); obtain ⟨ae, ce, rfl⟩ := hev10.form; have HF10 := hide hev10; clear hev10 hK10 HGR))
    have hka := tra HK48.out (tra HKc.out HK10.out)
    obtain ⟨x0, x1⟩ := HBX.out w10 hka
    obtain ⟨y0, y1⟩ := HBZ.out w10 HK10.out
    have HSS := hide (sameState_eq w10 _ _ _ _ stD (HTA.out w10 hka) (HTC.out w10 HK10.out) (HHA.out w10 hka) (HHC.out w10 HK10.out))
    obtain ⟨be, oe, rfl, _, f0, f1, f2, f3, f4, f5⟩ := HF10.out.at 0 (by decide)
    have f0' : w10.cell? ⟨be, oe, none⟩ = some (.int .i64 6) := by simpa using f0
    have hl1 : stD.things.length = 2 := rfl
    have hl2 : stE.things.length = 1 := rfl
    have HFIN := hide (tra HK4.out hka)
    rw [hl1] at x1 y1 HSS
    rw [hl2] at z1
    clear f0 f1 f2 f3 f4 f5 hka hl1 hl2 v0 v1
    go_wp2_with fail
    refine HSS.out.mono ?_
    rintro r w12 ⟨rfl, hK12⟩
    have f0 := hK12.cell (p := ⟨be, oe, none⟩) f0' (fun f => f)
    have HF := hide (tra HFIN.out hK12)
    clear hK12 f0' x0 x1 y0 y1 z0 z1
    go_wp2_with fail
    go_ret
    exact ⟨rfl, HF.out⟩

end Go.Proofs.YtidodjbmlbjchaaGreat
