/- DiskKeeps: the walk of the law's function. (Written by tool/genkeeps.py.) -/
import Derived.Test.YtillhpepfpldcaaDiskkeeps21
import Derived.Test.YtillhpepfpldcaaDiskkeeps22
import Derived.Deep.DeepCutAuto
namespace Go.Proofs.Ytillhpepfpldcaa
open Go.RowKit

theorem BaSl.take {P : Nat → Prop} {w : World} {ao : Option Addr} {n cap : Nat} {l : List BatchT} (h : BaSl P w (.slice ao n cap) l) (j : Nat) (hj : j ≤ l.length) : BaSl P w (.slice ao j cap) (l.take j) := by
  obtain ⟨ao', cap', hv, hl, hc⟩ := h
  cases hv
  have e : (l.take j).length = j := by rw [List.length_take]; omega
  refine ⟨ao, cap, by rw [e], by rw [e]; exact ⟨by have := hl.1; omega, by have := hl.2; omega⟩, fun i t ht => hc i t ?_⟩
  rw [List.getElem?_take] at ht
  split at ht
  · exact ht
  · cases ht

theorem OAns.ok2 {d : DiskT} {w : World} {r : Ending} {w' : World} (hc : checkD d = 0) {o : DiskT} (ho : openD d = o) {l : List BatchT} (hl : batchesD d.segs = l) (h : OAns d w r w') : ∃ ab cb ao cap, r = .returned (.tuple #[.slice ab l.length cb, diV (.slice ao o.segs.length cap) o.synced, .int .i64 0]) ∧ BaSl (w.heap.size ≤ ·) w' (.slice ab l.length cb) l ∧ StSl (w.heap.size ≤ ·) w' (.slice ao o.segs.length cap) o.segs ∧ Same w w' := by
  subst ho hl
  exact h.ok hc
theorem OAns.no {d : DiskT} {w : World} {r : Ending} {w' : World} (hc : checkD d ≠ 0) (h : OAns d w r w') : r = .returned (.tuple #[.slice none 0 0, diV (.slice none 0 0) 0, .int .i64 (checkD d)]) ∧ Same w w' := by
  rcases h with ⟨h1, _⟩ | ⟨_, h2, h3⟩
  · exact absurd h1 hc
  · exact ⟨h2, h3⟩

theorem crash_ok {d : DiskT} (hc : checkD d = 0) {keep : Int} (hk : 0 ≤ keep) : crashD d keep = .ok (cutD d keep) := by
  unfold crashD
  rw [if_neg (by simp [hc]), if_neg (by omega)]

set_option maxRecDepth 20000 in
set_option maxHeartbeats 6400000 in
theorem diskKeeps_any (w : World) (d : DiskT) (vd : Value) (keep more : Int) (hk1 : keep ≤ 9223372036854775807) (hm1 : more ≤ 9223372036854775807) (hd : StSl anyE w vd d.segs) :
    Calls Try.prog 7 #[diV vd d.synced, .int .i64 keep, .int .i64 more] w fun e w' => e = .returned (.bool true) ∧ Same w w' := by
  have trs : ∀ {a b c : World}, Same a b → Same b c → Same a c := fun h k => h.trans k (fun _ _ f => f)
  obtain ⟨a3, c3, rfl⟩ := hd.form
  obtain ⟨W0, hW0⟩ : ∃ W0, W0 = w.alloc (.cells #[.slice a3 d.segs.length c3, .int .i64 d.synced] 38) := ⟨_, rfl⟩
  obtain ⟨b3, hb3⟩ : ∃ b3, b3 = w.heap.size := ⟨_, rfl⟩
  have HKW := hide (show Same w W0 by rw [hW0]; exact (Kept.refl _ w).alloc _)
  have HG3 := hide (show W0.heap[b3]? = some (.cells #[.slice a3 d.segs.length c3, .int .i64 d.synced] 38 (0, 0)) by rw [hW0, hb3]; exact heap_alloc_new _ _)
  have HS3 := hide (show StSl anyE W0 (.slice a3 d.segs.length c3) d.segs by rw [hW0]; exact hd.same ((Kept.refl _ w).alloc _))
  have HBG := hide (fun wx => diskBegun_any wx)
  clear hd
  by_cases hc : checkD d = 0
  rotate_left
  · have HC := hide ((dOpen_any _ W0 _ d HS3.out).mono (R' := fun r w' => r = .returned (.tuple #[.slice none 0 0, diV (.slice none 0 0) 0, .int .i64 (checkD d)]) ∧ Same W0 w') (fun r w' h => h.no hc))
    have hc' : (checkD d != 0) = true := by simp [hc]
    have hc'' : (checkD d == 0) = false := by simp [hc]
    clear hc HG3
    generalize checkD d = no at *
    go_enter Try.func7, Try.ntmps7
    go_wp2_with fail
    rw [← hW0]
    refine HC.out.mono ?_
    rintro r w1 ⟨rfl, hK1⟩
    go_wp2_with fail
    refine (HBG.out _).mono ?_
    rintro r w2 ⟨rfl, hK2⟩
    go_wp2_with fail
    go_ret
    exact ⟨rfl, trs HKW.out (trs (hK1.alloc _) hK2)⟩
  have HRD := hide (right_of hc)
  by_cases hkm : keep < 0 ∨ more < keep
  · have HC := hide ((dOpen_any _ W0 _ d HS3.out).mono (R' := fun r w' => ∃ ab cb ao cap, r = .returned (.tuple #[.slice ab (batchesD d.segs).length cb, diV (.slice ao (openD d).segs.length cap) (openD d).synced, .int .i64 0]) ∧ Same W0 w') (fun r w' h => by obtain ⟨ab, cb, ao, cap, h1, _, _, h4⟩ := h.ok hc; exact ⟨ab, cb, ao, cap, h1, h4⟩))
    clear hc HG3 HRD
    generalize openD d = od at *
    generalize (batchesD d.segs).length = nb at *
    by_cases hk0 : keep < 0
    · clear hkm
      go_enter Try.func7, Try.ntmps7
      go_wp2_with fail
      rw [← hW0]
      refine HC.out.mono ?_
      rintro r w1 ⟨ab, cb, ao, cap, rfl, hK1⟩
      go_wp2_with fail
      refine (HBG.out _).mono ?_
      rintro r w2 ⟨rfl, hK2⟩
      go_wp2_with fail
      go_ret
      exact ⟨rfl, trs HKW.out (trs (hK1.alloc _) hK2)⟩
    · have hmk : more < keep := hkm.resolve_left hk0
      clear hkm
      go_enter Try.func7, Try.ntmps7
      go_wp2_with fail
      rw [← hW0]
      refine HC.out.mono ?_
      rintro r w1 ⟨ab, cb, ao, cap, rfl, hK1⟩
      go_wp2_with fail
      refine (HBG.out _).mono ?_
      rintro r w2 ⟨rfl, hK2⟩
      go_wp2_with fail
      go_ret
      exact ⟨rfl, trs HKW.out (trs (hK1.alloc _) hK2)⟩
  have hk0 : 0 ≤ keep := by omega
  have hmk : keep ≤ more := by omega
  clear hkm
  obtain ⟨⟨j, hj1, hj2, hj3⟩, hy1, hy2, hc4, hn0⟩ := keeps_of HRD.out hk0 hmk
  have HOK := hide hc
  have HCa := hide (crash_ok hc hk0)
  have HCb := hide (crash_ok hc (keep := more) (by omega))
  have HCc := hide (show crashD d 400 = .ok d by rw [crash_ok hc (by decide), hc4])
  have HCn := hide (crash_ok hc (keep := 0) (by decide))
  have HRa := hide (right_ok (crash_right HRD.out hk0))
  have HRb := hide (right_ok (crash_right HRD.out (keep := more) (by omega)))
  have HHJ := hide (And.intro hj1 (And.intro hj2 (And.intro hj3 (And.intro hy1 (And.intro hy2 hn0)))))
  clear hc hj1 hj2 hj3 hy1 hy2 hc4 hn0 HRD
  obtain ⟨dA, hdA⟩ : ∃ x, x = cutD d keep := ⟨_, rfl⟩
  obtain ⟨dB, hdB⟩ : ∃ x, x = cutD d more := ⟨_, rfl⟩
  obtain ⟨dN, hdN⟩ : ∃ x, x = cutD d 0 := ⟨_, rfl⟩
  rw [← hdA] at HCa HRa HHJ
  rw [← hdB] at HCb HRb HHJ
  rw [← hdN] at HCn HHJ
  obtain ⟨lX, hlX⟩ : ∃ x, batchesD dA.segs = x := ⟨_, rfl⟩
  obtain ⟨lY, hlY⟩ : ∃ x, batchesD dB.segs = x := ⟨_, rfl⟩
  obtain ⟨lD, hlD⟩ : ∃ x, batchesD d.segs = x := ⟨_, rfl⟩
  rw [hlX, hlY, hlD] at HHJ
  obtain ⟨oA, hoA⟩ : ∃ x, openD dA = x := ⟨_, rfl⟩
  obtain ⟨oB, hoB⟩ : ∃ x, openD dB = x := ⟨_, rfl⟩
  obtain ⟨oD, hoD⟩ : ∃ x, openD d = x := ⟨_, rfl⟩
  have HOA := hide (And.intro hlX hoA)
  have HOB := hide (And.intro hlY hoB)
  have HOD := hide (And.intro hlD hoD)
  clear hdA hdB hdN hlX hlY hlD hoA hoB hoD
  go_enter Try.func7, Try.ntmps7
  have HC := hide ((dOpen_any _ W0 _ d HS3.out).mono (R' := fun r w' => ∃ ab cb ao cap, r = .returned (.tuple #[.slice ab lD.length cb, diV (.slice ao oD.segs.length cap) oD.synced, .int .i64 0]) ∧ BaSl (W0.heap.size ≤ ·) w' (.slice ab lD.length cb) lD ∧ StSl (W0.heap.size ≤ ·) w' (.slice ao oD.segs.length cap) oD.segs ∧ Same W0 w') (fun r w' h => OAns.ok2 HOK.out HOD.out.2 HOD.out.1 h))
  go_wp2_with fail
  rw [← hW0]
  clear hW0
  refine HC.out.mono ?_
  clear HC
  rintro r w1 ⟨ab8, cb8, a8, c8, rfl, hbs, hs, hK⟩
  rw [← hb3]
  clear hb3
  obtain ⟨W1, hW1⟩ : ∃ W1, W1 = w1.alloc (.cells #[.slice a8 oD.segs.length c8, .int .i64 oD.synced] 38) := ⟨_, rfl⟩
  obtain ⟨b8, hb8⟩ : ∃ b8, b8 = w1.heap.size := ⟨_, rfl⟩
  have hKK : Same W0 W1 := by rw [hW1]; exact hK.alloc _
  have HG3 := hide (blk_kept HG3.out hKK (fun f => f))
  have HS3 := hide (HS3.out.same hKK)
  have HKW := hide (trs HKW.out hKK)
  have HG8 := hide (show W1.heap[b8]? = some (.cells #[.slice a8 oD.segs.length c8, .int .i64 oD.synced] 38 (0, 0)) by rw [hW1, hb8]; exact heap_alloc_new _ _)
  have HS8 := hide (show StSl (W0.heap.size ≤ ·) W1 (.slice a8 oD.segs.length c8) oD.segs by rw [hW1]; exact hs.same ((Kept.refl _ w1).alloc _))
  have HAL := hide (show BaSl (W0.heap.size ≤ ·) W1 (.slice ab8 lD.length cb8) lD by rw [hW1]; exact hbs.same ((Kept.refl _ w1).alloc _))
  clear hbs
  clear hs hK hKK
  go_wp2_with fail
  rw [← hW1]
  clear hW1
  refine (HBG.out _).mono ?_
  rintro r wb ⟨rfl, hKb⟩
  rw [← hb8]
  clear hb8
  have HG3 := hide (blk_kept HG3.out hKb (fun f => f))
  have HS3 := hide (HS3.out.same hKb)
  have HG8 := hide (blk_kept HG8.out hKb (fun f => f))
  have HS8 := hide (HS8.out.same hKb)
  have HAL := hide (HAL.out.same hKb)
  have HKW := hide (trs HKW.out hKb)
  have hG_3 := HG3.out
  obtain ⟨x0_3, x1_3⟩ := blk2 hG_3
  clear hKb HBG
  obtain ⟨W1', hW1'⟩ : ∃ W1', W1' = wb := ⟨_, rfl⟩
  subst hW1'
  have HC := hide ((dCrash_any _ W1' _ d keep (by omega) HS3.out).mono (R' := fun r w' => ∃ ao cap, r = .returned (.tuple #[diV (.slice ao dA.segs.length cap) dA.synced, .int .i64 0]) ∧ StSl (W1'.heap.size ≤ ·) w' (.slice ao dA.segs.length cap) dA.segs ∧ Same W1' w') (fun r w' h => h.ok HCa.out))
  go_wp2_with fail
  refine HC.out.mono ?_
  clear HC x0_3 x1_3 hG_3
  rintro r w2 ⟨a10, c10, rfl, hs, hK⟩
  obtain ⟨W2, hW2⟩ : ∃ W2, W2 = w2.alloc (.cells #[.slice a10 dA.segs.length c10, .int .i64 dA.synced] 38) := ⟨_, rfl⟩
  obtain ⟨b10, hb10⟩ : ∃ b10, b10 = w2.heap.size := ⟨_, rfl⟩
  have hKK : Same W1' W2 := by rw [hW2]; exact hK.alloc _
  have hG_3 := blk_kept HG3.out hK (fun f => f)
  obtain ⟨x0_3, x1_3⟩ := blk2 hG_3
  have hn_3 := Nat.ne_of_lt (Array.getElem?_eq_some_iff.1 hG_3).1
  have hl_3 := (Array.getElem?_eq_some_iff.1 hG_3).1
  have HG3 := hide (blk_kept HG3.out hKK (fun f => f))
  have HS3 := hide (HS3.out.same hKK)
  have HG8 := hide (blk_kept HG8.out hKK (fun f => f))
  have HS8 := hide (HS8.out.same hKK)
  have HAL := hide (HAL.out.same hKK)
  have HKW := hide (trs HKW.out hKK)
  have HG10 := hide (show W2.heap[b10]? = some (.cells #[.slice a10 dA.segs.length c10, .int .i64 dA.synced] 38 (0, 0)) by rw [hW2, hb10]; exact heap_alloc_new _ _)
  have HS10 := hide (show StSl (W1'.heap.size ≤ ·) W2 (.slice a10 dA.segs.length c10) dA.segs by rw [hW2]; exact hs.same ((Kept.refl _ w2).alloc _))
  clear hs hK hKK
  have HC := hide ((dCrash_any _ W2 _ d more (by omega) HS3.out).mono (R' := fun r w' => ∃ ao cap, r = .returned (.tuple #[diV (.slice ao dB.segs.length cap) dB.synced, .int .i64 0]) ∧ StSl (W2.heap.size ≤ ·) w' (.slice ao dB.segs.length cap) dB.segs ∧ Same W2 w') (fun r w' h => h.ok HCb.out))
  go_wp2_with fail
  rw [← hW2]
  clear hW2
  refine HC.out.mono ?_
  clear HC x0_3 x1_3 hn_3 hl_3 hG_3
  rintro r w3 ⟨a12, c12, rfl, hs, hK⟩
  rw [← hb10]
  clear hb10
  obtain ⟨W3, hW3⟩ : ∃ W3, W3 = w3.alloc (.cells #[.slice a12 dB.segs.length c12, .int .i64 dB.synced] 38) := ⟨_, rfl⟩
  obtain ⟨b12, hb12⟩ : ∃ b12, b12 = w3.heap.size := ⟨_, rfl⟩
  have hKK : Same W2 W3 := by rw [hW3]; exact hK.alloc _
  have hG_3 := blk_kept HG3.out hK (fun f => f)
  obtain ⟨x0_3, x1_3⟩ := blk2 hG_3
  have hn_3 := Nat.ne_of_lt (Array.getElem?_eq_some_iff.1 hG_3).1
  have hl_3 := (Array.getElem?_eq_some_iff.1 hG_3).1
  have HG3 := hide (blk_kept HG3.out hKK (fun f => f))
  have HS3 := hide (HS3.out.same hKK)
  have HG8 := hide (blk_kept HG8.out hKK (fun f => f))
  have HS8 := hide (HS8.out.same hKK)
  have HAL := hide (HAL.out.same hKK)
  have HG10 := hide (blk_kept HG10.out hKK (fun f => f))
  have HS10 := hide (HS10.out.same hKK)
  have HKW := hide (trs HKW.out hKK)
  have HG12 := hide (show W3.heap[b12]? = some (.cells #[.slice a12 dB.segs.length c12, .int .i64 dB.synced] 38 (0, 0)) by rw [hW3, hb12]; exact heap_alloc_new _ _)
  have HS12 := hide (show StSl (W2.heap.size ≤ ·) W3 (.slice a12 dB.segs.length c12) dB.segs by rw [hW3]; exact hs.same ((Kept.refl _ w3).alloc _))
  clear hs hK hKK
  have HC := hide ((dCrash_any _ W3 _ d 400 (by omega) HS3.out).mono (R' := fun r w' => ∃ ao cap, r = .returned (.tuple #[diV (.slice ao d.segs.length cap) d.synced, .int .i64 0]) ∧ StSl (W3.heap.size ≤ ·) w' (.slice ao d.segs.length cap) d.segs ∧ Same W3 w') (fun r w' h => h.ok HCc.out))
  go_wp2_with fail
  rw [← hW3]
  clear hW3
  refine HC.out.mono ?_
  clear HC x0_3 x1_3 hn_3 hl_3 hG_3
  rintro r w4 ⟨a14, c14, rfl, hs, hK⟩
  rw [← hb12]
  clear hb12
  obtain ⟨W4, hW4⟩ : ∃ W4, W4 = w4.alloc (.cells #[.slice a14 d.segs.length c14, .int .i64 d.synced] 38) := ⟨_, rfl⟩
  obtain ⟨b14, hb14⟩ : ∃ b14, b14 = w4.heap.size := ⟨_, rfl⟩
  have hKK : Same W3 W4 := by rw [hW4]; exact hK.alloc _
  have hG_3 := blk_kept HG3.out hK (fun f => f)
  obtain ⟨x0_3, x1_3⟩ := blk2 hG_3
  have hn_3 := Nat.ne_of_lt (Array.getElem?_eq_some_iff.1 hG_3).1
  have hl_3 := (Array.getElem?_eq_some_iff.1 hG_3).1
  have HG3 := hide (blk_kept HG3.out hKK (fun f => f))
  have HS3 := hide (HS3.out.same hKK)
  have HG8 := hide (blk_kept HG8.out hKK (fun f => f))
  have HS8 := hide (HS8.out.same hKK)
  have HAL := hide (HAL.out.same hKK)
  have HG10 := hide (blk_kept HG10.out hKK (fun f => f))
  have HS10 := hide (HS10.out.same hKK)
  have HG12 := hide (blk_kept HG12.out hKK (fun f => f))
  have HS12 := hide (HS12.out.same hKK)
  have HKW := hide (trs HKW.out hKK)
  have HG14 := hide (show W4.heap[b14]? = some (.cells #[.slice a14 d.segs.length c14, .int .i64 d.synced] 38 (0, 0)) by rw [hW4, hb14]; exact heap_alloc_new _ _)
  have HS14 := hide (show StSl (W3.heap.size ≤ ·) W4 (.slice a14 d.segs.length c14) d.segs by rw [hW4]; exact hs.same ((Kept.refl _ w4).alloc _))
  clear hs hK hKK
  have HC := hide ((dCrash_any _ W4 _ d 0 (by omega) HS3.out).mono (R' := fun r w' => ∃ ao cap, r = .returned (.tuple #[diV (.slice ao dN.segs.length cap) dN.synced, .int .i64 0]) ∧ StSl (W4.heap.size ≤ ·) w' (.slice ao dN.segs.length cap) dN.segs ∧ Same W4 w') (fun r w' h => h.ok HCn.out))
  go_wp2_with fail
  rw [← hW4]
  clear hW4
  refine HC.out.mono ?_
  clear HC x0_3 x1_3 hn_3 hl_3 hG_3
  rintro r w5 ⟨a16, c16, rfl, hs, hK⟩
  rw [← hb14]
  clear hb14
  obtain ⟨W5, hW5⟩ : ∃ W5, W5 = w5.alloc (.cells #[.slice a16 dN.segs.length c16, .int .i64 dN.synced] 38) := ⟨_, rfl⟩
  obtain ⟨b16, hb16⟩ : ∃ b16, b16 = w5.heap.size := ⟨_, rfl⟩
  have hKK : Same W4 W5 := by rw [hW5]; exact hK.alloc _
  have hG_10 := blk_kept HG10.out hK (fun f => f)
  obtain ⟨x0_10, x1_10⟩ := blk2 hG_10
  have hn_10 := Nat.ne_of_lt (Array.getElem?_eq_some_iff.1 hG_10).1
  have hl_10 := (Array.getElem?_eq_some_iff.1 hG_10).1
  have HG3 := hide (blk_kept HG3.out hKK (fun f => f))
  have HS3 := hide (HS3.out.same hKK)
  have HG8 := hide (blk_kept HG8.out hKK (fun f => f))
  have HS8 := hide (HS8.out.same hKK)
  have HAL := hide (HAL.out.same hKK)
  have HG10 := hide (blk_kept HG10.out hKK (fun f => f))
  have HS10 := hide (HS10.out.same hKK)
  have HG12 := hide (blk_kept HG12.out hKK (fun f => f))
  have HS12 := hide (HS12.out.same hKK)
  have HG14 := hide (blk_kept HG14.out hKK (fun f => f))
  have HS14 := hide (HS14.out.same hKK)
  have HKW := hide (trs HKW.out hKK)
  have HG16 := hide (show W5.heap[b16]? = some (.cells #[.slice a16 dN.segs.length c16, .int .i64 dN.synced] 38 (0, 0)) by rw [hW5, hb16]; exact heap_alloc_new _ _)
  have HS16 := hide (show StSl (W4.heap.size ≤ ·) W5 (.slice a16 dN.segs.length c16) dN.segs by rw [hW5]; exact hs.same ((Kept.refl _ w5).alloc _))
  clear hs hK hKK
  have HC := hide ((dOpen_any _ W5 _ dA HS10.out).mono (R' := fun r w' => ∃ ab cb ao cap, r = .returned (.tuple #[.slice ab lX.length cb, diV (.slice ao oA.segs.length cap) oA.synced, .int .i64 0]) ∧ BaSl (W5.heap.size ≤ ·) w' (.slice ab lX.length cb) lX ∧ StSl (W5.heap.size ≤ ·) w' (.slice ao oA.segs.length cap) oA.segs ∧ Same W5 w') (fun r w' h => OAns.ok2 HRa.out HOA.out.2 HOA.out.1 h))
  go_wp2_with fail
  rw [← hW5]
  clear hW5
  refine HC.out.mono ?_
  clear HC x0_10 x1_10 hn_10 hl_10 hG_10
  rintro r w6 ⟨ab19, cb19, a19, c19, rfl, hbs, hs, hK⟩
  rw [← hb16]
  clear hb16
  obtain ⟨W6, hW6⟩ : ∃ W6, W6 = w6.alloc (.cells #[.slice a19 oA.segs.length c19, .int .i64 oA.synced] 38) := ⟨_, rfl⟩
  obtain ⟨b19, hb19⟩ : ∃ b19, b19 = w6.heap.size := ⟨_, rfl⟩
  have hKK : Same W5 W6 := by rw [hW6]; exact hK.alloc _
  have hG_12 := blk_kept HG12.out hK (fun f => f)
  obtain ⟨x0_12, x1_12⟩ := blk2 hG_12
  have hn_12 := Nat.ne_of_lt (Array.getElem?_eq_some_iff.1 hG_12).1
  have hl_12 := (Array.getElem?_eq_some_iff.1 hG_12).1
  have HG3 := hide (blk_kept HG3.out hKK (fun f => f))
  have HS3 := hide (HS3.out.same hKK)
  have HG8 := hide (blk_kept HG8.out hKK (fun f => f))
  have HS8 := hide (HS8.out.same hKK)
  have HAL := hide (HAL.out.same hKK)
  have HG10 := hide (blk_kept HG10.out hKK (fun f => f))
  have HS10 := hide (HS10.out.same hKK)
  have HG12 := hide (blk_kept HG12.out hKK (fun f => f))
  have HS12 := hide (HS12.out.same hKK)
  have HG14 := hide (blk_kept HG14.out hKK (fun f => f))
  have HS14 := hide (HS14.out.same hKK)
  have HG16 := hide (blk_kept HG16.out hKK (fun f => f))
  have HS16 := hide (HS16.out.same hKK)
  have HKW := hide (trs HKW.out hKK)
  have HG19 := hide (show W6.heap[b19]? = some (.cells #[.slice a19 oA.segs.length c19, .int .i64 oA.synced] 38 (0, 0)) by rw [hW6, hb19]; exact heap_alloc_new _ _)
  have HS19 := hide (show StSl (W5.heap.size ≤ ·) W6 (.slice a19 oA.segs.length c19) oA.segs by rw [hW6]; exact hs.same ((Kept.refl _ w6).alloc _))
  have HAX := hide (show BaSl (W5.heap.size ≤ ·) W6 (.slice ab19 lX.length cb19) lX by rw [hW6]; exact hbs.same ((Kept.refl _ w6).alloc _))
  clear hbs
  clear hs hK hKK
  have HC := hide ((dOpen_any _ W6 _ dB HS12.out).mono (R' := fun r w' => ∃ ab cb ao cap, r = .returned (.tuple #[.slice ab lY.length cb, diV (.slice ao oB.segs.length cap) oB.synced, .int .i64 0]) ∧ BaSl (W6.heap.size ≤ ·) w' (.slice ab lY.length cb) lY ∧ StSl (W6.heap.size ≤ ·) w' (.slice ao oB.segs.length cap) oB.segs ∧ Same W6 w') (fun r w' h => OAns.ok2 HRb.out HOB.out.2 HOB.out.1 h))
  go_wp2_with fail
  rw [← hW6]
  clear hW6
  refine HC.out.mono ?_
  clear HC x0_12 x1_12 hn_12 hl_12 hG_12
  rintro r w7 ⟨ab22, cb22, a22, c22, rfl, hbs, hs, hK⟩
  rw [← hb19]
  clear hb19
  obtain ⟨W7, hW7⟩ : ∃ W7, W7 = w7.alloc (.cells #[.slice a22 oB.segs.length c22, .int .i64 oB.synced] 38) := ⟨_, rfl⟩
  obtain ⟨b22, hb22⟩ : ∃ b22, b22 = w7.heap.size := ⟨_, rfl⟩
  have hKK : Same W6 W7 := by rw [hW7]; exact hK.alloc _
  have hG_14 := blk_kept HG14.out hK (fun f => f)
  obtain ⟨x0_14, x1_14⟩ := blk2 hG_14
  have hn_14 := Nat.ne_of_lt (Array.getElem?_eq_some_iff.1 hG_14).1
  have hl_14 := (Array.getElem?_eq_some_iff.1 hG_14).1
  have hG_3 := blk_kept HG3.out hK (fun f => f)
  obtain ⟨x0_3, x1_3⟩ := blk2 hG_3
  have hn_3 := Nat.ne_of_lt (Array.getElem?_eq_some_iff.1 hG_3).1
  have hl_3 := (Array.getElem?_eq_some_iff.1 hG_3).1
  have HG3 := hide (blk_kept HG3.out hKK (fun f => f))
  have HS3 := hide (HS3.out.same hKK)
  have HG8 := hide (blk_kept HG8.out hKK (fun f => f))
  have HS8 := hide (HS8.out.same hKK)
  have HAL := hide (HAL.out.same hKK)
  have HG10 := hide (blk_kept HG10.out hKK (fun f => f))
  have HS10 := hide (HS10.out.same hKK)
  have HG12 := hide (blk_kept HG12.out hKK (fun f => f))
  have HS12 := hide (HS12.out.same hKK)
  have HG14 := hide (blk_kept HG14.out hKK (fun f => f))
  have HS14 := hide (HS14.out.same hKK)
  have HG16 := hide (blk_kept HG16.out hKK (fun f => f))
  have HS16 := hide (HS16.out.same hKK)
  have HG19 := hide (blk_kept HG19.out hKK (fun f => f))
  have HS19 := hide (HS19.out.same hKK)
  have HAX := hide (HAX.out.same hKK)
  have HKW := hide (trs HKW.out hKK)
  have HG22 := hide (show W7.heap[b22]? = some (.cells #[.slice a22 oB.segs.length c22, .int .i64 oB.synced] 38 (0, 0)) by rw [hW7, hb22]; exact heap_alloc_new _ _)
  have HS22 := hide (show StSl (W6.heap.size ≤ ·) W7 (.slice a22 oB.segs.length c22) oB.segs by rw [hW7]; exact hs.same ((Kept.refl _ w7).alloc _))
  have HAY := hide (show BaSl (W6.heap.size ≤ ·) W7 (.slice ab22 lY.length cb22) lY by rw [hW7]; exact hbs.same ((Kept.refl _ w7).alloc _))
  clear hbs
  clear hs hK hKK
  have HSD := hide (sameDisk_any _ _ W7 _ _ d d HS14.out HS3.out)
  rw [decide_eq_true rfl] at HSD
  go_wp2_with fail
  rw [← hW7]
  clear hW7
  refine HSD.out.mono ?_
  clear HSD x0_14 x1_14 hn_14 hl_14 hG_14 x0_3 x1_3 hn_3 hl_3 hG_3
  rintro r wc ⟨rfl, hKc0⟩
  rw [← hb22]
  clear hb22
  have HG3 := hide (blk_kept HG3.out hKc0 (fun f => f))
  have HS3 := hide (HS3.out.same hKc0)
  have HG8 := hide (blk_kept HG8.out hKc0 (fun f => f))
  have HS8 := hide (HS8.out.same hKc0)
  have HAL := hide (HAL.out.same hKc0)
  have HG10 := hide (blk_kept HG10.out hKc0 (fun f => f))
  have HS10 := hide (HS10.out.same hKc0)
  have HG12 := hide (blk_kept HG12.out hKc0 (fun f => f))
  have HS12 := hide (HS12.out.same hKc0)
  have HG14 := hide (blk_kept HG14.out hKc0 (fun f => f))
  have HS14 := hide (HS14.out.same hKc0)
  have HG16 := hide (blk_kept HG16.out hKc0 (fun f => f))
  have HS16 := hide (HS16.out.same hKc0)
  have HG19 := hide (blk_kept HG19.out hKc0 (fun f => f))
  have HS19 := hide (HS19.out.same hKc0)
  have HAX := hide (HAX.out.same hKc0)
  have HG22 := hide (blk_kept HG22.out hKc0 (fun f => f))
  have HS22 := hide (HS22.out.same hKc0)
  have HAY := hide (HAY.out.same hKc0)
  have HKW := hide (trs HKW.out hKc0)
  obtain ⟨j1, j2, j3, j4, j5, j6⟩ := HHJ.out
  have hxy : lX.length ≤ lY.length := by omega
  have hX : lX = lD.take lX.length := by rw [j3]; exact j2
  have hY : lY = lD.take lY.length := j4
  have hXD : lX.length ≤ lD.length := by omega
  have hcb : lD.length ≤ cb8 := by obtain ⟨_, cap', hv, hl, _⟩ := HAL.out; cases hv; exact hl.2
  have HSX := hide (fun wy (hy : Same wc wy) v1 v2 (hv : v1 = .slice ab19 lX.length cb19 ∧ v2 = .slice ab8 lX.length cb8 ∨ v1 = .slice ab22 lY.length cb22 ∧ v2 = .slice ab8 lY.length cb8) => (show Calls Try.prog 15 #[v1, v2] wy fun e w' => e = .returned (.bool true) ∧ Same wy w' by
    rcases hv with ⟨rfl, rfl⟩ | ⟨rfl, rfl⟩
    · exact (sameBatches_any _ _ wy _ _ lX lX (HAX.out.same hy) (by have := (HAL.out.take lX.length hXD).same hy; rw [← hX] at this; exact this)).mono (fun e w' h => ⟨by rw [h.1, decide_eq_true rfl], by obtain ⟨n, hn⟩ := h.2; exact same_drewN hn⟩)
    · exact (sameBatches_any _ _ wy _ _ lY lY (HAY.out.same hy) (by have := (HAL.out.take lY.length j5).same hy; rw [← hY] at this; exact this)).mono (fun e w' h => ⟨by rw [h.1, decide_eq_true rfl], by obtain ⟨n, hn⟩ := h.2; exact same_drewN hn⟩)))
  have HLO := hide (fun wy (hy : Same wc wy) => lastOf_any _ wy _ dN.synced dN.segs (HS16.out.same hy))
  have hzl := bsize (lastS dN.segs)
  have hjn : ((lastS dN.segs).length : Int) = d.synced := j6
  generalize lastS dN.segs = sN at *
  obtain ⟨y0, y1⟩ := blk2 HG16.out
  obtain ⟨_, z1⟩ := blk2 HG3.out
  have HALL := hide (fun wy (hy : Same wc wy) => (⟨hy.cell y0 (fun f => f), hy.cell y1 (fun f => f), hy.cell z1 (fun f => f)⟩ : wy.cell? ⟨b16, 0, none⟩ = _ ∧ wy.cell? ⟨b16, 1, none⟩ = _ ∧ wy.cell? ⟨b3, 1, none⟩ = _))
  have hKc : Same wc wc := Kept.refl _ _
  have hsl1 : (0 : Int) ≤ (lX.length : Int) := by omega
  have hsl2 : (lX.length : Int) ≤ (cb8 : Int) := by omega
  have hsl3 : (0 : Int) ≤ (lY.length : Int) := by omega
  have hsl4 : (lY.length : Int) ≤ (cb8 : Int) := by omega
  clear hX hY HHJ HOA HOB HOD HCa HCb HCc HCn HRa HRb HOK j1 j2 j3 j4 j6
  go_wp2_with fail
  go_region_held3 (fun w' => w'.cell? ⟨b16, 0, none⟩ = some (.slice a16 dN.segs.length c16) ∧ w'.cell? ⟨b16, 1, none⟩ = some (.int .i64 dN.synced) ∧ w'.cell? ⟨b3, 1, none⟩ = some (.int .i64 d.synced)) (go_keep) (first
    | (go_at_call 15; refine (HSX.out _ (by first | exact hKc.drewN _ | exact hKc.drew | exact hKc) _ _ (by first | exact .inl ⟨rfl, rfl⟩ | exact .inr ⟨rfl, rfl⟩)).mono ?_; rintro e w9 ⟨rfl, hKn⟩; have hKc := trs (by first | exact hKc.drewN _ | exact hKc.drew | exact hKc) hKn; obtain ⟨y0, y1, z1⟩ := HALL.out _ hKc)
    | (go_at_call 22; refine (HLO.out _ (by first | exact hKc.drewN _ | exact hKc.drew | exact hKc)).mono ?_; rintro e w9 ⟨rfl, hKn⟩; have hKc := trs (by first | exact hKc.drewN _ | exact hKc.drew | exact hKc) hKn; obtain ⟨y0, y1, z1⟩ := HALL.out _ hKc))
  all_goals
    go_wp2_with fail
    go_ret
    exact ⟨rfl, trs HKW.out hKc⟩

end Go.Proofs.Ytillhpepfpldcaa
