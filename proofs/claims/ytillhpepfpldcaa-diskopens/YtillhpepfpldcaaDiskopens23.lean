/- DiskOpens: the walk of the law's function. (Written by tool/genopens.py.) -/
import Derived.Test.YtillhpepfpldcaaDiskopens22
namespace Go.Proofs.Ytillhpepfpldcaa
open Go.RowKit

theorem append_inv {d x : DiskT} {b : BatchT} (h : appendD d b = .ok x) : checkD d = 0 ∧ checkBa b = 0 ∧ tornD d = false ∧ putD d (bytesB b) = .ok x := by
  unfold appendD at h
  by_cases h1 : checkD d = 0
  · rw [if_neg (by simp [h1])] at h
    by_cases h2 : checkBa b = 0
    · rw [if_neg (by simp [h2])] at h
      cases h3 : tornD d with
      | true => rw [h3, if_pos rfl] at h; cases h
      | false => rw [h3, if_neg (by simp)] at h; exact ⟨h1, h2, rfl, h⟩
    · rw [if_pos h2] at h; cases h
  · rw [if_pos h1] at h; cases h

set_option maxRecDepth 20000 in
set_option maxHeartbeats 6400000 in
theorem diskOpens_any (w : World) (d : DiskT) (b : BatchT) (vd vb : Value) (hd : StSl anyE w vd d.segs) (hb : EvSl anyE w vb b.events) :
    Calls Try.prog 6 #[diV vd d.synced, baV b.number vb] w fun e w' => e = .returned (.bool true) ∧ Same w w' := by
  have trs : ∀ {a b c : World}, Same a b → Same b c → Same a c := fun h k => h.trans k (fun _ _ f => f)
  obtain ⟨a2, c2, rfl⟩ := hd.form
  obtain ⟨a3, c3, rfl⟩ := hb.form
  obtain ⟨W0, hW0⟩ : ∃ W0, W0 = (w.alloc (.cells #[.slice a2 d.segs.length c2, .int .i64 d.synced] 38)).alloc (.cells #[.int .i64 b.number, .slice a3 b.events.length c3] 24) := ⟨_, rfl⟩
  obtain ⟨b2, hb2⟩ : ∃ b2, b2 = w.heap.size := ⟨_, rfl⟩
  obtain ⟨b3, hb3⟩ : ∃ b3, b3 = w.heap.size + 1 := ⟨_, rfl⟩
  have HKW := hide (show Same w W0 by rw [hW0]; exact ((Kept.refl _ w).alloc _).alloc _)
  have HG2 := hide (show W0.heap[b2]? = some (.cells #[.slice a2 d.segs.length c2, .int .i64 d.synced] 38 (0, 0)) by rw [hW0, hb2]; exact al_old _ _ _)
  have HG3 := hide (show W0.heap[b3]? = some (.cells #[.int .i64 b.number, .slice a3 b.events.length c3] 24 (0, 0)) by rw [hW0, hb3]; exact al_new _ _ _)
  have HS2 := hide (hd.same HKW.out)
  have HS3 := hide (hb.same HKW.out)
  have HBG := hide (fun wx => diskBegun_any wx)
  clear hd hb
  by_cases hc : checkD d = 0
  rotate_left
  · have HC := hide ((dOpen_any _ W0 _ d HS2.out).mono (R' := fun r w' => r = .returned (.tuple #[.slice none 0 0, diV (.slice none 0 0) 0, .int .i64 (checkD d)]) ∧ Same W0 w') (fun r w' h => h.no hc))
    have hc' : (checkD d != 0) = true := by simp [hc]
    clear hc HG2 HG3 HS3
    generalize checkD d = no at *
    go_enter Try.func6, Try.ntmps6
    go_wp2_with fail
    rw [← hW0]
    refine HC.out.mono ?_
    rintro r w1 ⟨rfl, hK1⟩
    go_wp2_with fail
    refine (HBG.out _).mono ?_
    rintro r w2 ⟨rfl, hK2⟩
    go_wp2_with fail
    go_ret
    exact ⟨rfl, trs HKW.out (trs (hK1.alloc _) hK2)⟩
  obtain ⟨hr1, hr2, hr3, hr4⟩ := open_right (right_of hc)
  have HOK := hide hc
  obtain ⟨oD, hoD⟩ : ∃ x, openD d = x := ⟨_, rfl⟩
  obtain ⟨lD, hlD⟩ : ∃ x, batchesD d.segs = x := ⟨_, rfl⟩
  rw [hoD] at hr1 hr2 hr3 hr4
  rw [hlD] at hr2
  have HOD := hide (And.intro hlD hoD)
  have HR1 := hide hr1
  have HO2 := hide (And.intro (right_ok hr1) (And.intro hr3 hr2))
  have hll : lD.length ≤ 1600 := by
    rw [← hr2]
    cases hr1 with
    | none => simp [batchesD]
    | some i s n k h1 h2 h3 h4 h5 h6 =>
      exact bats_len (by simp; omega) (fun x hx => by
        rcases List.mem_append.1 hx with hx | hx
        · exact (h2 x hx).1
        · rw [List.mem_singleton] at hx; subst hx; exact h3)
  clear hc hoD hlD hr1 hr2 hr3
  go_enter Try.func6, Try.ntmps6
  have HC := hide ((dOpen_any _ W0 _ d HS2.out).mono (R' := fun r w' => ∃ ab cb ao cap, r = .returned (.tuple #[.slice ab lD.length cb, diV (.slice ao oD.segs.length cap) oD.synced, .int .i64 0]) ∧ BaSl (W0.heap.size ≤ ·) w' (.slice ab lD.length cb) lD ∧ StSl (W0.heap.size ≤ ·) w' (.slice ao oD.segs.length cap) oD.segs ∧ Same W0 w') (fun r w' h => OAns.ok2 HOK.out HOD.out.2 HOD.out.1 h))
  go_wp2_with fail
  rw [← hW0]
  clear hW0
  refine HC.out.mono ?_
  clear HC
  rintro r w1 ⟨ab6, cb6, a6, c6, rfl, hbs, hs, hK⟩
  rw [← hb3, ← hb2]
  clear hb2 hb3
  obtain ⟨W1, hW1⟩ : ∃ W1, W1 = w1.alloc (.cells #[.slice a6 oD.segs.length c6, .int .i64 oD.synced] 38) := ⟨_, rfl⟩
  obtain ⟨b6, hb6⟩ : ∃ b6, b6 = w1.heap.size := ⟨_, rfl⟩
  have hKK : Same W0 W1 := by rw [hW1]; exact hK.alloc _
  have HG2 := hide (blk_kept HG2.out hKK (fun f => f))
  have HS2 := hide (HS2.out.same hKK)
  have HG3 := hide (blk_kept HG3.out hKK (fun f => f))
  have HS3 := hide (HS3.out.same hKK)
  have HKW := hide (trs HKW.out hKK)
  have HG6 := hide (show W1.heap[b6]? = some (.cells #[.slice a6 oD.segs.length c6, .int .i64 oD.synced] 38 (0, 0)) by rw [hW1, hb6]; exact heap_alloc_new _ _)
  have HS6 := hide (show StSl (W0.heap.size ≤ ·) W1 (.slice a6 oD.segs.length c6) oD.segs by rw [hW1]; exact hs.same ((Kept.refl _ w1).alloc _))
  have HAL := hide (show BaSl (W0.heap.size ≤ ·) W1 (.slice ab6 lD.length cb6) lD by rw [hW1]; exact hbs.same ((Kept.refl _ w1).alloc _))
  clear hbs
  clear hs hK hKK
  go_wp2_with fail
  rw [← hW1]
  clear hW1
  refine (HBG.out _).mono ?_
  rintro r wr1 ⟨rfl, hKr⟩
  rw [← hb6]
  clear hb6
  have HG2 := hide (blk_kept HG2.out hKr (fun f => f))
  have HS2 := hide (HS2.out.same hKr)
  have HG3 := hide (blk_kept HG3.out hKr (fun f => f))
  have HS3 := hide (HS3.out.same hKr)
  have HG6 := hide (blk_kept HG6.out hKr (fun f => f))
  have HS6 := hide (HS6.out.same hKr)
  have HAL := hide (HAL.out.same hKr)
  have HKW := hide (trs HKW.out hKr)
  clear hKr
  have hG_6 := HG6.out
  obtain ⟨x0_6, x1_6⟩ := blk2 hG_6
  have hn_6 := Nat.ne_of_lt (Array.getElem?_eq_some_iff.1 hG_6).1
  have hl_6 := (Array.getElem?_eq_some_iff.1 hG_6).1
  have HC := hide ((dOpen_any _ wr1 _ oD HS6.out).mono (R' := fun r w' => ∃ ab cb ao cap, r = .returned (.tuple #[.slice ab lD.length cb, diV (.slice ao oD.segs.length cap) oD.synced, .int .i64 0]) ∧ BaSl (wr1.heap.size ≤ ·) w' (.slice ab lD.length cb) lD ∧ StSl (wr1.heap.size ≤ ·) w' (.slice ao oD.segs.length cap) oD.segs ∧ Same wr1 w') (fun r w' h => OAns.ok2 HO2.out.1 HO2.out.2.1 HO2.out.2.2 h))
  go_wp2_with fail
  refine HC.out.mono ?_
  clear HC x0_6 x1_6 hn_6 hl_6 hG_6
  rintro r w2 ⟨ab9, cb9, a9, c9, rfl, hbs, hs, hK⟩
  obtain ⟨W2, hW2⟩ : ∃ W2, W2 = w2.alloc (.cells #[.slice a9 oD.segs.length c9, .int .i64 oD.synced] 38) := ⟨_, rfl⟩
  obtain ⟨b9, hb9⟩ : ∃ b9, b9 = w2.heap.size := ⟨_, rfl⟩
  have hKK : Same wr1 W2 := by rw [hW2]; exact hK.alloc _
  have HG2 := hide (blk_kept HG2.out hKK (fun f => f))
  have HS2 := hide (HS2.out.same hKK)
  have HG3 := hide (blk_kept HG3.out hKK (fun f => f))
  have HS3 := hide (HS3.out.same hKK)
  have HG6 := hide (blk_kept HG6.out hKK (fun f => f))
  have HS6 := hide (HS6.out.same hKK)
  have HAL := hide (HAL.out.same hKK)
  have HKW := hide (trs HKW.out hKK)
  have HG9 := hide (show W2.heap[b9]? = some (.cells #[.slice a9 oD.segs.length c9, .int .i64 oD.synced] 38 (0, 0)) by rw [hW2, hb9]; exact heap_alloc_new _ _)
  have HS9 := hide (show StSl (wr1.heap.size ≤ ·) W2 (.slice a9 oD.segs.length c9) oD.segs by rw [hW2]; exact hs.same ((Kept.refl _ w2).alloc _))
  have HAM := hide (show BaSl (wr1.heap.size ≤ ·) W2 (.slice ab9 lD.length cb9) lD by rw [hW2]; exact hbs.same ((Kept.refl _ w2).alloc _))
  clear hbs
  clear hs hK hKK
  have HSB := hide ((sameBatches_any _ _ W2 _ _ lD lD HAL.out HAM.out).mono (R' := fun e w' => e = .returned (.bool true) ∧ Same W2 w') (fun e w' h => ⟨by rw [h.1, decide_eq_true rfl], by obtain ⟨n, hn⟩ := h.2; exact same_drewN hn⟩))
  go_wp2_with fail
  rw [← hW2]
  clear hW2
  refine HSB.out.mono ?_
  clear HSB
  rintro r wr2 ⟨rfl, hKr⟩
  rw [← hb9]
  clear hb9
  have HG2 := hide (blk_kept HG2.out hKr (fun f => f))
  have HS2 := hide (HS2.out.same hKr)
  have HG3 := hide (blk_kept HG3.out hKr (fun f => f))
  have HS3 := hide (HS3.out.same hKr)
  have HG6 := hide (blk_kept HG6.out hKr (fun f => f))
  have HS6 := hide (HS6.out.same hKr)
  have HAL := hide (HAL.out.same hKr)
  have HG9 := hide (blk_kept HG9.out hKr (fun f => f))
  have HS9 := hide (HS9.out.same hKr)
  have HAM := hide (HAM.out.same hKr)
  have HKW := hide (trs HKW.out hKr)
  clear hKr
  have hG_6 := HG6.out
  obtain ⟨x0_6, x1_6⟩ := blk2 hG_6
  have hn_6 := Nat.ne_of_lt (Array.getElem?_eq_some_iff.1 hG_6).1
  have hl_6 := (Array.getElem?_eq_some_iff.1 hG_6).1
  have hG_9 := HG9.out
  obtain ⟨x0_9, x1_9⟩ := blk2 hG_9
  have hn_9 := Nat.ne_of_lt (Array.getElem?_eq_some_iff.1 hG_9).1
  have hl_9 := (Array.getElem?_eq_some_iff.1 hG_9).1
  have HSD := hide (sameDisk_any _ _ wr2 _ _ oD oD HS6.out HS9.out)
  rw [decide_eq_true rfl] at HSD
  go_wp2_with fail
  refine HSD.out.mono ?_
  clear HSD x0_6 x1_6 hn_6 hl_6 hG_6 x0_9 x1_9 hn_9 hl_9 hG_9
  rintro r wr3 ⟨rfl, hKr⟩
  have HG2 := hide (blk_kept HG2.out hKr (fun f => f))
  have HS2 := hide (HS2.out.same hKr)
  have HG3 := hide (blk_kept HG3.out hKr (fun f => f))
  have HS3 := hide (HS3.out.same hKr)
  have HG6 := hide (blk_kept HG6.out hKr (fun f => f))
  have HS6 := hide (HS6.out.same hKr)
  have HAL := hide (HAL.out.same hKr)
  have HG9 := hide (blk_kept HG9.out hKr (fun f => f))
  have HS9 := hide (HS9.out.same hKr)
  have HAM := hide (HAM.out.same hKr)
  have HKW := hide (trs HKW.out hKr)
  clear hKr
  have hG_6 := HG6.out
  obtain ⟨x0_6, x1_6⟩ := blk2 hG_6
  have hn_6 := Nat.ne_of_lt (Array.getElem?_eq_some_iff.1 hG_6).1
  have hl_6 := (Array.getElem?_eq_some_iff.1 hG_6).1
  have HCK := hide (dCheck_any _ wr3 _ oD HS6.out)
  rw [HO2.out.1] at HCK
  go_wp2_with fail
  refine HCK.out.mono ?_
  clear HCK x0_6 x1_6 hn_6 hl_6 hG_6
  rintro r wr4 ⟨rfl, hKr⟩
  have HG2 := hide (blk_kept HG2.out hKr (fun f => f))
  have HS2 := hide (HS2.out.same hKr)
  have HG3 := hide (blk_kept HG3.out hKr (fun f => f))
  have HS3 := hide (HS3.out.same hKr)
  have HG6 := hide (blk_kept HG6.out hKr (fun f => f))
  have HS6 := hide (HS6.out.same hKr)
  have HAL := hide (HAL.out.same hKr)
  have HG9 := hide (blk_kept HG9.out hKr (fun f => f))
  have HS9 := hide (HS9.out.same hKr)
  have HAM := hide (HAM.out.same hKr)
  have HKW := hide (trs HKW.out hKr)
  clear hKr
  have hG_6 := HG6.out
  obtain ⟨x0_6, x1_6⟩ := blk2 hG_6
  have hn_6 := Nat.ne_of_lt (Array.getElem?_eq_some_iff.1 hG_6).1
  have hl_6 := (Array.getElem?_eq_some_iff.1 hG_6).1
  have hG_3 := HG3.out
  obtain ⟨x0_3, x1_3⟩ := blk2 hG_3
  have hn_3 := Nat.ne_of_lt (Array.getElem?_eq_some_iff.1 hG_3).1
  have hl_3 := (Array.getElem?_eq_some_iff.1 hG_3).1
  cases hx : appendD oD b with
  | error no =>
    have HC := hide ((dAppend_any _ _ wr4 _ _ oD b HS6.out HS3.out).mono (R' := fun r w' => r = .returned (.tuple #[diV (.slice none 0 0) 0, .int .i64 no]) ∧ Same wr4 w' ∧ no ≠ 0) (fun r w' h => h.err hx))
    clear hx
    go_wp2_with fail
    refine HC.out.mono ?_
    rintro r w9 ⟨rfl, hK9, hn9⟩
    have hn9' : (no != 0) = true := by simp [hn9]
    clear hn9
    go_wp2_with fail
    go_ret
    exact ⟨rfl, trs HKW.out (hK9.alloc _)⟩
  | ok dX =>
    obtain ⟨i1, i2, i3, i4⟩ := append_inv hx
    obtain ⟨p1, p2, p3⟩ := put_right HR1.out hr4 i2 i4
    rw [HO2.out.2.2] at p2
    have HX := hide hx
    have HP1 := hide (And.intro (right_ok p1) p2)
    obtain ⟨oX, hoX⟩ : ∃ x, openD dX = x := ⟨_, rfl⟩
    have HOX := hide hoX
    clear hx i1 i2 i3 i4 p1 p2 p3 hoX hr4
    have HC := hide ((dAppend_any _ _ wr4 _ _ oD b HS6.out HS3.out).mono (R' := fun r w' => ∃ ao cap, r = .returned (.tuple #[diV (.slice ao dX.segs.length cap) dX.synced, .int .i64 0]) ∧ StSl (wr4.heap.size ≤ ·) w' (.slice ao dX.segs.length cap) dX.segs ∧ Same wr4 w') (fun r w' h => h.ok HX.out))
    go_wp2_with fail
    refine HC.out.mono ?_
    clear HC x0_6 x1_6 hn_6 hl_6 hG_6 x0_3 x1_3 hn_3 hl_3 hG_3
    rintro r w3 ⟨a10, c10, rfl, hs, hK⟩
    obtain ⟨W3, hW3⟩ : ∃ W3, W3 = w3.alloc (.cells #[.slice a10 dX.segs.length c10, .int .i64 dX.synced] 38) := ⟨_, rfl⟩
    obtain ⟨b10, hb10⟩ : ∃ b10, b10 = w3.heap.size := ⟨_, rfl⟩
    have hKK : Same wr4 W3 := by rw [hW3]; exact hK.alloc _
    have HG2 := hide (blk_kept HG2.out hKK (fun f => f))
    have HS2 := hide (HS2.out.same hKK)
    have HG3 := hide (blk_kept HG3.out hKK (fun f => f))
    have HS3 := hide (HS3.out.same hKK)
    have HG6 := hide (blk_kept HG6.out hKK (fun f => f))
    have HS6 := hide (HS6.out.same hKK)
    have HAL := hide (HAL.out.same hKK)
    have HG9 := hide (blk_kept HG9.out hKK (fun f => f))
    have HS9 := hide (HS9.out.same hKK)
    have HAM := hide (HAM.out.same hKK)
    have HKW := hide (trs HKW.out hKK)
    have HG10 := hide (show W3.heap[b10]? = some (.cells #[.slice a10 dX.segs.length c10, .int .i64 dX.synced] 38 (0, 0)) by rw [hW3, hb10]; exact heap_alloc_new _ _)
    have HS10 := hide (show StSl (wr4.heap.size ≤ ·) W3 (.slice a10 dX.segs.length c10) dX.segs by rw [hW3]; exact hs.same ((Kept.refl _ w3).alloc _))
    clear hs hK hKK
    obtain ⟨lW, hlW⟩ : ∃ x, lD ++ [b] = x := ⟨_, rfl⟩
    rw [hlW] at HP1
    have HC := hide ((dOpen_any _ W3 _ dX HS10.out).mono (R' := fun r w' => ∃ ab cb ao cap, r = .returned (.tuple #[.slice ab lW.length cb, diV (.slice ao oX.segs.length cap) oX.synced, .int .i64 0]) ∧ BaSl (W3.heap.size ≤ ·) w' (.slice ab lW.length cb) lW ∧ StSl (W3.heap.size ≤ ·) w' (.slice ao oX.segs.length cap) oX.segs ∧ Same W3 w') (fun r w' h => OAns.ok2 HP1.out.1 HOX.out HP1.out.2 h))
    go_wp2_with fail
    rw [← hW3]
    clear hW3
    refine HC.out.mono ?_
    clear HC
    rintro r w4 ⟨ab12, cb12, a12, c12, rfl, hbs, hs, hK⟩
    rw [← hb10]
    clear hb10
    obtain ⟨W4, hW4⟩ : ∃ W4, W4 = w4.alloc (.cells #[.slice a12 oX.segs.length c12, .int .i64 oX.synced] 38) := ⟨_, rfl⟩
    obtain ⟨b12, hb12⟩ : ∃ b12, b12 = w4.heap.size := ⟨_, rfl⟩
    have hKK : Same W3 W4 := by rw [hW4]; exact hK.alloc _
    have hG_3 := blk_kept HG3.out hK (fun f => f)
    obtain ⟨x0_3, x1_3⟩ := blk2 hG_3
    have hn_3 := Nat.ne_of_lt (Array.getElem?_eq_some_iff.1 hG_3).1
    have hl_3 := (Array.getElem?_eq_some_iff.1 hG_3).1
    have HG2 := hide (blk_kept HG2.out hKK (fun f => f))
    have HS2 := hide (HS2.out.same hKK)
    have HG3 := hide (blk_kept HG3.out hKK (fun f => f))
    have HS3 := hide (HS3.out.same hKK)
    have HG6 := hide (blk_kept HG6.out hKK (fun f => f))
    have HS6 := hide (HS6.out.same hKK)
    have HAL := hide (HAL.out.same hKK)
    have HG9 := hide (blk_kept HG9.out hKK (fun f => f))
    have HS9 := hide (HS9.out.same hKK)
    have HAM := hide (HAM.out.same hKK)
    have HG10 := hide (blk_kept HG10.out hKK (fun f => f))
    have HS10 := hide (HS10.out.same hKK)
    have HKW := hide (trs HKW.out hKK)
    have HG12 := hide (show W4.heap[b12]? = some (.cells #[.slice a12 oX.segs.length c12, .int .i64 oX.synced] 38 (0, 0)) by rw [hW4, hb12]; exact heap_alloc_new _ _)
    have HS12 := hide (show StSl (W3.heap.size ≤ ·) W4 (.slice a12 oX.segs.length c12) oX.segs by rw [hW4]; exact hs.same ((Kept.refl _ w4).alloc _))
    have HAN := hide (show BaSl (W3.heap.size ≤ ·) W4 (.slice ab12 lW.length cb12) lW by rw [hW4]; exact hbs.same ((Kept.refl _ w4).alloc _))
    clear hbs
    clear hs hK hKK
    obtain ⟨i0, hi, hz0, hz1, hz2⟩ := info_parts info_ba
    obtain ⟨bp, hp1, hp2, hp3, hp4, hp5⟩ := HAL.out.pairs
    have HPN := hide hp3
    have HPV := hide hp5
    have HP1' := hide hp1
    have HPC := hide (fun wy (hy : Same W4 wy) ad had j u hj => (hy.cell (hp4 ad had j u hj) (fun f => f) : wy.cell? (ad.add j) = some u))
    have HSN := hide (fun wy (hy : Same W4 wy) v2 (hv : BaSl (fun _ => True) wy v2 lW) => (sameBatches_any _ _ wy _ _ lW lW (HAN.out.same hy) hv).mono (R' := fun e w' => e = .returned (.bool true) ∧ Same wy w') (fun e w' h => ⟨by rw [h.1, decide_eq_true rfl], by obtain ⟨n, hn⟩ := h.2; exact same_drewN hn⟩))
    have hcb8 : bp.length ≤ 1600 := by omega
    clear hp1 hp3 hp4 hp5
    go_wp2_with fail
    rw [← hW4]
    clear hW4
    rw [← hb12]
    clear hb12
    obtain ⟨z0, z1⟩ := blk2 HG3.out
    have HALL := hide (fun wy (hy : Same W4 wy) => (⟨hy.cell z0 (fun f => f), hy.cell z1 (fun f => f)⟩ : wy.cell? ⟨b3, 0, none⟩ = _ ∧ wy.cell? ⟨b3, 1, none⟩ = _))
    skip
    clear z0 z1
    refine wp_region_noPanic ?_
    refine wp_till 8 (fun w' => w'.cell? ⟨b3, 0, none⟩ = some (.int .i64 b.number) ∧ w'.cell? ⟨b3, 1, none⟩ = some (.slice a3 b.events.length c3)) (by kernel_rfl) ?_ (fun hC0 => ?_)
    · exact HALL.out _ (by repeat' (first | assumption | exact Kept.refl _ _ | refine Kept.drew ?_ | refine Kept.drewN ?_ _ | refine Kept.alloc ?_ _))
    refine till_any (i := 0) (v := ?v1) rfl (by kernel_rfl) (by kernel_rfl) (by kernel_rfl) (by kernel_rfl) (fun _ _ _ h => h) (Or.inl ⟨by rfl, ?hy1⟩) (fun _ => hC0) ?rest1
    case hy1 => (intro w hSw; (try dsimp only at hSw); go_simp <;> (with_reducible rfl))
    try simp only [Act.put, List.setIfInBounds_toArray]
    refine till_any (i := 1) (v := ?v2) rfl (by kernel_rfl) (by kernel_rfl) (by kernel_rfl) (by kernel_rfl) (fun _ _ _ h => h) (Or.inl ⟨by rfl, ?hy2⟩) (fun _ => hC0) ?rest2
    case hy2 => (intro w hSw; (try dsimp only at hSw); go_simp <;> (with_reducible rfl))
    try simp only [Act.put]
    refine till_any (i := 2) (v := ?v3) rfl (by kernel_rfl) (by kernel_rfl) (by kernel_rfl) (by kernel_rfl) (fun _ _ _ h => h) (Or.inl ⟨by rfl, ?hy3⟩) (fun _ => hC0) ?rest3
    case hy3 => (intro w hSw; (try dsimp only at hSw); go_simp <;> (with_reducible rfl))
    try simp only [Act.put]
    refine till_any (i := 3) (v := ?v4) rfl (by kernel_rfl) (by kernel_rfl) (by kernel_rfl) (by kernel_rfl) (fun _ _ _ h => h) (Or.inl ⟨by rfl, ?hy4⟩) (fun _ => hC0) ?rest4
    case hy4 => (intro w hSw; (try dsimp only at hSw); go_simp <;> (with_reducible rfl))
    try simp only [Act.put]
    refine till_any (i := 5) (v := ?v5) rfl (by kernel_rfl) (by kernel_rfl) (by kernel_rfl) (by kernel_rfl) (fun _ _ _ h => h) (Or.inl ⟨by rfl, ?hy5⟩) (fun _ => hC0) ?rest5
    case hy5 => (intro w hSw; (try dsimp only at hSw); go_simp <;> (with_reducible rfl))
    try simp only [Act.put]
    refine till_take (i := 7) (v := ?v6) rfl (by kernel_rfl) (by kernel_rfl) (by kernel_rfl) (by kernel_rfl) (fun _ _ _ h => h) (Or.inl ⟨by rfl, ?hy6⟩) hC0 ?rest6
    case hy6 => (intro w hSw; (try dsimp only at hSw); go_simp <;> (with_reducible rfl))
    try simp only [Act.put]
    refine till_ready (rs := [4, 8]) (by kernel_rfl) (by simp) ?_
    refine TillReady.cons rfl (fun K hK => ?_) (TillReady.free rfl (by kernel_rfl) (fun K hK => ?_) TillReady.nil)
    · skip
      go_simp
      refine hK.out _ _ ?_ (fun hC7 => ?_)
      · first | (refine HALL.out _ ?_; (repeat' (first | exact Kept.refl _ _ | refine Kept.drew ?_ | refine Kept.drewN ?_ _ | refine Kept.alloc ?_ _)); done) | exact HALL.out _ HR5.out.2.1 | exact HALL.out _ (HR5.out.2.1.alloc _)
      clear hK K hC0
      try simp only [Act.put, List.setIfInBounds_toArray, List.set_cons_zero, List.set_cons_succ]
      refine till_ready (rs := [6, 8]) (by kernel_rfl) (by simp) ?_
      refine TillReady.cons rfl (fun K hK => ?_) (TillReady.free rfl (by kernel_rfl) (fun K hK => ?_) TillReady.nil)
      · skip
        refine step_append_w (by rfl) (.tmp 69) (.tmp 70) 34 rfl W4.heap.size 24 i0 _ 2 32 Try.underlying34 hi hz0 hz1 hz2 rfl (by decide) _ 0 [] (by rfl) (by first | (refine own_lit0 _ ?_; exact Nat.le_refl _) | exact own_lit1 _ _ | (refine (own_lit0 _ ?_).alloc _; exact Nat.le_refl _)) ab6 lD.length cb6 (bpCells bp) (by rfl) HPN.out (by rw [bpCells_len, hp2]) (fun ad had j u hj => HPC.out _ (by repeat' (first | assumption | exact Kept.refl _ _ | refine Kept.drew ?_ | refine Kept.drewN ?_ _ | refine Kept.alloc ?_ _)) ad had j u hj) (bpCells_one HPV.out) (by unfold maxLen; omega) (by omega) (by simp; try omega) ?_
        intro v5 w5 hown5 hgr5
        rw [Nat.zero_add, List.nil_append] at hown5
        obtain ⟨a5, cap5, hv5⟩ := own_slice hown5
        subst hv5
        have hK5 : Same W4 w5 := Kept.grown (by repeat' (first | assumption | exact Kept.refl _ _ | refine Kept.drew ?_ | refine Kept.drewN ?_ _ | refine Kept.alloc ?_ _)) hgr5 (fun k hk hlt => by cases hk; first | exact absurd hlt (Nat.lt_irrefl _) | (simp at hlt; done) | (simp at hlt; omega))
        have HR5 := hide (And.intro hown5 (And.intro hK5 (grown_kept hgr5)))
        clear hown5 hgr5 hK5
        refine hK.out _ _ ?_ (fun hC8 => ?_)
        · exact HALL.out _ HR5.out.2.1
        clear hK K hC7
        try simp only [Act.put, List.setIfInBounds_toArray]
        refine till_ready (rs := [8]) (by kernel_rfl) (by simp) ?_
        refine TillReady.free rfl (by kernel_rfl) (fun K hK => ?_) TillReady.nil
        go_simp
        refine hK.out _ _ ?_
        clear hK K
        try simp only [Act.put, List.setIfInBounds_toArray, List.set_cons_zero, List.set_cons_succ]
        refine till_ready (rs := [9]) (by kernel_rfl) (by simp) ?_
        refine TillReady.free rfl (by kernel_rfl) (fun K hK => ?_) TillReady.nil
        have hX5 := HR5.out.2.2
        refine step_append_w (by rfl) (.tmp 71) (.tmp 73) 34 rfl W4.heap.size 24 i0 _ 2 32 Try.underlying34 hi hz0 hz1 hz2 rfl (by decide) (.slice a5 lD.length cap5) lD.length (bpCells bp) (by rfl) (by first | exact HR5.out.1 | exact HR5.out.1.alloc _) (some _) 1 1 [.int .i64 b.number, .slice a3 b.events.length c3] (by rfl) (fun e => by cases e) rfl (by intro ad had j u hj; cases had; refine new_two (t := 24) ?_ j u hj; first | exact heap_alloc_new _ _ | exact blk_kept' hX5 (al_new _ _ _) (fun e => by cases e; omega) | exact blk_kept' hX5 (al_new _ _ _) (fun e => absurd (Option.some.inj e) (Nat.succ_ne_self _)) | exact blk_kept' hX5 (al_old _ _ _) (fun e => absurd (Option.some.inj e).symm (Nat.succ_ne_self _))) (by intro u hu; simp at hu; rcases hu with rfl | rfl <;> rfl) (by unfold maxLen; omega) (by omega) (by have := HR5.out.2.1.size; first | omega | (simp; omega)) ?_
        intro v6 w6 hown6 hgr6
        obtain ⟨a6, cap6, hv6⟩ := own_slice hown6
        subst hv6
        have hK6 : Same W4 w6 := Kept.grown (by first | exact HR5.out.2.1 | exact HR5.out.2.1.alloc _) hgr6 (fun k hk hlt => by have := own_up HR5.out.1 k hk; omega)
        have HR6 := hide (And.intro hown6 hK6)
        clear hown6 hgr6 hK6 hX5
        refine hK.out _ _ ?_
        clear hK K
        try simp only [Act.put, List.setIfInBounds_toArray]
        refine till_ready (rs := [10]) (by kernel_rfl) (by simp) ?_
        refine TillReady.free rfl (by kernel_rfl) (fun K hK => ?_) TillReady.nil
        refine step_call_w (by rfl) 15 _ _ rfl #[.slice ab12 lW.length cb12, .slice a6 (lD.length + 1) cap6] (by simp [Act.eval]) (enters_sb _) (HSN.out _ HR6.out.2 _ ?_) ?_
        · refine own_bas (B := W4.heap.size) (bp := bp ++ [(b, .slice a3 b.events.length c3)]) (P := fun _ => True) ?_ ?_ (by rw [List.length_append]; simp; omega) (by rw [List.map_append, HP1'.out]; exact hlW)
          · have := HR6.out.1
            rw [List.length_append, bpCells_app, hp2]
            exact this
          · intro p hp
            rcases List.mem_append.1 hp with hp | hp
            · exact ((HPV.out p hp).same HR6.out.2).mono (fun _ _ _ => trivial)
            · rw [List.mem_singleton] at hp; subst hp
              exact (HS3.out.same HR6.out.2).mono (fun _ _ _ => trivial)
        rintro e w8 ⟨rfl, hK8⟩
        refine ⟨_, rfl, ?_⟩
        refine hK.out _ _ ?_
        clear hK K
        try simp only [Act.put]
        refine till_any (i := 11) (v := ?v12) rfl (by kernel_rfl) (by kernel_rfl) (by kernel_rfl) (by kernel_rfl) (fun _ _ _ h => h) (Or.inl ⟨by rfl, ?hy12⟩) (fun h => (Bool.false_ne_true (h.symm.trans (by kernel_rfl))).elim) ?rest12
        case hy12 => (intro w hSw; (try dsimp only at hSw); go_simp <;> (with_reducible rfl))
        try simp only [Act.put]
        refine till_any (i := 12) (v := ?v13) rfl (by kernel_rfl) (by kernel_rfl) (by kernel_rfl) (by kernel_rfl) (fun _ _ _ h => h) (Or.inl ⟨by rfl, ?hy13⟩) (fun h => (Bool.false_ne_true (h.symm.trans (by kernel_rfl))).elim) ?rest13
        case hy13 => (intro w hSw; (try dsimp only at hSw); go_simp <;> (with_reducible rfl))
        try simp only [Act.put]
        refine till_done (by kernel_rfl) ?_ _
        refine NoPanic.normal ?_
        simp only [List.getElem_toArray, List.getElem_cons_succ, List.getElem_cons_zero, List.setIfInBounds_toArray, List.set_cons_zero, List.set_cons_succ]
        go_wp2_with fail
        go_ret
        exact ⟨rfl, trs HKW.out (trs HR6.out.2 hK8)⟩
      · skip
        go_simp
        refine hK.out _ _ ?_
        clear hK K
        try simp only [Act.put, List.setIfInBounds_toArray, List.set_cons_zero, List.set_cons_succ]
        refine till_ready (rs := [6]) (by kernel_rfl) (by simp) ?_
        refine TillReady.free rfl (by kernel_rfl) (fun K hK => ?_) TillReady.nil
        refine step_append_w (by rfl) (.tmp 69) (.tmp 70) 34 rfl W4.heap.size 24 i0 _ 2 32 Try.underlying34 hi hz0 hz1 hz2 rfl (by decide) _ 0 [] (by rfl) (by first | (refine own_lit0 _ ?_; exact Nat.le_refl _) | exact own_lit1 _ _ | (refine (own_lit0 _ ?_).alloc _; exact Nat.le_refl _)) ab6 lD.length cb6 (bpCells bp) (by rfl) HPN.out (by rw [bpCells_len, hp2]) (fun ad had j u hj => HPC.out _ (by repeat' (first | assumption | exact Kept.refl _ _ | refine Kept.drew ?_ | refine Kept.drewN ?_ _ | refine Kept.alloc ?_ _)) ad had j u hj) (bpCells_one HPV.out) (by unfold maxLen; omega) (by omega) (by simp; try omega) ?_
        intro v5 w5 hown5 hgr5
        rw [Nat.zero_add, List.nil_append] at hown5
        obtain ⟨a5, cap5, hv5⟩ := own_slice hown5
        subst hv5
        have hK5 : Same W4 w5 := Kept.grown (by repeat' (first | assumption | exact Kept.refl _ _ | refine Kept.drew ?_ | refine Kept.drewN ?_ _ | refine Kept.alloc ?_ _)) hgr5 (fun k hk hlt => by cases hk; first | exact absurd hlt (Nat.lt_irrefl _) | (simp at hlt; done) | (simp at hlt; omega))
        have HR5 := hide (And.intro hown5 (And.intro hK5 (grown_kept hgr5)))
        clear hown5 hgr5 hK5
        refine hK.out _ _ ?_
        clear hK K
        try simp only [Act.put, List.setIfInBounds_toArray]
        refine till_ready (rs := [9]) (by kernel_rfl) (by simp) ?_
        refine TillReady.free rfl (by kernel_rfl) (fun K hK => ?_) TillReady.nil
        have hX5 := HR5.out.2.2
        refine step_append_w (by rfl) (.tmp 71) (.tmp 73) 34 rfl W4.heap.size 24 i0 _ 2 32 Try.underlying34 hi hz0 hz1 hz2 rfl (by decide) (.slice a5 lD.length cap5) lD.length (bpCells bp) (by rfl) (by first | exact HR5.out.1 | exact HR5.out.1.alloc _) (some _) 1 1 [.int .i64 b.number, .slice a3 b.events.length c3] (by rfl) (fun e => by cases e) rfl (by intro ad had j u hj; cases had; refine new_two (t := 24) ?_ j u hj; first | exact heap_alloc_new _ _ | exact blk_kept' hX5 (al_new _ _ _) (fun e => by cases e; omega) | exact blk_kept' hX5 (al_new _ _ _) (fun e => absurd (Option.some.inj e) (Nat.succ_ne_self _)) | exact blk_kept' hX5 (al_old _ _ _) (fun e => absurd (Option.some.inj e).symm (Nat.succ_ne_self _))) (by intro u hu; simp at hu; rcases hu with rfl | rfl <;> rfl) (by unfold maxLen; omega) (by omega) (by have := HR5.out.2.1.size; first | omega | (simp; omega)) ?_
        intro v6 w6 hown6 hgr6
        obtain ⟨a6, cap6, hv6⟩ := own_slice hown6
        subst hv6
        have hK6 : Same W4 w6 := Kept.grown (by first | exact HR5.out.2.1 | exact HR5.out.2.1.alloc _) hgr6 (fun k hk hlt => by have := own_up HR5.out.1 k hk; omega)
        have HR6 := hide (And.intro hown6 hK6)
        clear hown6 hgr6 hK6 hX5
        refine hK.out _ _ ?_
        clear hK K
        try simp only [Act.put]
        refine till_ready (rs := [10]) (by kernel_rfl) (by simp) ?_
        refine TillReady.free rfl (by kernel_rfl) (fun K hK => ?_) TillReady.nil
        refine step_call_w (by rfl) 15 _ _ rfl #[.slice ab12 lW.length cb12, .slice a6 (lD.length + 1) cap6] (by simp [Act.eval]) (enters_sb _) (HSN.out _ HR6.out.2 _ ?_) ?_
        · refine own_bas (B := W4.heap.size) (bp := bp ++ [(b, .slice a3 b.events.length c3)]) (P := fun _ => True) ?_ ?_ (by rw [List.length_append]; simp; omega) (by rw [List.map_append, HP1'.out]; exact hlW)
          · have := HR6.out.1
            rw [List.length_append, bpCells_app, hp2]
            exact this
          · intro p hp
            rcases List.mem_append.1 hp with hp | hp
            · exact ((HPV.out p hp).same HR6.out.2).mono (fun _ _ _ => trivial)
            · rw [List.mem_singleton] at hp; subst hp
              exact (HS3.out.same HR6.out.2).mono (fun _ _ _ => trivial)
        rintro e w8 ⟨rfl, hK8⟩
        refine ⟨_, rfl, ?_⟩
        refine hK.out _ _ ?_
        clear hK K
        try simp only [Act.put]
        refine till_any (i := 11) (v := ?v18) rfl (by kernel_rfl) (by kernel_rfl) (by kernel_rfl) (by kernel_rfl) (fun _ _ _ h => h) (Or.inl ⟨by rfl, ?hy18⟩) (fun h => (Bool.false_ne_true (h.symm.trans (by kernel_rfl))).elim) ?rest18
        case hy18 => (intro w hSw; (try dsimp only at hSw); go_simp <;> (with_reducible rfl))
        try simp only [Act.put]
        refine till_any (i := 12) (v := ?v19) rfl (by kernel_rfl) (by kernel_rfl) (by kernel_rfl) (by kernel_rfl) (fun _ _ _ h => h) (Or.inl ⟨by rfl, ?hy19⟩) (fun h => (Bool.false_ne_true (h.symm.trans (by kernel_rfl))).elim) ?rest19
        case hy19 => (intro w hSw; (try dsimp only at hSw); go_simp <;> (with_reducible rfl))
        try simp only [Act.put]
        refine till_done (by kernel_rfl) ?_ _
        refine NoPanic.normal ?_
        simp only [List.getElem_toArray, List.getElem_cons_succ, List.getElem_cons_zero, List.setIfInBounds_toArray, List.set_cons_zero, List.set_cons_succ]
        go_wp2_with fail
        go_ret
        exact ⟨rfl, trs HKW.out (trs HR6.out.2 hK8)⟩
    · skip
      go_simp
      refine hK.out _ _ ?_
      clear hK K
      try simp only [Act.put, List.setIfInBounds_toArray, List.set_cons_zero, List.set_cons_succ]
      refine till_ready (rs := [4]) (by kernel_rfl) (by simp) ?_
      refine TillReady.free rfl (by kernel_rfl) (fun K hK => ?_) TillReady.nil
      go_simp
      refine hK.out _ _ ?_
      clear hK K
      try simp only [Act.put, List.setIfInBounds_toArray, List.set_cons_zero, List.set_cons_succ]
      refine till_ready (rs := [6]) (by kernel_rfl) (by simp) ?_
      refine TillReady.free rfl (by kernel_rfl) (fun K hK => ?_) TillReady.nil
      refine step_append_w (by rfl) (.tmp 69) (.tmp 70) 34 rfl W4.heap.size 24 i0 _ 2 32 Try.underlying34 hi hz0 hz1 hz2 rfl (by decide) _ 0 [] (by rfl) (by first | (refine own_lit0 _ ?_; exact Nat.le_refl _) | exact own_lit1 _ _ | (refine (own_lit0 _ ?_).alloc _; exact Nat.le_refl _)) ab6 lD.length cb6 (bpCells bp) (by rfl) HPN.out (by rw [bpCells_len, hp2]) (fun ad had j u hj => HPC.out _ (by repeat' (first | assumption | exact Kept.refl _ _ | refine Kept.drew ?_ | refine Kept.drewN ?_ _ | refine Kept.alloc ?_ _)) ad had j u hj) (bpCells_one HPV.out) (by unfold maxLen; omega) (by omega) (by simp; try omega) ?_
      intro v5 w5 hown5 hgr5
      rw [Nat.zero_add, List.nil_append] at hown5
      obtain ⟨a5, cap5, hv5⟩ := own_slice hown5
      subst hv5
      have hK5 : Same W4 w5 := Kept.grown (by repeat' (first | assumption | exact Kept.refl _ _ | refine Kept.drew ?_ | refine Kept.drewN ?_ _ | refine Kept.alloc ?_ _)) hgr5 (fun k hk hlt => by cases hk; first | exact absurd hlt (Nat.lt_irrefl _) | (simp at hlt; done) | (simp at hlt; omega))
      have HR5 := hide (And.intro hown5 (And.intro hK5 (grown_kept hgr5)))
      clear hown5 hgr5 hK5
      refine hK.out _ _ ?_
      clear hK K
      try simp only [Act.put, List.setIfInBounds_toArray]
      refine till_ready (rs := [9]) (by kernel_rfl) (by simp) ?_
      refine TillReady.free rfl (by kernel_rfl) (fun K hK => ?_) TillReady.nil
      have hX5 := HR5.out.2.2
      refine step_append_w (by rfl) (.tmp 71) (.tmp 73) 34 rfl W4.heap.size 24 i0 _ 2 32 Try.underlying34 hi hz0 hz1 hz2 rfl (by decide) (.slice a5 lD.length cap5) lD.length (bpCells bp) (by rfl) (by first | exact HR5.out.1 | exact HR5.out.1.alloc _) (some _) 1 1 [.int .i64 b.number, .slice a3 b.events.length c3] (by rfl) (fun e => by cases e) rfl (by intro ad had j u hj; cases had; refine new_two (t := 24) ?_ j u hj; first | exact heap_alloc_new _ _ | exact blk_kept' hX5 (al_new _ _ _) (fun e => by cases e; omega) | exact blk_kept' hX5 (al_new _ _ _) (fun e => absurd (Option.some.inj e) (Nat.succ_ne_self _)) | exact blk_kept' hX5 (al_old _ _ _) (fun e => absurd (Option.some.inj e).symm (Nat.succ_ne_self _))) (by intro u hu; simp at hu; rcases hu with rfl | rfl <;> rfl) (by unfold maxLen; omega) (by omega) (by have := HR5.out.2.1.size; first | omega | (simp; omega)) ?_
      intro v6 w6 hown6 hgr6
      obtain ⟨a6, cap6, hv6⟩ := own_slice hown6
      subst hv6
      have hK6 : Same W4 w6 := Kept.grown (by first | exact HR5.out.2.1 | exact HR5.out.2.1.alloc _) hgr6 (fun k hk hlt => by have := own_up HR5.out.1 k hk; omega)
      have HR6 := hide (And.intro hown6 hK6)
      clear hown6 hgr6 hK6 hX5
      refine hK.out _ _ ?_
      clear hK K
      try simp only [Act.put]
      refine till_ready (rs := [10]) (by kernel_rfl) (by simp) ?_
      refine TillReady.free rfl (by kernel_rfl) (fun K hK => ?_) TillReady.nil
      refine step_call_w (by rfl) 15 _ _ rfl #[.slice ab12 lW.length cb12, .slice a6 (lD.length + 1) cap6] (by simp [Act.eval]) (enters_sb _) (HSN.out _ HR6.out.2 _ ?_) ?_
      · refine own_bas (B := W4.heap.size) (bp := bp ++ [(b, .slice a3 b.events.length c3)]) (P := fun _ => True) ?_ ?_ (by rw [List.length_append]; simp; omega) (by rw [List.map_append, HP1'.out]; exact hlW)
        · have := HR6.out.1
          rw [List.length_append, bpCells_app, hp2]
          exact this
        · intro p hp
          rcases List.mem_append.1 hp with hp | hp
          · exact ((HPV.out p hp).same HR6.out.2).mono (fun _ _ _ => trivial)
          · rw [List.mem_singleton] at hp; subst hp
            exact (HS3.out.same HR6.out.2).mono (fun _ _ _ => trivial)
      rintro e w8 ⟨rfl, hK8⟩
      refine ⟨_, rfl, ?_⟩
      refine hK.out _ _ ?_
      clear hK K
      try simp only [Act.put]
      refine till_any (i := 11) (v := ?v25) rfl (by kernel_rfl) (by kernel_rfl) (by kernel_rfl) (by kernel_rfl) (fun _ _ _ h => h) (Or.inl ⟨by rfl, ?hy25⟩) (fun h => (Bool.false_ne_true (h.symm.trans (by kernel_rfl))).elim) ?rest25
      case hy25 => (intro w hSw; (try dsimp only at hSw); go_simp <;> (with_reducible rfl))
      try simp only [Act.put]
      refine till_any (i := 12) (v := ?v26) rfl (by kernel_rfl) (by kernel_rfl) (by kernel_rfl) (by kernel_rfl) (fun _ _ _ h => h) (Or.inl ⟨by rfl, ?hy26⟩) (fun h => (Bool.false_ne_true (h.symm.trans (by kernel_rfl))).elim) ?rest26
      case hy26 => (intro w hSw; (try dsimp only at hSw); go_simp <;> (with_reducible rfl))
      try simp only [Act.put]
      refine till_done (by kernel_rfl) ?_ _
      refine NoPanic.normal ?_
      simp only [List.getElem_toArray, List.getElem_cons_succ, List.getElem_cons_zero, List.setIfInBounds_toArray, List.set_cons_zero, List.set_cons_succ]
      go_wp2_with fail
      go_ret
      exact ⟨rfl, trs HKW.out (trs HR6.out.2 hK8)⟩


end Go.Proofs.Ytillhpepfpldcaa
