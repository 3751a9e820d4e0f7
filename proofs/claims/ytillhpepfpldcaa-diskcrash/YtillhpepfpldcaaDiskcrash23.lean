/- DiskCrash: the walk of the law's function. (Written by tool/gencrash.py.) -/
import Derived.Test.YtillhpepfpldcaaDiskcrash22
namespace Go.Proofs.Ytillhpepfpldcaa
open Go.RowKit

theorem append_inv2 {d x : DiskT} {b : BatchT} (h : appendD d b = .ok x) : checkD d = 0 ∧ checkBa b = 0 ∧ tornD d = false ∧ putD d (bytesB b) = .ok x := by
  unfold appendD at h
  by_cases h1 : checkD d = 0
  · rw [if_neg (by simp [h1])] at h
    by_cases h2 : checkBa b = 0
    · rw [if_neg (by simp [h2])] at h
      cases h3 : tornD d with
      | true => rw [h3, if_pos rfl] at h; cases h
      | false => rw [h3, if_neg (by simp)] at h; exact ⟨h1, h2, rfl, h⟩
    · rw [if_pos h2] at h; cases h
  · rw [if_pos h1] at h; cases h
theorem cut_open {o : DiskT} (h : RightD o) (ho : openD o = o) {m : Int} (hm : 0 ≤ m) : cutD o m = o := by
  have ht : tornD o = false := by rw [← ho]; exact (open_right h).2.2.2
  have hs := sync_right h ht
  have e : (⟨o.segs, (lastS o.segs).length⟩ : DiskT) = o := by
    have h1 : wholeS (lastS o.segs) = lastS o.segs := by
      unfold tornD at ht
      simp only [decide_eq_false_iff_not] at ht
      exact whole_eq ht
    have h2 : (openD o).synced = o.synced := by rw [ho]
    unfold openD at h2
    simp only at h2
    rw [h1] at h2
    obtain ⟨s, n⟩ := o
    simp only at h2 ⊢
    rw [h2]
  have := hs.2 m hm
  rw [e] at this
  exact this
theorem sync_ok {d : DiskT} (hc : checkD d = 0) (ht : tornD d = false) : syncD d = .ok ⟨d.segs, (lastS d.segs).length⟩ := by
  unfold syncD
  rw [if_neg (by simp [hc]), if_neg (by simp [ht])]

set_option maxRecDepth 20000 in
set_option maxHeartbeats 12800000 in
theorem diskCrash_any (w : World) (d : DiskT) (b : BatchT) (vd vb : Value) (keep more : Int) (hk1 : keep ≤ 9223372036854775807) (hm1 : more ≤ 9223372036854775807) (hd : StSl anyE w vd d.segs) (hb : EvSl anyE w vb b.events) :
    Calls Try.prog 5 #[diV vd d.synced, baV b.number vb, .int .i64 keep, .int .i64 more] w fun e w' => e = .returned (.bool true) ∧ Same w w' := by
  have trs : ∀ {a b c : World}, Same a b → Same b c → Same a c := fun h k => h.trans k (fun _ _ f => f)
  obtain ⟨a4, c4, rfl⟩ := hd.form
  obtain ⟨a3, c3, rfl⟩ := hb.form
  obtain ⟨W0, hW0⟩ : ∃ W0, W0 = (w.alloc (.cells #[.slice a4 d.segs.length c4, .int .i64 d.synced] 38)).alloc (.cells #[.int .i64 b.number, .slice a3 b.events.length c3] 24) := ⟨_, rfl⟩
  obtain ⟨b4, hb4⟩ : ∃ b4, b4 = w.heap.size := ⟨_, rfl⟩
  obtain ⟨b3, hb3⟩ : ∃ b3, b3 = w.heap.size + 1 := ⟨_, rfl⟩
  have HKW := hide (show Same w W0 by rw [hW0]; exact ((Kept.refl _ w).alloc _).alloc _)
  have HG4 := hide (show W0.heap[b4]? = some (.cells #[.slice a4 d.segs.length c4, .int .i64 d.synced] 38 (0, 0)) by rw [hW0, hb4]; exact al_old _ _ _)
  have HG3 := hide (show W0.heap[b3]? = some (.cells #[.int .i64 b.number, .slice a3 b.events.length c3] 24 (0, 0)) by rw [hW0, hb3]; exact al_new _ _ _)
  have HS4 := hide (hd.same HKW.out)
  have HS3 := hide (hb.same HKW.out)
  have HBG := hide (diskBegun_any W0)
  clear hd hb
  go_enter Try.func5, Try.ntmps5
  go_wp2_with fail
  rw [← hW0]
  clear hW0
  refine HBG.out.mono ?_
  clear HBG
  rintro r wr1 ⟨rfl, hKr⟩
  rw [← hb3, ← hb4]
  clear hb3 hb4
  have HG4 := hide (blk_kept HG4.out hKr (fun f => f))
  have HS4 := hide (HS4.out.same hKr)
  have HG3 := hide (blk_kept HG3.out hKr (fun f => f))
  have HS3 := hide (HS3.out.same hKr)
  have HKW := hide (trs HKW.out hKr)
  clear hKr
  have hG_4 := HG4.out
  obtain ⟨x0_4, x1_4⟩ := blk2 hG_4
  have hn_4 := Nat.ne_of_lt (Array.getElem?_eq_some_iff.1 hG_4).1
  have hl_4 := (Array.getElem?_eq_some_iff.1 hG_4).1
  by_cases hc : checkD d = 0
  rotate_left
  · have HC := hide ((dOpen_any _ wr1 _ d HS4.out).mono (R' := fun r w' => r = .returned (.tuple #[.slice none 0 0, diV (.slice none 0 0) 0, .int .i64 (checkD d)]) ∧ Same wr1 w') (fun r w' h => h.no hc))
    have hc' : (checkD d != 0) = true := by simp [hc]
    have hc'' : (checkD d == 0) = false := by simp [hc]
    clear hc
    generalize checkD d = no at *
    go_wp2_with fail
    refine HC.out.mono ?_
    rintro r w1 ⟨rfl, hK1⟩
    go_wp2_with fail
    go_ret
    exact ⟨rfl, trs HKW.out (hK1.alloc _)⟩
  have HRD := hide (right_of hc)
  by_cases hkm : keep < 0 ∨ more < 0
  · have HC := hide ((dOpen_any _ wr1 _ d HS4.out).mono (R' := fun r w' => ∃ ab cb ao cap, r = .returned (.tuple #[.slice ab (batchesD d.segs).length cb, diV (.slice ao (openD d).segs.length cap) (openD d).synced, .int .i64 0]) ∧ Same wr1 w') (fun r w' h => by obtain ⟨ab, cb, ao, cap, h1, _, _, h4⟩ := h.ok hc; exact ⟨ab, cb, ao, cap, h1, h4⟩))
    clear hc HRD
    generalize openD d = od at *
    generalize (batchesD d.segs).length = nb at *
    by_cases hk0 : keep < 0
    · clear hkm
      go_wp2_with fail
      refine HC.out.mono ?_
      rintro r w1 ⟨ab, cb, ao, cap, rfl, hK1⟩
      go_wp2_with fail
      go_ret
      exact ⟨rfl, trs HKW.out (hK1.alloc _)⟩
    · have hmk : more < 0 := hkm.resolve_left hk0
      clear hkm
      go_wp2_with fail
      refine HC.out.mono ?_
      rintro r w1 ⟨ab, cb, ao, cap, rfl, hK1⟩
      go_wp2_with fail
      go_ret
      exact ⟨rfl, trs HKW.out (hK1.alloc _)⟩
  have hk0 : 0 ≤ keep := by omega
  have hm0 : 0 ≤ more := by omega
  clear hkm
  obtain ⟨hr1, hr2, hr3, hr4⟩ := open_right HRD.out
  have HOK := hide hc
  obtain ⟨oD, hoD⟩ : ∃ x, openD d = x := ⟨_, rfl⟩
  obtain ⟨lD, hlD⟩ : ∃ x, batchesD d.segs = x := ⟨_, rfl⟩
  rw [hoD] at hr1 hr2 hr3 hr4
  rw [hlD] at hr2
  have HOD := hide (And.intro hlD hoD)
  have HR1 := hide (And.intro hr1 (And.intro hr3 (And.intro hr4 hr2)))
  have hll : lD.length ≤ 1600 := by
    rw [← hr2]
    cases hr1 with
    | none => simp [batchesD]
    | some i s n k h1 h2 h3 h4 h5 h6 =>
      exact bats_len (by simp; omega) (fun x hx => by
        rcases List.mem_append.1 hx with hx | hx
        · exact (h2 x hx).1
        · rw [List.mem_singleton] at hx; subst hx; exact h3)
  clear hc hoD hlD hr1 hr2 hr3 hr4 HRD
  have HC := hide ((dOpen_any _ wr1 _ d HS4.out).mono (R' := fun r w' => ∃ ab cb ao cap, r = .returned (.tuple #[.slice ab lD.length cb, diV (.slice ao oD.segs.length cap) oD.synced, .int .i64 0]) ∧ BaSl (wr1.heap.size ≤ ·) w' (.slice ab lD.length cb) lD ∧ StSl (wr1.heap.size ≤ ·) w' (.slice ao oD.segs.length cap) oD.segs ∧ Same wr1 w') (fun r w' h => OAns.ok2 HOK.out HOD.out.2 HOD.out.1 h))
  go_wp2_with fail
  refine HC.out.mono ?_
  clear HC x0_4 x1_4 hn_4 hl_4 hG_4
  rintro r w1 ⟨ab10, cb10, a10, c10, rfl, hbs, hs, hK⟩
  obtain ⟨W1, hW1⟩ : ∃ W1, W1 = w1.alloc (.cells #[.slice a10 oD.segs.length c10, .int .i64 oD.synced] 38) := ⟨_, rfl⟩
  obtain ⟨b10, hb10⟩ : ∃ b10, b10 = w1.heap.size := ⟨_, rfl⟩
  have hKK : Same wr1 W1 := by rw [hW1]; exact hK.alloc _
  have hG_3 := blk_kept HG3.out hK (fun f => f)
  obtain ⟨x0_3, x1_3⟩ := blk2 hG_3
  have hn_3 := Nat.ne_of_lt (Array.getElem?_eq_some_iff.1 hG_3).1
  have hl_3 := (Array.getElem?_eq_some_iff.1 hG_3).1
  have HG4 := hide (blk_kept HG4.out hKK (fun f => f))
  have HS4 := hide (HS4.out.same hKK)
  have HG3 := hide (blk_kept HG3.out hKK (fun f => f))
  have HS3 := hide (HS3.out.same hKK)
  have HKW := hide (trs HKW.out hKK)
  have HG10 := hide (show W1.heap[b10]? = some (.cells #[.slice a10 oD.segs.length c10, .int .i64 oD.synced] 38 (0, 0)) by rw [hW1, hb10]; exact heap_alloc_new _ _)
  have HS10 := hide (show StSl (wr1.heap.size ≤ ·) W1 (.slice a10 oD.segs.length c10) oD.segs by rw [hW1]; exact hs.same ((Kept.refl _ w1).alloc _))
  have HAL := hide (show BaSl (wr1.heap.size ≤ ·) W1 (.slice ab10 lD.length cb10) lD by rw [hW1]; exact hbs.same ((Kept.refl _ w1).alloc _))
  clear hbs
  clear hs hK hKK
  cases hx : appendD oD b with
  | error no =>
    have HC := hide ((dAppend_any _ _ W1 _ _ oD b HS10.out HS3.out).mono (R' := fun r w' => r = .returned (.tuple #[diV (.slice none 0 0) 0, .int .i64 no]) ∧ Same W1 w' ∧ no ≠ 0) (fun r w' h => h.err hx))
    clear hx
    go_wp2_with fail
    rw [← hW1]
    clear hW1
    refine HC.out.mono ?_
    rintro r w9 ⟨rfl, hK9, hn9⟩
    have hn9' : (no != 0) = true := by simp [hn9]
    clear hn9
    go_wp2_with fail
    go_ret
    exact ⟨rfl, trs HKW.out (hK9.alloc _)⟩
  | ok dX =>
    obtain ⟨i1, i2, i3, i4⟩ := append_inv2 hx
    obtain ⟨p1, p2, p3⟩ := put_right HR1.out.1 HR1.out.2.2.1 i2 i4
    rw [HR1.out.2.2.2] at p2
    have hcr := crash_append HR1.out.1 HR1.out.2.1 i2 i4 hk0
    rw [HR1.out.2.2.2] at hcr
    have HX := hide hx
    obtain ⟨lW, hlW⟩ : ∃ x, lD ++ [b] = x := ⟨_, rfl⟩
    rw [hlW] at p2 hcr
    have p4 := sync_right p1 p3
    have HXC := hide (crash_ok (right_ok p1) hk0)
    have HXS := hide (sync_ok (right_ok p1) p3)
    obtain ⟨q1, q2, q3, q4⟩ := open_right (crash_right p1 hk0)
    have HCR := hide (right_ok (crash_right p1 hk0))
    obtain ⟨dC, hdC⟩ : ∃ x, x = cutD dX keep := ⟨_, rfl⟩
    rw [← hdC] at HXC HCR q1 q2 q3 q4 hcr
    obtain ⟨oC, hoC⟩ : ∃ x, openD dC = x := ⟨_, rfl⟩
    rw [hoC] at q1 q2 q3 q4
    have HCM := hide (show crashD oC more = .ok oC by rw [crash_ok (right_ok q1) hm0, cut_open q1 q3 hm0])
    obtain ⟨lC, hlC⟩ : ∃ x, batchesD dC.segs = x := ⟨_, rfl⟩
    rw [hlC] at hcr
    have HOC := hide (And.intro hlC hoC)
    obtain ⟨dS, hdS⟩ : ∃ x : DiskT, x = ⟨dX.segs, (lastS dX.segs).length⟩ := ⟨_, rfl⟩
    rw [← hdS] at HXS p4
    have HSC := hide (show crashD dS keep = .ok dS by rw [crash_ok (right_ok p4.1) hk0, p4.2 keep hk0])
    have HSR := hide (right_ok p4.1)
    have HSB := hide (show batchesD dS.segs = lW by rw [hdS]; exact p2)
    obtain ⟨oS, hoS⟩ : ∃ x, openD dS = x := ⟨_, rfl⟩
    have HOS := hide hoS
    have HCRA := hide hcr
    have HLW := hide hlW
    clear hx i1 i2 i3 i4 p1 p2 p3 p4 q1 q2 q3 q4 hdC hoC hlC hdS hoS hcr hlW
    have HC := hide ((dAppend_any _ _ W1 _ _ oD b HS10.out HS3.out).mono (R' := fun r w' => ∃ ao cap, r = .returned (.tuple #[diV (.slice ao dX.segs.length cap) dX.synced, .int .i64 0]) ∧ StSl (W1.heap.size ≤ ·) w' (.slice ao dX.segs.length cap) dX.segs ∧ Same W1 w') (fun r w' h => h.ok HX.out))
    go_wp2_with fail
    rw [← hW1]
    clear hW1
    refine HC.out.mono ?_
    clear HC x0_3 x1_3 hn_3 hl_3 hG_3
    rintro r w2 ⟨a12, c12, rfl, hs, hK⟩
    rw [← hb10]
    clear hb10
    obtain ⟨W2, hW2⟩ : ∃ W2, W2 = w2.alloc (.cells #[.slice a12 dX.segs.length c12, .int .i64 dX.synced] 38) := ⟨_, rfl⟩
    obtain ⟨b12, hb12⟩ : ∃ b12, b12 = w2.heap.size := ⟨_, rfl⟩
    have hKK : Same W1 W2 := by rw [hW2]; exact hK.alloc _
    have HG4 := hide (blk_kept HG4.out hKK (fun f => f))
    have HS4 := hide (HS4.out.same hKK)
    have HG3 := hide (blk_kept HG3.out hKK (fun f => f))
    have HS3 := hide (HS3.out.same hKK)
    have HG10 := hide (blk_kept HG10.out hKK (fun f => f))
    have HS10 := hide (HS10.out.same hKK)
    have HAL := hide (HAL.out.same hKK)
    have HKW := hide (trs HKW.out hKK)
    have HG12 := hide (show W2.heap[b12]? = some (.cells #[.slice a12 dX.segs.length c12, .int .i64 dX.synced] 38 (0, 0)) by rw [hW2, hb12]; exact heap_alloc_new _ _)
    have HS12 := hide (show StSl (W1.heap.size ≤ ·) W2 (.slice a12 dX.segs.length c12) dX.segs by rw [hW2]; exact hs.same ((Kept.refl _ w2).alloc _))
    clear hs hK hKK
    have HC := hide ((dCrash_any _ W2 _ dX keep (by omega) HS12.out).mono (R' := fun r w' => ∃ ao cap, r = .returned (.tuple #[diV (.slice ao dC.segs.length cap) dC.synced, .int .i64 0]) ∧ StSl (W2.heap.size ≤ ·) w' (.slice ao dC.segs.length cap) dC.segs ∧ Same W2 w') (fun r w' h => h.ok HXC.out))
    go_wp2_with fail
    rw [← hW2]
    clear hW2
    refine HC.out.mono ?_
    clear HC
    rintro r w3 ⟨a13, c13, rfl, hs, hK⟩
    rw [← hb12]
    clear hb12
    obtain ⟨W3, hW3⟩ : ∃ W3, W3 = w3.alloc (.cells #[.slice a13 dC.segs.length c13, .int .i64 dC.synced] 38) := ⟨_, rfl⟩
    obtain ⟨b13, hb13⟩ : ∃ b13, b13 = w3.heap.size := ⟨_, rfl⟩
    have hKK : Same W2 W3 := by rw [hW3]; exact hK.alloc _
    have HG4 := hide (blk_kept HG4.out hKK (fun f => f))
    have HS4 := hide (HS4.out.same hKK)
    have HG3 := hide (blk_kept HG3.out hKK (fun f => f))
    have HS3 := hide (HS3.out.same hKK)
    have HG10 := hide (blk_kept HG10.out hKK (fun f => f))
    have HS10 := hide (HS10.out.same hKK)
    have HAL := hide (HAL.out.same hKK)
    have HG12 := hide (blk_kept HG12.out hKK (fun f => f))
    have HS12 := hide (HS12.out.same hKK)
    have HKW := hide (trs HKW.out hKK)
    have HG13 := hide (show W3.heap[b13]? = some (.cells #[.slice a13 dC.segs.length c13, .int .i64 dC.synced] 38 (0, 0)) by rw [hW3, hb13]; exact heap_alloc_new _ _)
    have HS13 := hide (show StSl (W2.heap.size ≤ ·) W3 (.slice a13 dC.segs.length c13) dC.segs by rw [hW3]; exact hs.same ((Kept.refl _ w3).alloc _))
    clear hs hK hKK
    have HC := hide ((dOpen_any _ W3 _ dC HS13.out).mono (R' := fun r w' => ∃ ab cb ao cap, r = .returned (.tuple #[.slice ab lC.length cb, diV (.slice ao oC.segs.length cap) oC.synced, .int .i64 0]) ∧ BaSl (W3.heap.size ≤ ·) w' (.slice ab lC.length cb) lC ∧ StSl (W3.heap.size ≤ ·) w' (.slice ao oC.segs.length cap) oC.segs ∧ Same W3 w') (fun r w' h => OAns.ok2 HCR.out HOC.out.2 HOC.out.1 h))
    go_wp2_with fail
    rw [← hW3]
    clear hW3
    refine HC.out.mono ?_
    clear HC
    rintro r w4 ⟨ab16, cb16, a16, c16, rfl, hbs, hs, hK⟩
    rw [← hb13]
    clear hb13
    obtain ⟨W4, hW4⟩ : ∃ W4, W4 = w4.alloc (.cells #[.slice a16 oC.segs.length c16, .int .i64 oC.synced] 38) := ⟨_, rfl⟩
    obtain ⟨b16, hb16⟩ : ∃ b16, b16 = w4.heap.size := ⟨_, rfl⟩
    have hKK : Same W3 W4 := by rw [hW4]; exact hK.alloc _
    have HG4 := hide (blk_kept HG4.out hKK (fun f => f))
    have HS4 := hide (HS4.out.same hKK)
    have HG3 := hide (blk_kept HG3.out hKK (fun f => f))
    have HS3 := hide (HS3.out.same hKK)
    have HG10 := hide (blk_kept HG10.out hKK (fun f => f))
    have HS10 := hide (HS10.out.same hKK)
    have HAL := hide (HAL.out.same hKK)
    have HG12 := hide (blk_kept HG12.out hKK (fun f => f))
    have HS12 := hide (HS12.out.same hKK)
    have HG13 := hide (blk_kept HG13.out hKK (fun f => f))
    have HS13 := hide (HS13.out.same hKK)
    have HKW := hide (trs HKW.out hKK)
    have HG16 := hide (show W4.heap[b16]? = some (.cells #[.slice a16 oC.segs.length c16, .int .i64 oC.synced] 38 (0, 0)) by rw [hW4, hb16]; exact heap_alloc_new _ _)
    have HS16 := hide (show StSl (W3.heap.size ≤ ·) W4 (.slice a16 oC.segs.length c16) oC.segs by rw [hW4]; exact hs.same ((Kept.refl _ w4).alloc _))
    have HAC := hide (show BaSl (W3.heap.size ≤ ·) W4 (.slice ab16 lC.length cb16) lC by rw [hW4]; exact hbs.same ((Kept.refl _ w4).alloc _))
    clear hbs
    clear hs hK hKK
    have HC := hide ((dCrash_any _ W4 _ oC more (by omega) HS16.out).mono (R' := fun r w' => ∃ ao cap, r = .returned (.tuple #[diV (.slice ao oC.segs.length cap) oC.synced, .int .i64 0]) ∧ StSl (W4.heap.size ≤ ·) w' (.slice ao oC.segs.length cap) oC.segs ∧ Same W4 w') (fun r w' h => h.ok HCM.out))
    go_wp2_with fail
    rw [← hW4]
    clear hW4
    refine HC.out.mono ?_
    clear HC
    rintro r w5 ⟨a18, c18, rfl, hs, hK⟩
    rw [← hb16]
    clear hb16
    obtain ⟨W5, hW5⟩ : ∃ W5, W5 = w5.alloc (.cells #[.slice a18 oC.segs.length c18, .int .i64 oC.synced] 38) := ⟨_, rfl⟩
    obtain ⟨b18, hb18⟩ : ∃ b18, b18 = w5.heap.size := ⟨_, rfl⟩
    have hKK : Same W4 W5 := by rw [hW5]; exact hK.alloc _
    have hG_16 := blk_kept HG16.out hK (fun f => f)
    obtain ⟨x0_16, x1_16⟩ := blk2 hG_16
    have hn_16 := Nat.ne_of_lt (Array.getElem?_eq_some_iff.1 hG_16).1
    have hl_16 := (Array.getElem?_eq_some_iff.1 hG_16).1
    have HG4 := hide (blk_kept HG4.out hKK (fun f => f))
    have HS4 := hide (HS4.out.same hKK)
    have HG3 := hide (blk_kept HG3.out hKK (fun f => f))
    have HS3 := hide (HS3.out.same hKK)
    have HG10 := hide (blk_kept HG10.out hKK (fun f => f))
    have HS10 := hide (HS10.out.same hKK)
    have HAL := hide (HAL.out.same hKK)
    have HG12 := hide (blk_kept HG12.out hKK (fun f => f))
    have HS12 := hide (HS12.out.same hKK)
    have HG13 := hide (blk_kept HG13.out hKK (fun f => f))
    have HS13 := hide (HS13.out.same hKK)
    have HG16 := hide (blk_kept HG16.out hKK (fun f => f))
    have HS16 := hide (HS16.out.same hKK)
    have HAC := hide (HAC.out.same hKK)
    have HKW := hide (trs HKW.out hKK)
    have HG18 := hide (show W5.heap[b18]? = some (.cells #[.slice a18 oC.segs.length c18, .int .i64 oC.synced] 38 (0, 0)) by rw [hW5, hb18]; exact heap_alloc_new _ _)
    have HS18 := hide (show StSl (W4.heap.size ≤ ·) W5 (.slice a18 oC.segs.length c18) oC.segs by rw [hW5]; exact hs.same ((Kept.refl _ w5).alloc _))
    clear hs hK hKK
    have HSD := hide (sameDisk_any _ _ W5 _ _ oC oC HS18.out HS16.out)
    rw [decide_eq_true rfl] at HSD
    go_wp2_with fail
    rw [← hW5]
    clear hW5
    refine HSD.out.mono ?_
    clear HSD x0_16 x1_16 hn_16 hl_16 hG_16
    rintro r wr2 ⟨rfl, hKr⟩
    rw [← hb18]
    clear hb18
    have HG4 := hide (blk_kept HG4.out hKr (fun f => f))
    have HS4 := hide (HS4.out.same hKr)
    have HG3 := hide (blk_kept HG3.out hKr (fun f => f))
    have HS3 := hide (HS3.out.same hKr)
    have HG10 := hide (blk_kept HG10.out hKr (fun f => f))
    have HS10 := hide (HS10.out.same hKr)
    have HAL := hide (HAL.out.same hKr)
    have HG12 := hide (blk_kept HG12.out hKr (fun f => f))
    have HS12 := hide (HS12.out.same hKr)
    have HG13 := hide (blk_kept HG13.out hKr (fun f => f))
    have HS13 := hide (HS13.out.same hKr)
    have HG16 := hide (blk_kept HG16.out hKr (fun f => f))
    have HS16 := hide (HS16.out.same hKr)
    have HAC := hide (HAC.out.same hKr)
    have HG18 := hide (blk_kept HG18.out hKr (fun f => f))
    have HS18 := hide (HS18.out.same hKr)
    have HKW := hide (trs HKW.out hKr)
    clear hKr
    have hG_13 := HG13.out
    obtain ⟨x0_13, x1_13⟩ := blk2 hG_13
    have hn_13 := Nat.ne_of_lt (Array.getElem?_eq_some_iff.1 hG_13).1
    have hl_13 := (Array.getElem?_eq_some_iff.1 hG_13).1
    have HCK := hide (dCheck_any _ wr2 _ dC HS13.out)
    rw [HCR.out] at HCK
    go_wp2_with fail
    refine HCK.out.mono ?_
    clear HCK x0_13 x1_13 hn_13 hl_13 hG_13
    rintro r wr3 ⟨rfl, hKr⟩
    have HG4 := hide (blk_kept HG4.out hKr (fun f => f))
    have HS4 := hide (HS4.out.same hKr)
    have HG3 := hide (blk_kept HG3.out hKr (fun f => f))
    have HS3 := hide (HS3.out.same hKr)
    have HG10 := hide (blk_kept HG10.out hKr (fun f => f))
    have HS10 := hide (HS10.out.same hKr)
    have HAL := hide (HAL.out.same hKr)
    have HG12 := hide (blk_kept HG12.out hKr (fun f => f))
    have HS12 := hide (HS12.out.same hKr)
    have HG13 := hide (blk_kept HG13.out hKr (fun f => f))
    have HS13 := hide (HS13.out.same hKr)
    have HG16 := hide (blk_kept HG16.out hKr (fun f => f))
    have HS16 := hide (HS16.out.same hKr)
    have HAC := hide (HAC.out.same hKr)
    have HG18 := hide (blk_kept HG18.out hKr (fun f => f))
    have HS18 := hide (HS18.out.same hKr)
    have HKW := hide (trs HKW.out hKr)
    clear hKr
    have hG_3 := HG3.out
    obtain ⟨x0_3, x1_3⟩ := blk2 hG_3
    have hn_3 := Nat.ne_of_lt (Array.getElem?_eq_some_iff.1 hG_3).1
    have hl_3 := (Array.getElem?_eq_some_iff.1 hG_3).1
    obtain ⟨i0, hi, hz0, hz1, hz2⟩ := info_parts info_ba
    obtain ⟨bp, hp1, hp2, hp3, hp4, hp5⟩ := HAL.out.pairs
    have HPN := hide hp3
    have HPV := hide hp5
    have HP1' := hide hp1
    have HPC := hide (fun wy (hy : Same wr3 wy) ad had j u hj => (hy.cell (hp4 ad had j u hj) (fun f => f) : wy.cell? (ad.add j) = some u))
    have hcb8 : bp.length ≤ 1600 := by omega
    clear hp1 hp3 hp4 hp5
    go_wp2_with fail
    have HALL := hide (fun wy (hy : Same wr3 wy) => (⟨hy.cell x0_3 (fun f => f), hy.cell x1_3 (fun f => f)⟩ : wy.cell? ⟨b3, 0, none⟩ = _ ∧ wy.cell? ⟨b3, 1, none⟩ = _))
    clear x0_3 x1_3 hn_3 hl_3 hG_3
    refine wp_region_noPanic ?_
    refine wp_till 4 (fun w' => w'.cell? ⟨b3, 0, none⟩ = some (.int .i64 b.number) ∧ w'.cell? ⟨b3, 1, none⟩ = some (.slice a3 b.events.length c3)) (by kernel_rfl) ?_ (fun hC0 => ?_)
    · exact HALL.out _ (by repeat' (first | assumption | exact Kept.refl _ _ | refine Kept.drew ?_ | refine Kept.drewN ?_ _ | refine Kept.alloc ?_ _))
    refine till_any (i := 1) (v := ?v1) rfl (by kernel_rfl) (by kernel_rfl) (by kernel_rfl) (by kernel_rfl) (fun _ _ _ h => h) (Or.inl ⟨by rfl, ?hy1⟩) (fun _ => hC0) ?rest1
    case hy1 => (intro w hSw; (try dsimp only at hSw); go_simp <;> (with_reducible rfl))
    try simp only [Act.put, List.setIfInBounds_toArray]
    refine till_take (i := 3) (v := ?v2) rfl (by kernel_rfl) (by kernel_rfl) (by kernel_rfl) (by kernel_rfl) (fun _ _ _ h => h) (Or.inl ⟨by rfl, ?hy2⟩) hC0 ?rest2
    case hy2 => (intro w hSw; (try dsimp only at hSw); go_simp <;> (with_reducible rfl))
    try simp only [Act.put]
    refine till_ready (rs := [0, 4]) (by kernel_rfl) (by simp) ?_
    refine TillReady.cons rfl (fun K hK => ?_) (TillReady.free rfl (by kernel_rfl) (fun K hK => ?_) TillReady.nil)
    · skip
      go_simp
      refine hK.out _ _ ?_ (fun hC3 => ?_)
      · first | (refine HALL.out _ ?_; (repeat' (first | exact Kept.refl _ _ | refine Kept.drew ?_ | refine Kept.drewN ?_ _ | refine Kept.alloc ?_ _)); done) | exact HALL.out _ HR5.out.2.1 | exact HALL.out _ (HR5.out.2.1.alloc _)
      clear hK K hC0
      try simp only [Act.put, List.setIfInBounds_toArray, List.set_cons_zero, List.set_cons_succ]
      refine till_ready (rs := [2, 4]) (by kernel_rfl) (by simp) ?_
      refine TillReady.cons rfl (fun K hK => ?_) (TillReady.free rfl (by kernel_rfl) (fun K hK => ?_) TillReady.nil)
      · skip
        refine step_append_w (by rfl) (.tmp 103) (.tmp 104) 34 rfl wr3.heap.size 24 i0 _ 2 32 Try.underlying34 hi hz0 hz1 hz2 rfl (by decide) _ 0 [] (by rfl) (by first | (refine own_lit0 _ ?_; exact Nat.le_refl _) | exact own_lit1 _ _ | (refine (own_lit0 _ ?_).alloc _; exact Nat.le_refl _)) ab10 lD.length cb10 (bpCells bp) (by rfl) HPN.out (by rw [bpCells_len, hp2]) (fun ad had j u hj => HPC.out _ (by repeat' (first | assumption | exact Kept.refl _ _ | refine Kept.drew ?_ | refine Kept.drewN ?_ _ | refine Kept.alloc ?_ _)) ad had j u hj) (bpCells_one HPV.out) (by unfold maxLen; omega) (by omega) (by simp; try omega) ?_
        intro v5 w5 hown5 hgr5
        rw [Nat.zero_add, List.nil_append] at hown5
        obtain ⟨a5, cap5, hv5⟩ := own_slice hown5
        subst hv5
        have hK5 : Same wr3 w5 := Kept.grown (by repeat' (first | assumption | exact Kept.refl _ _ | refine Kept.drew ?_ | refine Kept.drewN ?_ _ | refine Kept.alloc ?_ _)) hgr5 (fun k hk hlt => by cases hk; first | exact absurd hlt (Nat.lt_irrefl _) | (simp at hlt; done) | (simp at hlt; omega))
        have HR5 := hide (And.intro hown5 (And.intro hK5 (grown_kept hgr5)))
        clear hown5 hgr5 hK5
        refine hK.out _ _ ?_ (fun hC4 => ?_)
        · exact HALL.out _ HR5.out.2.1
        clear hK K hC3
        try simp only [Act.put, List.setIfInBounds_toArray]
        refine till_ready (rs := [4]) (by kernel_rfl) (by simp) ?_
        refine TillReady.free rfl (by kernel_rfl) (fun K hK => ?_) TillReady.nil
        go_simp
        refine hK.out _ _ ?_
        clear hK K
        try simp only [Act.put, List.setIfInBounds_toArray, List.set_cons_zero, List.set_cons_succ]
        refine till_ready (rs := [5]) (by kernel_rfl) (by simp) ?_
        refine TillReady.free rfl (by kernel_rfl) (fun K hK => ?_) TillReady.nil
        have hX5 := HR5.out.2.2
        refine step_append_w (by rfl) (.tmp 105) (.tmp 107) 34 rfl wr3.heap.size 24 i0 _ 2 32 Try.underlying34 hi hz0 hz1 hz2 rfl (by decide) (.slice a5 lD.length cap5) lD.length (bpCells bp) (by rfl) (by first | exact HR5.out.1 | exact HR5.out.1.alloc _) (some _) 1 1 [.int .i64 b.number, .slice a3 b.events.length c3] (by rfl) (fun e => by cases e) rfl (by intro ad had j u hj; cases had; refine new_two (t := 24) ?_ j u hj; first | exact heap_alloc_new _ _ | exact blk_kept' hX5 (al_new _ _ _) (fun e => by cases e; omega) | exact blk_kept' hX5 (al_new _ _ _) (fun e => absurd (Option.some.inj e) (Nat.succ_ne_self _)) | exact blk_kept' hX5 (al_old _ _ _) (fun e => absurd (Option.some.inj e).symm (Nat.succ_ne_self _))) (by intro u hu; simp at hu; rcases hu with rfl | rfl <;> rfl) (by unfold maxLen; omega) (by omega) (by have := HR5.out.2.1.size; first | omega | (simp; omega)) ?_
        intro v6 wq hown6 hgr6
        obtain ⟨a6, cap6, hv6⟩ := own_slice hown6
        subst hv6
        have hK6 : Same wr3 wq := Kept.grown (by first | exact HR5.out.2.1 | exact HR5.out.2.1.alloc _) hgr6 (fun k hk hlt => by have := own_up HR5.out.1 k hk; omega)
        have HR6 := hide (And.intro hown6 hK6)
        clear hown6 hgr6 hK6 hX5
        refine hK.out _ _ ?_
        clear hK K
        try simp only [Act.put, List.setIfInBounds_toArray]
        refine till_any (i := 6) (v := ?v7) rfl (by kernel_rfl) (by kernel_rfl) (by kernel_rfl) (by kernel_rfl) (fun _ _ _ h => h) (Or.inl ⟨by rfl, ?hy7⟩) (fun h => (Bool.false_ne_true (h.symm.trans (by kernel_rfl))).elim) ?rest7
        case hy7 => (intro w hSw; (try dsimp only at hSw); go_simp <;> (with_reducible rfl))
        try simp only [Act.put]
        refine till_done (by kernel_rfl) ?_ _
        refine NoPanic.normal ?_
        simp only [List.getElem_toArray, List.getElem_cons_succ, List.getElem_cons_zero, List.setIfInBounds_toArray, List.set_cons_zero, List.set_cons_succ]
        have hK6 := HR6.out.2
        have HAWh := hide (show BaSl (fun _ => True) wq (.slice a6 (lD.length + 1) cap6) lW by
          refine own_bas (B := wr3.heap.size) (bp := bp ++ [(b, .slice a3 b.events.length c3)]) (P := fun _ => True) ?_ ?_ (by rw [List.length_append]; simp; omega) (by rw [List.map_append, HP1'.out]; exact HLW.out)
          · have := HR6.out.1
            rw [List.length_append, bpCells_app, hp2]
            exact this
          · intro p hp
            rcases List.mem_append.1 hp with hp | hp
            · exact ((HPV.out p hp).same HR6.out.2).mono (fun _ _ _ => trivial)
            · rw [List.mem_singleton] at hp; subst hp
              exact (HS3.out.same HR6.out.2).mono (fun _ _ _ => trivial))
        have HG4 := hide (blk_kept HG4.out hK6 (fun f => f))
        have HS4 := hide (HS4.out.same hK6)
        have HG3 := hide (blk_kept HG3.out hK6 (fun f => f))
        have HS3 := hide (HS3.out.same hK6)
        have HG10 := hide (blk_kept HG10.out hK6 (fun f => f))
        have HS10 := hide (HS10.out.same hK6)
        have HAL := hide (HAL.out.same hK6)
        have HG12 := hide (blk_kept HG12.out hK6 (fun f => f))
        have HS12 := hide (HS12.out.same hK6)
        have HG13 := hide (blk_kept HG13.out hK6 (fun f => f))
        have HS13 := hide (HS13.out.same hK6)
        have HG16 := hide (blk_kept HG16.out hK6 (fun f => f))
        have HS16 := hide (HS16.out.same hK6)
        have HAC := hide (HAC.out.same hK6)
        have HG18 := hide (blk_kept HG18.out hK6 (fun f => f))
        have HS18 := hide (HS18.out.same hK6)
        have HKW := hide (trs HKW.out hK6)
        clear hK6 HR6 HR5 HALL HPC HPN HPV
        have hG_12 := HG12.out
        obtain ⟨x0_12, x1_12⟩ := blk2 hG_12
        have hn_12 := Nat.ne_of_lt (Array.getElem?_eq_some_iff.1 hG_12).1
        have hl_12 := (Array.getElem?_eq_some_iff.1 hG_12).1
        have HC := hide ((dSync_any _ wq _ dX HS12.out).mono (R' := fun r w' => ∃ ao cap, r = .returned (.tuple #[diV (.slice ao dS.segs.length cap) dS.synced, .int .i64 0]) ∧ StSl (wq.heap.size ≤ ·) w' (.slice ao dS.segs.length cap) dS.segs ∧ Same wq w') (fun r w' h => h.ok HXS.out))
        go_wp2_with fail
        refine HC.out.mono ?_
        clear HC x0_12 x1_12 hn_12 hl_12 hG_12
        rintro r w6 ⟨a21, c21, rfl, hs, hK⟩
        obtain ⟨W6, hW6⟩ : ∃ W6, W6 = w6.alloc (.cells #[.slice a21 dS.segs.length c21, .int .i64 dS.synced] 38) := ⟨_, rfl⟩
        obtain ⟨b21, hb21⟩ : ∃ b21, b21 = w6.heap.size := ⟨_, rfl⟩
        have hKK : Same wq W6 := by rw [hW6]; exact hK.alloc _
        have HG4 := hide (blk_kept HG4.out hKK (fun f => f))
        have HS4 := hide (HS4.out.same hKK)
        have HG3 := hide (blk_kept HG3.out hKK (fun f => f))
        have HS3 := hide (HS3.out.same hKK)
        have HG10 := hide (blk_kept HG10.out hKK (fun f => f))
        have HS10 := hide (HS10.out.same hKK)
        have HAL := hide (HAL.out.same hKK)
        have HG12 := hide (blk_kept HG12.out hKK (fun f => f))
        have HS12 := hide (HS12.out.same hKK)
        have HG13 := hide (blk_kept HG13.out hKK (fun f => f))
        have HS13 := hide (HS13.out.same hKK)
        have HG16 := hide (blk_kept HG16.out hKK (fun f => f))
        have HS16 := hide (HS16.out.same hKK)
        have HAC := hide (HAC.out.same hKK)
        have HG18 := hide (blk_kept HG18.out hKK (fun f => f))
        have HS18 := hide (HS18.out.same hKK)
        have HAWh := hide (HAWh.out.same hKK)
        have HKW := hide (trs HKW.out hKK)
        have HG21 := hide (show W6.heap[b21]? = some (.cells #[.slice a21 dS.segs.length c21, .int .i64 dS.synced] 38 (0, 0)) by rw [hW6, hb21]; exact heap_alloc_new _ _)
        have HS21 := hide (show StSl (wq.heap.size ≤ ·) W6 (.slice a21 dS.segs.length c21) dS.segs by rw [hW6]; exact hs.same ((Kept.refl _ w6).alloc _))
        clear hs hK hKK
        have HC := hide ((dCrash_any _ W6 _ dS keep (by omega) HS21.out).mono (R' := fun r w' => ∃ ao cap, r = .returned (.tuple #[diV (.slice ao dS.segs.length cap) dS.synced, .int .i64 0]) ∧ StSl (W6.heap.size ≤ ·) w' (.slice ao dS.segs.length cap) dS.segs ∧ Same W6 w') (fun r w' h => h.ok HSC.out))
        go_wp2_with fail
        rw [← hW6]
        clear hW6
        refine HC.out.mono ?_
        clear HC
        rintro r w7 ⟨a22, c22, rfl, hs, hK⟩
        rw [← hb21]
        clear hb21
        obtain ⟨W7, hW7⟩ : ∃ W7, W7 = w7.alloc (.cells #[.slice a22 dS.segs.length c22, .int .i64 dS.synced] 38) := ⟨_, rfl⟩
        obtain ⟨b22, hb22⟩ : ∃ b22, b22 = w7.heap.size := ⟨_, rfl⟩
        have hKK : Same W6 W7 := by rw [hW7]; exact hK.alloc _
        have HG4 := hide (blk_kept HG4.out hKK (fun f => f))
        have HS4 := hide (HS4.out.same hKK)
        have HG3 := hide (blk_kept HG3.out hKK (fun f => f))
        have HS3 := hide (HS3.out.same hKK)
        have HG10 := hide (blk_kept HG10.out hKK (fun f => f))
        have HS10 := hide (HS10.out.same hKK)
        have HAL := hide (HAL.out.same hKK)
        have HG12 := hide (blk_kept HG12.out hKK (fun f => f))
        have HS12 := hide (HS12.out.same hKK)
        have HG13 := hide (blk_kept HG13.out hKK (fun f => f))
        have HS13 := hide (HS13.out.same hKK)
        have HG16 := hide (blk_kept HG16.out hKK (fun f => f))
        have HS16 := hide (HS16.out.same hKK)
        have HAC := hide (HAC.out.same hKK)
        have HG18 := hide (blk_kept HG18.out hKK (fun f => f))
        have HS18 := hide (HS18.out.same hKK)
        have HAWh := hide (HAWh.out.same hKK)
        have HG21 := hide (blk_kept HG21.out hKK (fun f => f))
        have HS21 := hide (HS21.out.same hKK)
        have HKW := hide (trs HKW.out hKK)
        have HG22 := hide (show W7.heap[b22]? = some (.cells #[.slice a22 dS.segs.length c22, .int .i64 dS.synced] 38 (0, 0)) by rw [hW7, hb22]; exact heap_alloc_new _ _)
        have HS22 := hide (show StSl (W6.heap.size ≤ ·) W7 (.slice a22 dS.segs.length c22) dS.segs by rw [hW7]; exact hs.same ((Kept.refl _ w7).alloc _))
        clear hs hK hKK
        have HC := hide ((dOpen_any _ W7 _ dS HS22.out).mono (R' := fun r w' => ∃ ab cb ao cap, r = .returned (.tuple #[.slice ab lW.length cb, diV (.slice ao oS.segs.length cap) oS.synced, .int .i64 0]) ∧ BaSl (W7.heap.size ≤ ·) w' (.slice ab lW.length cb) lW ∧ StSl (W7.heap.size ≤ ·) w' (.slice ao oS.segs.length cap) oS.segs ∧ Same W7 w') (fun r w' h => OAns.ok2 HSR.out HOS.out HSB.out h))
        go_wp2_with fail
        rw [← hW7]
        clear hW7
        refine HC.out.mono ?_
        clear HC
        rintro r w8 ⟨ab25, cb25, a25, c25, rfl, hbs, hs, hK⟩
        rw [← hb22]
        clear hb22
        obtain ⟨W8, hW8⟩ : ∃ W8, W8 = w8.alloc (.cells #[.slice a25 oS.segs.length c25, .int .i64 oS.synced] 38) := ⟨_, rfl⟩
        obtain ⟨b25, hb25⟩ : ∃ b25, b25 = w8.heap.size := ⟨_, rfl⟩
        have hKK : Same W7 W8 := by rw [hW8]; exact hK.alloc _
        have HG4 := hide (blk_kept HG4.out hKK (fun f => f))
        have HS4 := hide (HS4.out.same hKK)
        have HG3 := hide (blk_kept HG3.out hKK (fun f => f))
        have HS3 := hide (HS3.out.same hKK)
        have HG10 := hide (blk_kept HG10.out hKK (fun f => f))
        have HS10 := hide (HS10.out.same hKK)
        have HAL := hide (HAL.out.same hKK)
        have HG12 := hide (blk_kept HG12.out hKK (fun f => f))
        have HS12 := hide (HS12.out.same hKK)
        have HG13 := hide (blk_kept HG13.out hKK (fun f => f))
        have HS13 := hide (HS13.out.same hKK)
        have HG16 := hide (blk_kept HG16.out hKK (fun f => f))
        have HS16 := hide (HS16.out.same hKK)
        have HAC := hide (HAC.out.same hKK)
        have HG18 := hide (blk_kept HG18.out hKK (fun f => f))
        have HS18 := hide (HS18.out.same hKK)
        have HAWh := hide (HAWh.out.same hKK)
        have HG21 := hide (blk_kept HG21.out hKK (fun f => f))
        have HS21 := hide (HS21.out.same hKK)
        have HG22 := hide (blk_kept HG22.out hKK (fun f => f))
        have HS22 := hide (HS22.out.same hKK)
        have HKW := hide (trs HKW.out hKK)
        have HG25 := hide (show W8.heap[b25]? = some (.cells #[.slice a25 oS.segs.length c25, .int .i64 oS.synced] 38 (0, 0)) by rw [hW8, hb25]; exact heap_alloc_new _ _)
        have HS25 := hide (show StSl (W7.heap.size ≤ ·) W8 (.slice a25 oS.segs.length c25) oS.segs by rw [hW8]; exact hs.same ((Kept.refl _ w8).alloc _))
        have HAM := hide (show BaSl (W7.heap.size ≤ ·) W8 (.slice ab25 lW.length cb25) lW by rw [hW8]; exact hbs.same ((Kept.refl _ w8).alloc _))
        clear hbs
        clear hs hK hKK
        have hlw : lW.length = lD.length + 1 := by rw [← HLW.out]; simp
        have HAWh2 := hide (show BaSl (fun _ => True) W8 (.slice a6 lW.length cap6) lW by rw [hlw]; exact HAWh.out)
        rw [← hlw]
        have HSM := hide ((sameBatches_any _ _ W8 _ _ lW lW HAM.out HAWh2.out).mono (R' := fun e w' => e = .returned (.bool true) ∧ Same W8 w') (fun e w' h => ⟨by rw [h.1, decide_eq_true rfl], by obtain ⟨n, hn⟩ := h.2; exact same_drewN hn⟩))
        clear hlw HAWh
        go_wp2_with fail
        rw [← hW8]
        clear hW8
        refine HSM.out.mono ?_
        clear HSM
        rintro r wr4 ⟨rfl, hKr⟩
        rw [← hb25]
        clear hb25
        have HG4 := hide (blk_kept HG4.out hKr (fun f => f))
        have HS4 := hide (HS4.out.same hKr)
        have HG3 := hide (blk_kept HG3.out hKr (fun f => f))
        have HS3 := hide (HS3.out.same hKr)
        have HG10 := hide (blk_kept HG10.out hKr (fun f => f))
        have HS10 := hide (HS10.out.same hKr)
        have HAL := hide (HAL.out.same hKr)
        have HG12 := hide (blk_kept HG12.out hKr (fun f => f))
        have HS12 := hide (HS12.out.same hKr)
        have HG13 := hide (blk_kept HG13.out hKr (fun f => f))
        have HS13 := hide (HS13.out.same hKr)
        have HG16 := hide (blk_kept HG16.out hKr (fun f => f))
        have HS16 := hide (HS16.out.same hKr)
        have HAC := hide (HAC.out.same hKr)
        have HG18 := hide (blk_kept HG18.out hKr (fun f => f))
        have HS18 := hide (HS18.out.same hKr)
        have HG21 := hide (blk_kept HG21.out hKr (fun f => f))
        have HS21 := hide (HS21.out.same hKr)
        have HG22 := hide (blk_kept HG22.out hKr (fun f => f))
        have HS22 := hide (HS22.out.same hKr)
        have HG25 := hide (blk_kept HG25.out hKr (fun f => f))
        have HS25 := hide (HS25.out.same hKr)
        have HAM := hide (HAM.out.same hKr)
        have HAWh2 := hide (HAWh2.out.same hKr)
        have HKW := hide (trs HKW.out hKr)
        clear hKr
        have HSL := hide ((sameBatches_any _ _ wr4 _ _ lC lD HAC.out HAL.out).mono (R' := fun e w' => e = .returned (.bool (decide (lC = lD))) ∧ Same wr4 w') (fun e w' h => ⟨h.1, by obtain ⟨n, hn⟩ := h.2; exact same_drewN hn⟩))
        by_cases hcl : lC = lD
        · rw [decide_eq_true hcl] at HSL
          clear hcl
          go_wp2_with fail
          refine HSL.out.mono ?_
          rintro r w20 ⟨rfl, hK20⟩
          go_wp2_with fail
          go_ret
          exact ⟨rfl, trs HKW.out hK20⟩
        · rw [decide_eq_false hcl] at HSL
          have hcw : lC = lW := HCRA.out.resolve_left hcl
          have HSW := hide (fun wy (hy : Same wr4 wy) => (show Calls Try.prog 15 #[.slice ab16 lC.length cb16, .slice a6 lW.length cap6] wy fun e w' => e = .returned (.bool true) ∧ Same wy w' from (sameBatches_any _ _ wy _ _ lC lW (HAC.out.same hy) (HAWh2.out.same hy)).mono (fun e w' h => ⟨by rw [h.1, decide_eq_true hcw], by obtain ⟨n, hn⟩ := h.2; exact same_drewN hn⟩)))
          clear hcl hcw
          go_wp2_with fail
          refine HSL.out.mono ?_
          rintro r w20 ⟨rfl, hK20⟩
          go_wp2_with fail
          refine (HSW.out _ hK20).mono ?_
          rintro r w21 ⟨rfl, hK21⟩
          go_wp2_with fail
          go_ret
          exact ⟨rfl, trs HKW.out (trs hK20 hK21)⟩
      · skip
        go_simp
        refine hK.out _ _ ?_
        clear hK K
        try simp only [Act.put, List.setIfInBounds_toArray, List.set_cons_zero, List.set_cons_succ]
        refine till_ready (rs := [2]) (by kernel_rfl) (by simp) ?_
        refine TillReady.free rfl (by kernel_rfl) (fun K hK => ?_) TillReady.nil
        refine step_append_w (by rfl) (.tmp 103) (.tmp 104) 34 rfl wr3.heap.size 24 i0 _ 2 32 Try.underlying34 hi hz0 hz1 hz2 rfl (by decide) _ 0 [] (by rfl) (by first | (refine own_lit0 _ ?_; exact Nat.le_refl _) | exact own_lit1 _ _ | (refine (own_lit0 _ ?_).alloc _; exact Nat.le_refl _)) ab10 lD.length cb10 (bpCells bp) (by rfl) HPN.out (by rw [bpCells_len, hp2]) (fun ad had j u hj => HPC.out _ (by repeat' (first | assumption | exact Kept.refl _ _ | refine Kept.drew ?_ | refine Kept.drewN ?_ _ | refine Kept.alloc ?_ _)) ad had j u hj) (bpCells_one HPV.out) (by unfold maxLen; omega) (by omega) (by simp; try omega) ?_
        intro v5 w5 hown5 hgr5
        rw [Nat.zero_add, List.nil_append] at hown5
        obtain ⟨a5, cap5, hv5⟩ := own_slice hown5
        subst hv5
        have hK5 : Same wr3 w5 := Kept.grown (by repeat' (first | assumption | exact Kept.refl _ _ | refine Kept.drew ?_ | refine Kept.drewN ?_ _ | refine Kept.alloc ?_ _)) hgr5 (fun k hk hlt => by cases hk; first | exact absurd hlt (Nat.lt_irrefl _) | (simp at hlt; done) | (simp at hlt; omega))
        have HR5 := hide (And.intro hown5 (And.intro hK5 (grown_kept hgr5)))
        clear hown5 hgr5 hK5
        refine hK.out _ _ ?_
        clear hK K
        try simp only [Act.put, List.setIfInBounds_toArray]
        refine till_ready (rs := [5]) (by kernel_rfl) (by simp) ?_
        refine TillReady.free rfl (by kernel_rfl) (fun K hK => ?_) TillReady.nil
        have hX5 := HR5.out.2.2
        refine step_append_w (by rfl) (.tmp 105) (.tmp 107) 34 rfl wr3.heap.size 24 i0 _ 2 32 Try.underlying34 hi hz0 hz1 hz2 rfl (by decide) (.slice a5 lD.length cap5) lD.length (bpCells bp) (by rfl) (by first | exact HR5.out.1 | exact HR5.out.1.alloc _) (some _) 1 1 [.int .i64 b.number, .slice a3 b.events.length c3] (by rfl) (fun e => by cases e) rfl (by intro ad had j u hj; cases had; refine new_two (t := 24) ?_ j u hj; first | exact heap_alloc_new _ _ | exact blk_kept' hX5 (al_new _ _ _) (fun e => by cases e; omega) | exact blk_kept' hX5 (al_new _ _ _) (fun e => absurd (Option.some.inj e) (Nat.succ_ne_self _)) | exact blk_kept' hX5 (al_old _ _ _) (fun e => absurd (Option.some.inj e).symm (Nat.succ_ne_self _))) (by intro u hu; simp at hu; rcases hu with rfl | rfl <;> rfl) (by unfold maxLen; omega) (by omega) (by have := HR5.out.2.1.size; first | omega | (simp; omega)) ?_
        intro v6 wq hown6 hgr6
        obtain ⟨a6, cap6, hv6⟩ := own_slice hown6
        subst hv6
        have hK6 : Same wr3 wq := Kept.grown (by first | exact HR5.out.2.1 | exact HR5.out.2.1.alloc _) hgr6 (fun k hk hlt => by have := own_up HR5.out.1 k hk; omega)
        have HR6 := hide (And.intro hown6 hK6)
        clear hown6 hgr6 hK6 hX5
        refine hK.out _ _ ?_
        clear hK K
        try simp only [Act.put]
        refine till_any (i := 6) (v := ?v11) rfl (by kernel_rfl) (by kernel_rfl) (by kernel_rfl) (by kernel_rfl) (fun _ _ _ h => h) (Or.inl ⟨by rfl, ?hy11⟩) (fun h => (Bool.false_ne_true (h.symm.trans (by kernel_rfl))).elim) ?rest11
        case hy11 => (intro w hSw; (try dsimp only at hSw); go_simp <;> (with_reducible rfl))
        try simp only [Act.put]
        refine till_done (by kernel_rfl) ?_ _
        refine NoPanic.normal ?_
        simp only [List.getElem_toArray, List.getElem_cons_succ, List.getElem_cons_zero, List.setIfInBounds_toArray, List.set_cons_zero, List.set_cons_succ]
        have hK6 := HR6.out.2
        have HAWh := hide (show BaSl (fun _ => True) wq (.slice a6 (lD.length + 1) cap6) lW by
          refine own_bas (B := wr3.heap.size) (bp := bp ++ [(b, .slice a3 b.events.length c3)]) (P := fun _ => True) ?_ ?_ (by rw [List.length_append]; simp; omega) (by rw [List.map_append, HP1'.out]; exact HLW.out)
          · have := HR6.out.1
            rw [List.length_append, bpCells_app, hp2]
            exact this
          · intro p hp
            rcases List.mem_append.1 hp with hp | hp
            · exact ((HPV.out p hp).same HR6.out.2).mono (fun _ _ _ => trivial)
            · rw [List.mem_singleton] at hp; subst hp
              exact (HS3.out.same HR6.out.2).mono (fun _ _ _ => trivial))
        have HG4 := hide (blk_kept HG4.out hK6 (fun f => f))
        have HS4 := hide (HS4.out.same hK6)
        have HG3 := hide (blk_kept HG3.out hK6 (fun f => f))
        have HS3 := hide (HS3.out.same hK6)
        have HG10 := hide (blk_kept HG10.out hK6 (fun f => f))
        have HS10 := hide (HS10.out.same hK6)
        have HAL := hide (HAL.out.same hK6)
        have HG12 := hide (blk_kept HG12.out hK6 (fun f => f))
        have HS12 := hide (HS12.out.same hK6)
        have HG13 := hide (blk_kept HG13.out hK6 (fun f => f))
        have HS13 := hide (HS13.out.same hK6)
        have HG16 := hide (blk_kept HG16.out hK6 (fun f => f))
        have HS16 := hide (HS16.out.same hK6)
        have HAC := hide (HAC.out.same hK6)
        have HG18 := hide (blk_kept HG18.out hK6 (fun f => f))
        have HS18 := hide (HS18.out.same hK6)
        have HKW := hide (trs HKW.out hK6)
        clear hK6 HR6 HR5 HALL HPC HPN HPV
        have hG_12 := HG12.out
        obtain ⟨x0_12, x1_12⟩ := blk2 hG_12
        have hn_12 := Nat.ne_of_lt (Array.getElem?_eq_some_iff.1 hG_12).1
        have hl_12 := (Array.getElem?_eq_some_iff.1 hG_12).1
        have HC := hide ((dSync_any _ wq _ dX HS12.out).mono (R' := fun r w' => ∃ ao cap, r = .returned (.tuple #[diV (.slice ao dS.segs.length cap) dS.synced, .int .i64 0]) ∧ StSl (wq.heap.size ≤ ·) w' (.slice ao dS.segs.length cap) dS.segs ∧ Same wq w') (fun r w' h => h.ok HXS.out))
        go_wp2_with fail
        refine HC.out.mono ?_
        clear HC x0_12 x1_12 hn_12 hl_12 hG_12
        rintro r w6 ⟨a21, c21, rfl, hs, hK⟩
        obtain ⟨W6, hW6⟩ : ∃ W6, W6 = w6.alloc (.cells #[.slice a21 dS.segs.length c21, .int .i64 dS.synced] 38) := ⟨_, rfl⟩
        obtain ⟨b21, hb21⟩ : ∃ b21, b21 = w6.heap.size := ⟨_, rfl⟩
        have hKK : Same wq W6 := by rw [hW6]; exact hK.alloc _
        have HG4 := hide (blk_kept HG4.out hKK (fun f => f))
        have HS4 := hide (HS4.out.same hKK)
        have HG3 := hide (blk_kept HG3.out hKK (fun f => f))
        have HS3 := hide (HS3.out.same hKK)
        have HG10 := hide (blk_kept HG10.out hKK (fun f => f))
        have HS10 := hide (HS10.out.same hKK)
        have HAL := hide (HAL.out.same hKK)
        have HG12 := hide (blk_kept HG12.out hKK (fun f => f))
        have HS12 := hide (HS12.out.same hKK)
        have HG13 := hide (blk_kept HG13.out hKK (fun f => f))
        have HS13 := hide (HS13.out.same hKK)
        have HG16 := hide (blk_kept HG16.out hKK (fun f => f))
        have HS16 := hide (HS16.out.same hKK)
        have HAC := hide (HAC.out.same hKK)
        have HG18 := hide (blk_kept HG18.out hKK (fun f => f))
        have HS18 := hide (HS18.out.same hKK)
        have HAWh := hide (HAWh.out.same hKK)
        have HKW := hide (trs HKW.out hKK)
        have HG21 := hide (show W6.heap[b21]? = some (.cells #[.slice a21 dS.segs.length c21, .int .i64 dS.synced] 38 (0, 0)) by rw [hW6, hb21]; exact heap_alloc_new _ _)
        have HS21 := hide (show StSl (wq.heap.size ≤ ·) W6 (.slice a21 dS.segs.length c21) dS.segs by rw [hW6]; exact hs.same ((Kept.refl _ w6).alloc _))
        clear hs hK hKK
        have HC := hide ((dCrash_any _ W6 _ dS keep (by omega) HS21.out).mono (R' := fun r w' => ∃ ao cap, r = .returned (.tuple #[diV (.slice ao dS.segs.length cap) dS.synced, .int .i64 0]) ∧ StSl (W6.heap.size ≤ ·) w' (.slice ao dS.segs.length cap) dS.segs ∧ Same W6 w') (fun r w' h => h.ok HSC.out))
        go_wp2_with fail
        rw [← hW6]
        clear hW6
        refine HC.out.mono ?_
        clear HC
        rintro r w7 ⟨a22, c22, rfl, hs, hK⟩
        rw [← hb21]
        clear hb21
        obtain ⟨W7, hW7⟩ : ∃ W7, W7 = w7.alloc (.cells #[.slice a22 dS.segs.length c22, .int .i64 dS.synced] 38) := ⟨_, rfl⟩
        obtain ⟨b22, hb22⟩ : ∃ b22, b22 = w7.heap.size := ⟨_, rfl⟩
        have hKK : Same W6 W7 := by rw [hW7]; exact hK.alloc _
        have HG4 := hide (blk_kept HG4.out hKK (fun f => f))
        have HS4 := hide (HS4.out.same hKK)
        have HG3 := hide (blk_kept HG3.out hKK (fun f => f))
        have HS3 := hide (HS3.out.same hKK)
        have HG10 := hide (blk_kept HG10.out hKK (fun f => f))
        have HS10 := hide (HS10.out.same hKK)
        have HAL := hide (HAL.out.same hKK)
        have HG12 := hide (blk_kept HG12.out hKK (fun f => f))
        have HS12 := hide (HS12.out.same hKK)
        have HG13 := hide (blk_kept HG13.out hKK (fun f => f))
        have HS13 := hide (HS13.out.same hKK)
        have HG16 := hide (blk_kept HG16.out hKK (fun f => f))
        have HS16 := hide (HS16.out.same hKK)
        have HAC := hide (HAC.out.same hKK)
        have HG18 := hide (blk_kept HG18.out hKK (fun f => f))
        have HS18 := hide (HS18.out.same hKK)
        have HAWh := hide (HAWh.out.same hKK)
        have HG21 := hide (blk_kept HG21.out hKK (fun f => f))
        have HS21 := hide (HS21.out.same hKK)
        have HKW := hide (trs HKW.out hKK)
        have HG22 := hide (show W7.heap[b22]? = some (.cells #[.slice a22 dS.segs.length c22, .int .i64 dS.synced] 38 (0, 0)) by rw [hW7, hb22]; exact heap_alloc_new _ _)
        have HS22 := hide (show StSl (W6.heap.size ≤ ·) W7 (.slice a22 dS.segs.length c22) dS.segs by rw [hW7]; exact hs.same ((Kept.refl _ w7).alloc _))
        clear hs hK hKK
        have HC := hide ((dOpen_any _ W7 _ dS HS22.out).mono (R' := fun r w' => ∃ ab cb ao cap, r = .returned (.tuple #[.slice ab lW.length cb, diV (.slice ao oS.segs.length cap) oS.synced, .int .i64 0]) ∧ BaSl (W7.heap.size ≤ ·) w' (.slice ab lW.length cb) lW ∧ StSl (W7.heap.size ≤ ·) w' (.slice ao oS.segs.length cap) oS.segs ∧ Same W7 w') (fun r w' h => OAns.ok2 HSR.out HOS.out HSB.out h))
        go_wp2_with fail
        rw [← hW7]
        clear hW7
        refine HC.out.mono ?_
        clear HC
        rintro r w8 ⟨ab25, cb25, a25, c25, rfl, hbs, hs, hK⟩
        rw [← hb22]
        clear hb22
        obtain ⟨W8, hW8⟩ : ∃ W8, W8 = w8.alloc (.cells #[.slice a25 oS.segs.length c25, .int .i64 oS.synced] 38) := ⟨_, rfl⟩
        obtain ⟨b25, hb25⟩ : ∃ b25, b25 = w8.heap.size := ⟨_, rfl⟩
        have hKK : Same W7 W8 := by rw [hW8]; exact hK.alloc _
        have HG4 := hide (blk_kept HG4.out hKK (fun f => f))
        have HS4 := hide (HS4.out.same hKK)
        have HG3 := hide (blk_kept HG3.out hKK (fun f => f))
        have HS3 := hide (HS3.out.same hKK)
        have HG10 := hide (blk_kept HG10.out hKK (fun f => f))
        have HS10 := hide (HS10.out.same hKK)
        have HAL := hide (HAL.out.same hKK)
        have HG12 := hide (blk_kept HG12.out hKK (fun f => f))
        have HS12 := hide (HS12.out.same hKK)
        have HG13 := hide (blk_kept HG13.out hKK (fun f => f))
        have HS13 := hide (HS13.out.same hKK)
        have HG16 := hide (blk_kept HG16.out hKK (fun f => f))
        have HS16 := hide (HS16.out.same hKK)
        have HAC := hide (HAC.out.same hKK)
        have HG18 := hide (blk_kept HG18.out hKK (fun f => f))
        have HS18 := hide (HS18.out.same hKK)
        have HAWh := hide (HAWh.out.same hKK)
        have HG21 := hide (blk_kept HG21.out hKK (fun f => f))
        have HS21 := hide (HS21.out.same hKK)
        have HG22 := hide (blk_kept HG22.out hKK (fun f => f))
        have HS22 := hide (HS22.out.same hKK)
        have HKW := hide (trs HKW.out hKK)
        have HG25 := hide (show W8.heap[b25]? = some (.cells #[.slice a25 oS.segs.length c25, .int .i64 oS.synced] 38 (0, 0)) by rw [hW8, hb25]; exact heap_alloc_new _ _)
        have HS25 := hide (show StSl (W7.heap.size ≤ ·) W8 (.slice a25 oS.segs.length c25) oS.segs by rw [hW8]; exact hs.same ((Kept.refl _ w8).alloc _))
        have HAM := hide (show BaSl (W7.heap.size ≤ ·) W8 (.slice ab25 lW.length cb25) lW by rw [hW8]; exact hbs.same ((Kept.refl _ w8).alloc _))
        clear hbs
        clear hs hK hKK
        have hlw : lW.length = lD.length + 1 := by rw [← HLW.out]; simp
        have HAWh2 := hide (show BaSl (fun _ => True) W8 (.slice a6 lW.length cap6) lW by rw [hlw]; exact HAWh.out)
        rw [← hlw]
        have HSM := hide ((sameBatches_any _ _ W8 _ _ lW lW HAM.out HAWh2.out).mono (R' := fun e w' => e = .returned (.bool true) ∧ Same W8 w') (fun e w' h => ⟨by rw [h.1, decide_eq_true rfl], by obtain ⟨n, hn⟩ := h.2; exact same_drewN hn⟩))
        clear hlw HAWh
        go_wp2_with fail
        rw [← hW8]
        clear hW8
        refine HSM.out.mono ?_
        clear HSM
        rintro r wr4 ⟨rfl, hKr⟩
        rw [← hb25]
        clear hb25
        have HG4 := hide (blk_kept HG4.out hKr (fun f => f))
        have HS4 := hide (HS4.out.same hKr)
        have HG3 := hide (blk_kept HG3.out hKr (fun f => f))
        have HS3 := hide (HS3.out.same hKr)
        have HG10 := hide (blk_kept HG10.out hKr (fun f => f))
        have HS10 := hide (HS10.out.same hKr)
        have HAL := hide (HAL.out.same hKr)
        have HG12 := hide (blk_kept HG12.out hKr (fun f => f))
        have HS12 := hide (HS12.out.same hKr)
        have HG13 := hide (blk_kept HG13.out hKr (fun f => f))
        have HS13 := hide (HS13.out.same hKr)
        have HG16 := hide (blk_kept HG16.out hKr (fun f => f))
        have HS16 := hide (HS16.out.same hKr)
        have HAC := hide (HAC.out.same hKr)
        have HG18 := hide (blk_kept HG18.out hKr (fun f => f))
        have HS18 := hide (HS18.out.same hKr)
        have HG21 := hide (blk_kept HG21.out hKr (fun f => f))
        have HS21 := hide (HS21.out.same hKr)
        have HG22 := hide (blk_kept HG22.out hKr (fun f => f))
        have HS22 := hide (HS22.out.same hKr)
        have HG25 := hide (blk_kept HG25.out hKr (fun f => f))
        have HS25 := hide (HS25.out.same hKr)
        have HAM := hide (HAM.out.same hKr)
        have HAWh2 := hide (HAWh2.out.same hKr)
        have HKW := hide (trs HKW.out hKr)
        clear hKr
        have HSL := hide ((sameBatches_any _ _ wr4 _ _ lC lD HAC.out HAL.out).mono (R' := fun e w' => e = .returned (.bool (decide (lC = lD))) ∧ Same wr4 w') (fun e w' h => ⟨h.1, by obtain ⟨n, hn⟩ := h.2; exact same_drewN hn⟩))
        by_cases hcl : lC = lD
        · rw [decide_eq_true hcl] at HSL
          clear hcl
          go_wp2_with fail
          refine HSL.out.mono ?_
          rintro r w20 ⟨rfl, hK20⟩
          go_wp2_with fail
          go_ret
          exact ⟨rfl, trs HKW.out hK20⟩
        · rw [decide_eq_false hcl] at HSL
          have hcw : lC = lW := HCRA.out.resolve_left hcl
          have HSW := hide (fun wy (hy : Same wr4 wy) => (show Calls Try.prog 15 #[.slice ab16 lC.length cb16, .slice a6 lW.length cap6] wy fun e w' => e = .returned (.bool true) ∧ Same wy w' from (sameBatches_any _ _ wy _ _ lC lW (HAC.out.same hy) (HAWh2.out.same hy)).mono (fun e w' h => ⟨by rw [h.1, decide_eq_true hcw], by obtain ⟨n, hn⟩ := h.2; exact same_drewN hn⟩)))
          clear hcl hcw
          go_wp2_with fail
          refine HSL.out.mono ?_
          rintro r w20 ⟨rfl, hK20⟩
          go_wp2_with fail
          refine (HSW.out _ hK20).mono ?_
          rintro r w21 ⟨rfl, hK21⟩
          go_wp2_with fail
          go_ret
          exact ⟨rfl, trs HKW.out (trs hK20 hK21)⟩
    · skip
      go_simp
      refine hK.out _ _ ?_
      clear hK K
      try simp only [Act.put, List.setIfInBounds_toArray, List.set_cons_zero, List.set_cons_succ]
      refine till_ready (rs := [0]) (by kernel_rfl) (by simp) ?_
      refine TillReady.free rfl (by kernel_rfl) (fun K hK => ?_) TillReady.nil
      go_simp
      refine hK.out _ _ ?_
      clear hK K
      try simp only [Act.put, List.setIfInBounds_toArray, List.set_cons_zero, List.set_cons_succ]
      refine till_ready (rs := [2]) (by kernel_rfl) (by simp) ?_
      refine TillReady.free rfl (by kernel_rfl) (fun K hK => ?_) TillReady.nil
      refine step_append_w (by rfl) (.tmp 103) (.tmp 104) 34 rfl wr3.heap.size 24 i0 _ 2 32 Try.underlying34 hi hz0 hz1 hz2 rfl (by decide) _ 0 [] (by rfl) (by first | (refine own_lit0 _ ?_; exact Nat.le_refl _) | exact own_lit1 _ _ | (refine (own_lit0 _ ?_).alloc _; exact Nat.le_refl _)) ab10 lD.length cb10 (bpCells bp) (by rfl) HPN.out (by rw [bpCells_len, hp2]) (fun ad had j u hj => HPC.out _ (by repeat' (first | assumption | exact Kept.refl _ _ | refine Kept.drew ?_ | refine Kept.drewN ?_ _ | refine Kept.alloc ?_ _)) ad had j u hj) (bpCells_one HPV.out) (by unfold maxLen; omega) (by omega) (by simp; try omega) ?_
      intro v5 w5 hown5 hgr5
      rw [Nat.zero_add, List.nil_append] at hown5
      obtain ⟨a5, cap5, hv5⟩ := own_slice hown5
      subst hv5
      have hK5 : Same wr3 w5 := Kept.grown (by repeat' (first | assumption | exact Kept.refl _ _ | refine Kept.drew ?_ | refine Kept.drewN ?_ _ | refine Kept.alloc ?_ _)) hgr5 (fun k hk hlt => by cases hk; first | exact absurd hlt (Nat.lt_irrefl _) | (simp at hlt; done) | (simp at hlt; omega))
      have HR5 := hide (And.intro hown5 (And.intro hK5 (grown_kept hgr5)))
      clear hown5 hgr5 hK5
      refine hK.out _ _ ?_
      clear hK K
      try simp only [Act.put, List.setIfInBounds_toArray]
      refine till_ready (rs := [5]) (by kernel_rfl) (by simp) ?_
      refine TillReady.free rfl (by kernel_rfl) (fun K hK => ?_) TillReady.nil
      have hX5 := HR5.out.2.2
      refine step_append_w (by rfl) (.tmp 105) (.tmp 107) 34 rfl wr3.heap.size 24 i0 _ 2 32 Try.underlying34 hi hz0 hz1 hz2 rfl (by decide) (.slice a5 lD.length cap5) lD.length (bpCells bp) (by rfl) (by first | exact HR5.out.1 | exact HR5.out.1.alloc _) (some _) 1 1 [.int .i64 b.number, .slice a3 b.events.length c3] (by rfl) (fun e => by cases e) rfl (by intro ad had j u hj; cases had; refine new_two (t := 24) ?_ j u hj; first | exact heap_alloc_new _ _ | exact blk_kept' hX5 (al_new _ _ _) (fun e => by cases e; omega) | exact blk_kept' hX5 (al_new _ _ _) (fun e => absurd (Option.some.inj e) (Nat.succ_ne_self _)) | exact blk_kept' hX5 (al_old _ _ _) (fun e => absurd (Option.some.inj e).symm (Nat.succ_ne_self _))) (by intro u hu; simp at hu; rcases hu with rfl | rfl <;> rfl) (by unfold maxLen; omega) (by omega) (by have := HR5.out.2.1.size; first | omega | (simp; omega)) ?_
      intro v6 wq hown6 hgr6
      obtain ⟨a6, cap6, hv6⟩ := own_slice hown6
      subst hv6
      have hK6 : Same wr3 wq := Kept.grown (by first | exact HR5.out.2.1 | exact HR5.out.2.1.alloc _) hgr6 (fun k hk hlt => by have := own_up HR5.out.1 k hk; omega)
      have HR6 := hide (And.intro hown6 hK6)
      clear hown6 hgr6 hK6 hX5
      refine hK.out _ _ ?_
      clear hK K
      try simp only [Act.put]
      refine till_any (i := 6) (v := ?v16) rfl (by kernel_rfl) (by kernel_rfl) (by kernel_rfl) (by kernel_rfl) (fun _ _ _ h => h) (Or.inl ⟨by rfl, ?hy16⟩) (fun h => (Bool.false_ne_true (h.symm.trans (by kernel_rfl))).elim) ?rest16
      case hy16 => (intro w hSw; (try dsimp only at hSw); go_simp <;> (with_reducible rfl))
      try simp only [Act.put]
      refine till_done (by kernel_rfl) ?_ _
      refine NoPanic.normal ?_
      simp only [List.getElem_toArray, List.getElem_cons_succ, List.getElem_cons_zero, List.setIfInBounds_toArray, List.set_cons_zero, List.set_cons_succ]
      have hK6 := HR6.out.2
      have HAWh := hide (show BaSl (fun _ => True) wq (.slice a6 (lD.length + 1) cap6) lW by
        refine own_bas (B := wr3.heap.size) (bp := bp ++ [(b, .slice a3 b.events.length c3)]) (P := fun _ => True) ?_ ?_ (by rw [List.length_append]; simp; omega) (by rw [List.map_append, HP1'.out]; exact HLW.out)
        · have := HR6.out.1
          rw [List.length_append, bpCells_app, hp2]
          exact this
        · intro p hp
          rcases List.mem_append.1 hp with hp | hp
          · exact ((HPV.out p hp).same HR6.out.2).mono (fun _ _ _ => trivial)
          · rw [List.mem_singleton] at hp; subst hp
            exact (HS3.out.same HR6.out.2).mono (fun _ _ _ => trivial))
      have HG4 := hide (blk_kept HG4.out hK6 (fun f => f))
      have HS4 := hide (HS4.out.same hK6)
      have HG3 := hide (blk_kept HG3.out hK6 (fun f => f))
      have HS3 := hide (HS3.out.same hK6)
      have HG10 := hide (blk_kept HG10.out hK6 (fun f => f))
      have HS10 := hide (HS10.out.same hK6)
      have HAL := hide (HAL.out.same hK6)
      have HG12 := hide (blk_kept HG12.out hK6 (fun f => f))
      have HS12 := hide (HS12.out.same hK6)
      have HG13 := hide (blk_kept HG13.out hK6 (fun f => f))
      have HS13 := hide (HS13.out.same hK6)
      have HG16 := hide (blk_kept HG16.out hK6 (fun f => f))
      have HS16 := hide (HS16.out.same hK6)
      have HAC := hide (HAC.out.same hK6)
      have HG18 := hide (blk_kept HG18.out hK6 (fun f => f))
      have HS18 := hide (HS18.out.same hK6)
      have HKW := hide (trs HKW.out hK6)
      clear hK6 HR6 HR5 HALL HPC HPN HPV
      have hG_12 := HG12.out
      obtain ⟨x0_12, x1_12⟩ := blk2 hG_12
      have hn_12 := Nat.ne_of_lt (Array.getElem?_eq_some_iff.1 hG_12).1
      have hl_12 := (Array.getElem?_eq_some_iff.1 hG_12).1
      have HC := hide ((dSync_any _ wq _ dX HS12.out).mono (R' := fun r w' => ∃ ao cap, r = .returned (.tuple #[diV (.slice ao dS.segs.length cap) dS.synced, .int .i64 0]) ∧ StSl (wq.heap.size ≤ ·) w' (.slice ao dS.segs.length cap) dS.segs ∧ Same wq w') (fun r w' h => h.ok HXS.out))
      go_wp2_with fail
      refine HC.out.mono ?_
      clear HC x0_12 x1_12 hn_12 hl_12 hG_12
      rintro r w6 ⟨a21, c21, rfl, hs, hK⟩
      obtain ⟨W6, hW6⟩ : ∃ W6, W6 = w6.alloc (.cells #[.slice a21 dS.segs.length c21, .int .i64 dS.synced] 38) := ⟨_, rfl⟩
      obtain ⟨b21, hb21⟩ : ∃ b21, b21 = w6.heap.size := ⟨_, rfl⟩
      have hKK : Same wq W6 := by rw [hW6]; exact hK.alloc _
      have HG4 := hide (blk_kept HG4.out hKK (fun f => f))
      have HS4 := hide (HS4.out.same hKK)
      have HG3 := hide (blk_kept HG3.out hKK (fun f => f))
      have HS3 := hide (HS3.out.same hKK)
      have HG10 := hide (blk_kept HG10.out hKK (fun f => f))
      have HS10 := hide (HS10.out.same hKK)
      have HAL := hide (HAL.out.same hKK)
      have HG12 := hide (blk_kept HG12.out hKK (fun f => f))
      have HS12 := hide (HS12.out.same hKK)
      have HG13 := hide (blk_kept HG13.out hKK (fun f => f))
      have HS13 := hide (HS13.out.same hKK)
      have HG16 := hide (blk_kept HG16.out hKK (fun f => f))
      have HS16 := hide (HS16.out.same hKK)
      have HAC := hide (HAC.out.same hKK)
      have HG18 := hide (blk_kept HG18.out hKK (fun f => f))
      have HS18 := hide (HS18.out.same hKK)
      have HAWh := hide (HAWh.out.same hKK)
      have HKW := hide (trs HKW.out hKK)
      have HG21 := hide (show W6.heap[b21]? = some (.cells #[.slice a21 dS.segs.length c21, .int .i64 dS.synced] 38 (0, 0)) by rw [hW6, hb21]; exact heap_alloc_new _ _)
      have HS21 := hide (show StSl (wq.heap.size ≤ ·) W6 (.slice a21 dS.segs.length c21) dS.segs by rw [hW6]; exact hs.same ((Kept.refl _ w6).alloc _))
      clear hs hK hKK
      have HC := hide ((dCrash_any _ W6 _ dS keep (by omega) HS21.out).mono (R' := fun r w' => ∃ ao cap, r = .returned (.tuple #[diV (.slice ao dS.segs.length cap) dS.synced, .int .i64 0]) ∧ StSl (W6.heap.size ≤ ·) w' (.slice ao dS.segs.length cap) dS.segs ∧ Same W6 w') (fun r w' h => h.ok HSC.out))
      go_wp2_with fail
      rw [← hW6]
      clear hW6
      refine HC.out.mono ?_
      clear HC
      rintro r w7 ⟨a22, c22, rfl, hs, hK⟩
      rw [← hb21]
      clear hb21
      obtain ⟨W7, hW7⟩ : ∃ W7, W7 = w7.alloc (.cells #[.slice a22 dS.segs.length c22, .int .i64 dS.synced] 38) := ⟨_, rfl⟩
      obtain ⟨b22, hb22⟩ : ∃ b22, b22 = w7.heap.size := ⟨_, rfl⟩
      have hKK : Same W6 W7 := by rw [hW7]; exact hK.alloc _
      have HG4 := hide (blk_kept HG4.out hKK (fun f => f))
      have HS4 := hide (HS4.out.same hKK)
      have HG3 := hide (blk_kept HG3.out hKK (fun f => f))
      have HS3 := hide (HS3.out.same hKK)
      have HG10 := hide (blk_kept HG10.out hKK (fun f => f))
      have HS10 := hide (HS10.out.same hKK)
      have HAL := hide (HAL.out.same hKK)
      have HG12 := hide (blk_kept HG12.out hKK (fun f => f))
      have HS12 := hide (HS12.out.same hKK)
      have HG13 := hide (blk_kept HG13.out hKK (fun f => f))
      have HS13 := hide (HS13.out.same hKK)
      have HG16 := hide (blk_kept HG16.out hKK (fun f => f))
      have HS16 := hide (HS16.out.same hKK)
      have HAC := hide (HAC.out.same hKK)
      have HG18 := hide (blk_kept HG18.out hKK (fun f => f))
      have HS18 := hide (HS18.out.same hKK)
      have HAWh := hide (HAWh.out.same hKK)
      have HG21 := hide (blk_kept HG21.out hKK (fun f => f))
      have HS21 := hide (HS21.out.same hKK)
      have HKW := hide (trs HKW.out hKK)
      have HG22 := hide (show W7.heap[b22]? = some (.cells #[.slice a22 dS.segs.length c22, .int .i64 dS.synced] 38 (0, 0)) by rw [hW7, hb22]; exact heap_alloc_new _ _)
      have HS22 := hide (show StSl (W6.heap.size ≤ ·) W7 (.slice a22 dS.segs.length c22) dS.segs by rw [hW7]; exact hs.same ((Kept.refl _ w7).alloc _))
      clear hs hK hKK
      have HC := hide ((dOpen_any _ W7 _ dS HS22.out).mono (R' := fun r w' => ∃ ab cb ao cap, r = .returned (.tuple #[.slice ab lW.length cb, diV (.slice ao oS.segs.length cap) oS.synced, .int .i64 0]) ∧ BaSl (W7.heap.size ≤ ·) w' (.slice ab lW.length cb) lW ∧ StSl (W7.heap.size ≤ ·) w' (.slice ao oS.segs.length cap) oS.segs ∧ Same W7 w') (fun r w' h => OAns.ok2 HSR.out HOS.out HSB.out h))
      go_wp2_with fail
      rw [← hW7]
      clear hW7
      refine HC.out.mono ?_
      clear HC
      rintro r w8 ⟨ab25, cb25, a25, c25, rfl, hbs, hs, hK⟩
      rw [← hb22]
      clear hb22
      obtain ⟨W8, hW8⟩ : ∃ W8, W8 = w8.alloc (.cells #[.slice a25 oS.segs.length c25, .int .i64 oS.synced] 38) := ⟨_, rfl⟩
      obtain ⟨b25, hb25⟩ : ∃ b25, b25 = w8.heap.size := ⟨_, rfl⟩
      have hKK : Same W7 W8 := by rw [hW8]; exact hK.alloc _
      have HG4 := hide (blk_kept HG4.out hKK (fun f => f))
      have HS4 := hide (HS4.out.same hKK)
      have HG3 := hide (blk_kept HG3.out hKK (fun f => f))
      have HS3 := hide (HS3.out.same hKK)
      have HG10 := hide (blk_kept HG10.out hKK (fun f => f))
      have HS10 := hide (HS10.out.same hKK)
      have HAL := hide (HAL.out.same hKK)
      have HG12 := hide (blk_kept HG12.out hKK (fun f => f))
      have HS12 := hide (HS12.out.same hKK)
      have HG13 := hide (blk_kept HG13.out hKK (fun f => f))
      have HS13 := hide (HS13.out.same hKK)
      have HG16 := hide (blk_kept HG16.out hKK (fun f => f))
      have HS16 := hide (HS16.out.same hKK)
      have HAC := hide (HAC.out.same hKK)
      have HG18 := hide (blk_kept HG18.out hKK (fun f => f))
      have HS18 := hide (HS18.out.same hKK)
      have HAWh := hide (HAWh.out.same hKK)
      have HG21 := hide (blk_kept HG21.out hKK (fun f => f))
      have HS21 := hide (HS21.out.same hKK)
      have HG22 := hide (blk_kept HG22.out hKK (fun f => f))
      have HS22 := hide (HS22.out.same hKK)
      have HKW := hide (trs HKW.out hKK)
      have HG25 := hide (show W8.heap[b25]? = some (.cells #[.slice a25 oS.segs.length c25, .int .i64 oS.synced] 38 (0, 0)) by rw [hW8, hb25]; exact heap_alloc_new _ _)
      have HS25 := hide (show StSl (W7.heap.size ≤ ·) W8 (.slice a25 oS.segs.length c25) oS.segs by rw [hW8]; exact hs.same ((Kept.refl _ w8).alloc _))
      have HAM := hide (show BaSl (W7.heap.size ≤ ·) W8 (.slice ab25 lW.length cb25) lW by rw [hW8]; exact hbs.same ((Kept.refl _ w8).alloc _))
      clear hbs
      clear hs hK hKK
      have hlw : lW.length = lD.length + 1 := by rw [← HLW.out]; simp
      have HAWh2 := hide (show BaSl (fun _ => True) W8 (.slice a6 lW.length cap6) lW by rw [hlw]; exact HAWh.out)
      rw [← hlw]
      have HSM := hide ((sameBatches_any _ _ W8 _ _ lW lW HAM.out HAWh2.out).mono (R' := fun e w' => e = .returned (.bool true) ∧ Same W8 w') (fun e w' h => ⟨by rw [h.1, decide_eq_true rfl], by obtain ⟨n, hn⟩ := h.2; exact same_drewN hn⟩))
      clear hlw HAWh
      go_wp2_with fail
      rw [← hW8]
      clear hW8
      refine HSM.out.mono ?_
      clear HSM
      rintro r wr4 ⟨rfl, hKr⟩
      rw [← hb25]
      clear hb25
      have HG4 := hide (blk_kept HG4.out hKr (fun f => f))
      have HS4 := hide (HS4.out.same hKr)
      have HG3 := hide (blk_kept HG3.out hKr (fun f => f))
      have HS3 := hide (HS3.out.same hKr)
      have HG10 := hide (blk_kept HG10.out hKr (fun f => f))
      have HS10 := hide (HS10.out.same hKr)
      have HAL := hide (HAL.out.same hKr)
      have HG12 := hide (blk_kept HG12.out hKr (fun f => f))
      have HS12 := hide (HS12.out.same hKr)
      have HG13 := hide (blk_kept HG13.out hKr (fun f => f))
      have HS13 := hide (HS13.out.same hKr)
      have HG16 := hide (blk_kept HG16.out hKr (fun f => f))
      have HS16 := hide (HS16.out.same hKr)
      have HAC := hide (HAC.out.same hKr)
      have HG18 := hide (blk_kept HG18.out hKr (fun f => f))
      have HS18 := hide (HS18.out.same hKr)
      have HG21 := hide (blk_kept HG21.out hKr (fun f => f))
      have HS21 := hide (HS21.out.same hKr)
      have HG22 := hide (blk_kept HG22.out hKr (fun f => f))
      have HS22 := hide (HS22.out.same hKr)
      have HG25 := hide (blk_kept HG25.out hKr (fun f => f))
      have HS25 := hide (HS25.out.same hKr)
      have HAM := hide (HAM.out.same hKr)
      have HAWh2 := hide (HAWh2.out.same hKr)
      have HKW := hide (trs HKW.out hKr)
      clear hKr
      have HSL := hide ((sameBatches_any _ _ wr4 _ _ lC lD HAC.out HAL.out).mono (R' := fun e w' => e = .returned (.bool (decide (lC = lD))) ∧ Same wr4 w') (fun e w' h => ⟨h.1, by obtain ⟨n, hn⟩ := h.2; exact same_drewN hn⟩))
      by_cases hcl : lC = lD
      · rw [decide_eq_true hcl] at HSL
        clear hcl
        go_wp2_with fail
        refine HSL.out.mono ?_
        rintro r w20 ⟨rfl, hK20⟩
        go_wp2_with fail
        go_ret
        exact ⟨rfl, trs HKW.out hK20⟩
      · rw [decide_eq_false hcl] at HSL
        have hcw : lC = lW := HCRA.out.resolve_left hcl
        have HSW := hide (fun wy (hy : Same wr4 wy) => (show Calls Try.prog 15 #[.slice ab16 lC.length cb16, .slice a6 lW.length cap6] wy fun e w' => e = .returned (.bool true) ∧ Same wy w' from (sameBatches_any _ _ wy _ _ lC lW (HAC.out.same hy) (HAWh2.out.same hy)).mono (fun e w' h => ⟨by rw [h.1, decide_eq_true hcw], by obtain ⟨n, hn⟩ := h.2; exact same_drewN hn⟩)))
        clear hcl hcw
        go_wp2_with fail
        refine HSL.out.mono ?_
        rintro r w20 ⟨rfl, hK20⟩
        go_wp2_with fail
        refine (HSW.out _ hK20).mono ?_
        rintro r w21 ⟨rfl, hK21⟩
        go_wp2_with fail
        go_ret
        exact ⟨rfl, trs HKW.out (trs hK20 hK21)⟩


end Go.Proofs.Ytillhpepfpldcaa
