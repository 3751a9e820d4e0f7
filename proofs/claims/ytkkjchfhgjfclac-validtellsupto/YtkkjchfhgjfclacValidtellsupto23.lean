/- The reference's CheckSchema. -/
import Derived.Test.YtkkjchfhgjfclacValidtellsupto22
import Derived.Test.YtkkjchfhgjfclacValidtellsupto11
import Derived.Deep.CutRange
import Derived.Deep.CutBlock
namespace Go.Proofs.Ytkkjchfhgjfclac
open Go.RowKit

theorem typeAt_is (w : World) (v : Value) (l : List TypeT) (nm0 : List UInt8) (P : Nat → Prop) (h : TypSl P w v l) (x : Int) (hx : typeN l nm0 = x) :
    Calls Try.prog 53 #[v, .string ⟨nm0.toArray⟩] w fun e w' => e = .returned (.int .i64 x) ∧ w' = w := by
  refine (typeAt_any w v l nm0 P h).mono ?_
  rintro e w' ⟨y, rfl, hy, rfl⟩
  exact ⟨ret_int (hy.trans hx), rfl⟩
theorem fieldAt_is (w : World) (v : Value) (l : List FieldT) (nm0 : List UInt8) (P : Nat → Prop) (h : FldSl P w v l) (x : Int) (hx : fieldN l nm0 = x) :
    Calls Try.prog 54 #[v, .string ⟨nm0.toArray⟩] w fun e w' => e = .returned (.int .i64 x) ∧ w' = w := by
  refine (fieldAt_any w v l nm0 P h).mono ?_
  rintro e w' ⟨y, rfl, hy, rfl⟩
  exact ⟨ret_int (hy.trans hx), rfl⟩

theorem typeN_has {l : List TypeT} {nm : List UInt8} (h : hasT l nm = true) : 0 ≤ typeN l nm := by unfold typeN; rw [if_pos h]; omega
theorem typeN_not {l : List TypeT} {nm : List UInt8} (h : hasT l nm = false) : typeN l nm = -1 := by unfold typeN; rw [if_neg (by rw [h]; simp)]
theorem fieldN_has {l : List FieldT} {nm : List UInt8} (h : hasF l nm = true) : 0 ≤ fieldN l nm := by unfold fieldN; rw [if_pos h]; omega
theorem fieldN_not {l : List FieldT} {nm : List UInt8} (h : hasF l nm = false) : fieldN l nm = -1 := by unfold fieldN; rw [if_neg (by rw [h]; simp)]

/-- what the first switch finds -/
def swT (seen : List TypeT) (t : TypeT) : Int :=
  if wrongT (nameT t.name) ≠ 0 then wrongT (nameT t.name) else if t.name = bNumber ∨ t.name = bText then 4 else if hasT seen t.name then 6 else if t.fields.length = 0 then 5 else if 6 < t.fields.length then 2 else 0
theorem wrongTy_sw (l seen : List TypeT) (t : TypeT) : wrongTy l seen t = if swT seen t ≠ 0 then swT seen t else wrongFs l [] t.fields := by
  by_cases h1 : wrongT (nameT t.name) = 0
  · by_cases h2 : t.name = bNumber ∨ t.name = bText
    · rw [wrongTy, swT, if_neg (not_not_intro h1), if_neg (not_not_intro h1), if_pos h2, if_pos h2]; rfl
    · by_cases h3 : hasT seen t.name = true
      · rw [wrongTy, swT, if_neg (not_not_intro h1), if_neg (not_not_intro h1), if_neg h2, if_neg h2, if_pos h3, if_pos h3]; rfl
      · by_cases h4 : t.fields.length = 0
        · rw [wrongTy, swT, if_neg (not_not_intro h1), if_neg (not_not_intro h1), if_neg h2, if_neg h2, if_neg h3, if_neg h3, if_pos h4, if_pos h4]; rfl
        · by_cases h5 : 6 < t.fields.length
          · rw [wrongTy, swT, if_neg (not_not_intro h1), if_neg (not_not_intro h1), if_neg h2, if_neg h2, if_neg h3, if_neg h3, if_neg h4, if_neg h4, if_pos h5, if_pos h5]; rfl
          · rw [wrongTy, swT, if_neg (not_not_intro h1), if_neg (not_not_intro h1), if_neg h2, if_neg h2, if_neg h3, if_neg h3, if_neg h4, if_neg h4, if_neg h5, if_neg h5]; rfl
  · rw [wrongTy, swT, if_pos h1, if_pos h1, if_pos h1]

def inRel (R : Int) (l : List TypeT) (fs : List FieldT) (j : Nat) (E : Int) : Prop := (E ≠ 0 ∧ R = E) ∨ (E = 0 ∧ R = wrongFs l (fs.take j) (fs.drop j))
theorem inRel.start (l seen : List TypeT) (t : TypeT) : inRel (wrongTy l seen t) l t.fields 0 (swT seen t) := by
  rw [wrongTy_sw]
  by_cases h : swT seen t = 0
  · right
    rw [if_neg (by simp [h])]
    exact ⟨h, rfl⟩
  · left
    rw [if_pos h]
    exact ⟨h, rfl⟩
theorem inRel.step {R : Int} {l : List TypeT} {fs : List FieldT} {j : Nat} (h : inRel R l fs j 0) (hj : j < fs.length) : inRel R l fs (j + 1) (wrongFd l (fs.take j) fs[j]) := by
  rcases h with h | ⟨_, h⟩
  · exact absurd rfl h.1
  · rw [List.drop_eq_getElem_cons hj, wrongFs] at h
    by_cases h0 : wrongFd l (fs.take j) fs[j] = 0
    · right
      rw [if_neg (by simp [h0])] at h
      exact ⟨h0, by rw [h, List.take_succ_eq_append_getElem hj]⟩
    · left
      rw [if_pos h0] at h
      exact ⟨h0, h⟩
theorem inRel.bad {R : Int} {l : List TypeT} {fs : List FieldT} {j : Nat} {E : Int} (h : inRel R l fs j E) (hE : E ≠ 0) : R = E := h.elim (fun h => h.2) (fun h => absurd h.1 hE)
theorem inRel.done {R : Int} {l : List TypeT} {fs : List FieldT} {j : Nat} (h : inRel R l fs j 0) (hj : fs.length ≤ j) : R = 0 := by
  rcases h with h | ⟨_, h⟩
  · exact absurd rfl h.1
  · rw [h, List.drop_eq_nil_of_le hj]; rfl

theorem wrongKd_range {l : List TypeT} {f : FieldT} (h : (decide ((1 : Int) ≤ f.kind) && decide (f.kind ≤ 4)) = false) : wrongKd l f = 7 := by
  simp only [Bool.and_eq_false_iff, decide_eq_false_iff_not] at h
  unfold wrongKd
  rw [if_neg (by omega), if_neg (by omega)]
theorem wrongKd_low {l : List TypeT} {f : FieldT} (h : (decide ((1 : Int) ≤ f.kind) && decide (f.kind ≤ 4)) = true) (h3 : f.kind < 3) : wrongKd l f = if f.of ≠ [] then 1 else 0 := by
  simp only [Bool.and_eq_true, decide_eq_true_eq] at h
  unfold wrongKd
  rw [if_pos (by omega)]
theorem wrongKd_high {l : List TypeT} {f : FieldT} (h : (decide ((1 : Int) ≤ f.kind) && decide (f.kind ≤ 4)) = true) (h3 : ¬ f.kind < 3) : wrongKd l f = if hasT l f.of then 0 else 5 := by
  simp only [Bool.and_eq_true, decide_eq_true_eq] at h
  unfold wrongKd
  rw [if_neg (by omega), if_pos (by omega)]

set_option maxRecDepth 20000 in
set_option maxHeartbeats 6400000 in
theorem rCheckSc_any (w : World) (v : Value) (l : List TypeT) (P : Nat → Prop) (h : TypSl P w v l) :
    Calls Try.prog 25 #[v] w fun e w' => e = .returned (.int .i64 (checkSc l)) ∧ Same w w' := by
  obtain ⟨ao, cap, rfl, ⟨hmax, hcap⟩, _⟩ := id h
  unfold maxLen at hmax
  have hmax' : l.length ≤ 9223372036854775807 := hmax
  clear hmax
  by_cases hz : l.length = 0
  · have HZ := hide (show checkSc l = 5 by rw [checkSc, if_pos hz])
    rw [hz]
    clear h hz hmax' hcap
    go_enter Try.func25, Try.ntmps25
    go_wp2_with fail
    go_ret
    exact ⟨ret_int HZ.out.symm, Kept.refl _ _⟩
  · have hz' : ((l.length : Int) == 0) = false := beq_eq_false_iff_ne.2 (by omega)
    by_cases h5 : 5 < l.length
    · have HZ := hide (show checkSc l = 2 by rw [checkSc, if_neg hz, if_pos h5])
      clear h hz
      go_enter Try.func25, Try.ntmps25
      go_wp2_with fail
      go_ret
      exact ⟨ret_int HZ.out.symm, Kept.refl _ _⟩
    · have HZ := hide (show checkSc l = wrongTs l [] l by rw [checkSc, if_neg hz, if_neg h5])
      have h5' : l.length ≤ 5 := by omega
      have HH := hide h
      clear hz h5 h hmax'
      go_enter Try.func25, Try.ntmps25
      go_wp2_with fail
      go_loopg [3] l.length (fun g k wr => ∃ i : Nat, i + g = l.length ∧ k = .int .i64 i ∧ Hid (Same w wr) ∧ Hid (wrongTs l [] l = wrongTs l (l.take i) (l.drop i)))
      case atStart => exact ⟨0, by omega, rfl, Kept.refl _ _, rfl⟩
      case round =>
        obtain ⟨i, hi, rfl, HK, HE⟩ := hrel
        by_cases hlt : i < l.length
        · obtain ⟨b, off, af, nf, cf, rfl, c0, c1, hnf, hfs⟩ := (HH.out.same HK.out).at i hlt
          have HST := hide (wrongTs_step l i hlt)
          have HTK := hide (fun w2 (hK2 : Same w w2) => (HH.out.same hK2).take i (by omega))
          obtain ⟨t, hte⟩ : ∃ t, t = l[i] := ⟨_, rfl⟩
          rw [← hte] at HST c0 hnf hfs
          clear hte
          subst hnf
          obtain ⟨hfm, hfc⟩ : t.fields.length ≤ 9223372036854775807 ∧ t.fields.length ≤ cf := by
            obtain ⟨_, _, e, ⟨h1, h2⟩, _⟩ := id hfs
            cases e
            exact ⟨h1, h2⟩
          obtain ⟨w0, hw0⟩ : ∃ w0, w0 = wr.alloc (.cells #[.string ⟨t.name.toArray⟩, .slice af t.fields.length cf] 79) := ⟨_, rfl⟩
          have HK0 := hide (show Same w w0 by rw [hw0]; exact HK.out.alloc _)
          have HFS := hide (show ∀ wx, Same w0 wx → FldSl P wx (.slice af t.fields.length cf) t.fields from fun wx hk => (hfs.same (show Same wr w0 by rw [hw0]; exact (Kept.refl _ wr).alloc _)).same hk)
          have HBX := hide (show ∀ wx, Same w0 wx → wx.cell? ⟨wr.heap.size, 0, none⟩ = some (.string ⟨t.name.toArray⟩) ∧ wx.cell? ⟨wr.heap.size, 1, none⟩ = some (.slice af t.fields.length cf) from fun wx hk => ⟨hk.cell (by rw [hw0]; simp) (fun f => f), hk.cell (by rw [hw0]; simp) (fun f => f)⟩)
          have hg0 : wr.heap.size < w0.heap.size := by rw [hw0]; simp
          clear hfs
          obtain ⟨m, hm⟩ : ∃ m, wrongT (nameT t.name) = m := ⟨_, rfl⟩
          have HM := hide hm
          have HNM := hide (fun w => rname_is t.name w m hm)
          clear hm
          go_wp2_with fail
          rw [← hw0]
          clear hw0 c0 c1
          obtain ⟨g, hgg⟩ : ∃ g, g = wr.heap.size := ⟨_, rfl⟩
          rw [← hgg] at HBX hg0
          rw [← hgg]
          clear hgg
          refine (HNM.out _).mono ?_
          rintro e w1 ⟨rfl, rfl⟩
          go_upto_block 2 with fail
          go_cut [5] from 14 to 119 (fun v wx => ∃ E : Int, v = .int .i64 E ∧ Hid (E = swT (l.take i) t) ∧ Hid (Same w1 wx))
          case first =>
            obtain ⟨g0, g1⟩ := HBX.out w1 (Kept.refl _ _)
            by_cases hm0 : m = 0
            · subst hm0
              by_cases hn1 : t.name = bNumber
              · have HF := hide (show 4 = swT (l.take i) t by rw [swT, if_neg (by rw [HM.out]; simp), if_pos (.inl hn1)])
                rw [hn1] at g0
                clear hn1
                go_wp2_with fail
                go_meet
                case rel => exact ⟨_, rfl, HF.out, Kept.refl _ _⟩
              · have hn1' : (t.name == [78, 117, 109, 98, 101, 114]) = false := by simpa using hn1
                by_cases hn2 : t.name = bText
                · have HF := hide (show 4 = swT (l.take i) t by rw [swT, if_neg (by rw [HM.out]; simp), if_pos (.inr hn2)])
                  rw [hn2] at g0
                  clear hn1 hn1' hn2
                  go_wp2_with fail
                  go_meet
                  case rel => exact ⟨_, rfl, HF.out, Kept.refl _ _⟩
                · have hn2' : (t.name == [84, 101, 120, 116]) = false := by simpa using hn2
                  have HF := hide (show swT (l.take i) t = if hasT (l.take i) t.name then 6 else if t.fields.length = 0 then 5 else if 6 < t.fields.length then 2 else 0 by rw [swT, if_neg (by rw [HM.out]; simp), if_neg (fun e => e.elim hn1 hn2)])
                  clear hn1 hn2
                  obtain ⟨x, hx⟩ : ∃ x, typeN (l.take i) t.name = x := ⟨_, rfl⟩
                  have HTA := hide (fun n => typeAt_is (w1.drewN n) _ (l.take i) t.name P (HTK.out _ (HK0.out.drewN n)) x hx)
                  cases hh : hasT (l.take i) t.name
                  · have hx0 : x = -1 := hx.symm.trans (typeN_not hh)
                    subst hx0
                    rw [hh] at HF
                    clear hx hh
                    by_cases hl0 : t.fields.length = 0
                    · have HF2 := hide (show 5 = swT (l.take i) t by rw [HF.out, if_neg (by simp), if_pos hl0])
                      rw [hl0] at g1
                      clear hl0
                      go_wp2_with fail
                      go_quiet ((go_at_call 53; exact Calls.quiet_of_same (HTA.out _)))
                      go_wp2_with fail
                      go_meet
                      case rel => exact ⟨_, rfl, HF2.out, (Kept.refl _ _).drewN _⟩
                    · have hl0' : ((t.fields.length : Int) == 0) = false := beq_eq_false_iff_ne.2 (by omega)
                      by_cases hl6 : 6 < t.fields.length
                      · have HF2 := hide (show 2 = swT (l.take i) t by rw [HF.out, if_neg (by simp), if_neg hl0, if_pos hl6])
                        clear hl0
                        go_wp2_with fail
                        go_quiet ((go_at_call 53; exact Calls.quiet_of_same (HTA.out _)))
                        go_wp2_with fail
                        go_meet
                        case rel => exact ⟨_, rfl, HF2.out, (Kept.refl _ _).drewN _⟩
                      · have HF2 := hide (show 0 = swT (l.take i) t by rw [HF.out, if_neg (by simp), if_neg hl0, if_neg hl6])
                        clear hl0
                        go_wp2_with fail
                        go_quiet ((go_at_call 53; exact Calls.quiet_of_same (HTA.out _)))
                        go_wp2_with fail
                        go_meet
                        case rel => exact ⟨_, rfl, HF2.out, (Kept.refl _ _).drewN _⟩
                  · have hx0 : 0 ≤ x := by rw [← hx]; exact typeN_has hh
                    have HF2 := hide (show 6 = swT (l.take i) t by rw [HF.out, hh]; rfl)
                    clear hx hh
                    go_wp2_with fail
                    go_quiet ((go_at_call 53; exact Calls.quiet_of_same (HTA.out _)))
                    go_wp2_with fail
                    go_meet
                    case rel => exact ⟨_, rfl, HF2.out, (Kept.refl _ _).drewN _⟩
            · have hm1 : (m != 0) = true := by simp [hm0]
              have HF := hide (show m = swT (l.take i) t by rw [swT, HM.out, if_pos hm0])
              clear hm0
              go_wp2_with fail
              go_meet
              case rel => exact ⟨_, rfl, HF.out, Kept.refl _ _⟩
          case rest =>
          obtain ⟨E0, rfl, HE0, HKx⟩ := hcut
          obtain ⟨R, hR⟩ : ∃ R, R = wrongTy l (l.take i) t := ⟨_, rfl⟩
          have HIN := hide (show inRel R l t.fields 0 E0 by rw [hR, HE0.out]; exact inRel.start l (l.take i) t)
          rw [← hR] at HST
          clear hR HE0
          obtain ⟨G, hG1, hG2⟩ : ∃ G, G ≤ gk ∧ gk ≤ G := ⟨gk, Nat.le_refl _, Nat.le_refl _⟩
          go_wp2_with fail
          go_loopg [5, 6] t.fields.length (fun g ev kv wx => ∃ (j : Nat) (E : Int), j + g = t.fields.length ∧ ev = .int .i64 E ∧ kv = .int .i64 j ∧ Hid (inRel R l t.fields j E) ∧ Hid (Same w1 wx))
          case atStart => exact ⟨0, E0, by omega, rfl, rfl, HIN, HKx⟩
          case round =>
            obtain ⟨j, E, hj, rfl, rfl, HR, HKy⟩ := hrel
            clear HIN HKx
            obtain ⟨g0, g1⟩ := HBX.out _ HKy.out
            by_cases hE : E = 0
            · subst hE
              by_cases hlj : j < t.fields.length
              · obtain ⟨b2, o2, rfl, r0, r1, r2⟩ := (HFS.out _ HKy.out).at j hlj
                have HRS := hide (HR.out.step hlj)
                have HTF := hide (fun w2 (hK2 : Same w1 w2) => (HFS.out w2 hK2).take j (by omega))
                obtain ⟨f, hfe⟩ : ∃ f, f = t.fields[j] := ⟨_, rfl⟩
                rw [← hfe] at HRS r0 r1 r2
                clear hfe
                obtain ⟨wy, hwy⟩ : ∃ wy, wy = wr.alloc (.cells #[.string ⟨f.name.toArray⟩, .int .i64 f.kind, .string ⟨f.of.toArray⟩] 74) := ⟨_, rfl⟩
                have HK1y := hide (show Same w1 wy by rw [hwy]; exact HKy.out.alloc _)
                have HBY := hide (show ∀ wx, Same wy wx → wx.cell? ⟨wr.heap.size, 0, none⟩ = some (.string ⟨f.name.toArray⟩) ∧ wx.cell? ⟨wr.heap.size, 1, none⟩ = some (.int .i64 f.kind) ∧ wx.cell? ⟨wr.heap.size, 2, none⟩ = some (.string ⟨f.of.toArray⟩) from fun wx hk => ⟨hk.cell (by rw [hwy]; simp) (fun f => f), hk.cell (by rw [hwy]; simp) (fun f => f), hk.cell (by rw [hwy]; simp) (fun f => f)⟩)
                have hgy : wr.heap.size < wy.heap.size := by rw [hwy]; simp
                have hgy2 : g < wy.heap.size := by have := HK1y.out.size; omega
                obtain ⟨m2, hm2⟩ : ∃ m2, wrongT (nameT f.name) = m2 := ⟨_, rfl⟩
                obtain ⟨q2, hq2⟩ : ∃ q2, hasF (t.fields.take j) f.name = q2 := ⟨_, rfl⟩
                have HWF := hide (wrongFd_of l (t.fields.take j) f m2 hm2 q2 hq2)
                have HNM2 := hide (fun w => rname_is f.name w m2 hm2)
                have HQ2 := hide hq2
                clear hm2 hq2
                go_wp2_with fail
                rw [← hwy]
                clear hwy r0 r1 r2
                obtain ⟨g2, hgg2⟩ : ∃ g2, g2 = wr.heap.size := ⟨_, rfl⟩
                rw [← hgg2] at HBY hgy
                rw [← hgg2]
                clear hgg2 g0 g1
                refine (HNM2.out _).mono ?_
                rintro e w2 ⟨rfl, rfl⟩
                obtain ⟨g0, g1⟩ := HBX.out w2 HK1y.out
                obtain ⟨p0, p1, p2⟩ := HBY.out w2 (Kept.refl _ _)
                by_cases hm0 : m2 = 0
                · subst hm0
                  by_cases hn1 : f.name = bId
                  · have HF := hide (show 4 = wrongFd l (t.fields.take j) f by rw [HWF.out, if_neg (by simp), if_pos hn1])
                    rw [hn1] at p0
                    clear hn1
                    go_wp2_with fail
                    go_roundg (gk - 1)
                    case measure => omega
                    case rel => exact ⟨j + 1, _, by omega, rfl, by go_num, by have := HRS.out; rw [← HF.out] at this; exact this, tra HK1y.out (Kept.refl _ _)⟩
                  · have hn1' : (f.name == [105, 100]) = false := by simpa using hn1
                    have HF := hide (show wrongFd l (t.fields.take j) f = if q2 then 6 else wrongKd l f by rw [HWF.out, if_neg (by simp), if_neg hn1])
                    obtain ⟨x, hx⟩ : ∃ x, fieldN (t.fields.take j) f.name = x := ⟨_, rfl⟩
                    have HTA := hide (fun n => fieldAt_is (w2.drewN n) _ (t.fields.take j) f.name P (HTF.out _ (HK1y.out.drewN n)) x hx)
                    clear hn1
                    cases q2
                    · have hx0 : x = -1 := hx.symm.trans (fieldN_not HQ2.out)
                      subst hx0
                      clear hx
                      have HF1 := hide (show wrongFd l (t.fields.take j) f = wrongKd l f by rw [HF.out]; rfl)
                      obtain ⟨qr, hqr⟩ : ∃ qr, (decide ((1 : Int) ≤ f.kind) && decide (f.kind ≤ 4)) = qr := ⟨_, rfl⟩
                      have HBT := hide (fun w => between_is f.kind 1 4 w qr hqr)
                      cases qr
                      · have HF2 := hide (show 7 = wrongFd l (t.fields.take j) f by rw [HF1.out, wrongKd_range hqr])
                        clear hqr
                        go_wp2_with fail
                        go_quiet ((go_at_call 54; exact Calls.quiet_of_same (HTA.out _)))
                        go_wp2_with fail
                        refine (HBT.out _).mono ?_
                        rintro e w3 ⟨rfl, rfl⟩
                        go_wp2_with fail
                        go_roundg (gk - 1)
                        case measure => omega
                        case rel => exact ⟨j + 1, _, by omega, rfl, by go_num, by have := HRS.out; rw [← HF2.out] at this; exact this, tra HK1y.out ((Kept.refl _ _).drewN _)⟩
                      · by_cases h3 : f.kind < 3
                        · by_cases hof : f.of = []
                          · have HF2 := hide (show 0 = wrongFd l (t.fields.take j) f by rw [HF1.out, wrongKd_low hqr h3, if_neg (by simp [hof])])
                            have h3' : ¬ 2 < f.kind := by omega
                            rw [hof] at p2
                            clear hqr hof
                            go_wp2_with fail
                            go_quiet ((go_at_call 54; exact Calls.quiet_of_same (HTA.out _)))
                            go_wp2_with fail
                            refine (HBT.out _).mono ?_
                            rintro e w3 ⟨rfl, rfl⟩
                            go_wp2_with fail
                            go_roundg (gk - 1)
                            case measure => omega
                            case rel => exact ⟨j + 1, _, by omega, rfl, by go_num, by have := HRS.out; rw [← HF2.out] at this; exact this, tra HK1y.out ((Kept.refl _ _).drewN _)⟩
                          · have HF2 := hide (show 1 = wrongFd l (t.fields.take j) f by rw [HF1.out, wrongKd_low hqr h3, if_pos hof])
                            have hofb : f.of.isEmpty = false := by cases hh : f.of with | nil => exact absurd hh hof | cons a l => rfl
                            clear hqr hof
                            go_wp2_with fail
                            go_quiet ((go_at_call 54; exact Calls.quiet_of_same (HTA.out _)))
                            go_wp2_with fail
                            refine (HBT.out _).mono ?_
                            rintro e w3 ⟨rfl, rfl⟩
                            go_wp2_with fail
                            go_roundg (gk - 1)
                            case measure => omega
                            case rel => exact ⟨j + 1, _, by omega, rfl, by go_num, by have := HRS.out; rw [← HF2.out] at this; exact this, tra HK1y.out ((Kept.refl _ _).drewN _)⟩
                        · have h3' : 2 < f.kind := by omega
                          obtain ⟨y, hy⟩ : ∃ y, typeN l f.of = y := ⟨_, rfl⟩
                          have HTY := hide (fun n => typeAt_is (w2.drewN n) _ l f.of P (HH.out.same ((tra HK0.out HK1y.out).drewN n)) y hy)
                          cases hh : hasT l f.of
                          · have HF2 := hide (show 5 = wrongFd l (t.fields.take j) f by rw [HF1.out, wrongKd_high hqr h3, hh]; rfl)
                            have hy0 : y = -1 := hy.symm.trans (typeN_not hh)
                            subst hy0
                            clear hqr hy hh
                            go_wp2_with fail
                            go_quiet ((go_at_call 54; exact Calls.quiet_of_same (HTA.out _)))
                            go_wp2_with fail
                            refine (HBT.out _).mono ?_
                            rintro e w3 ⟨rfl, rfl⟩
                            go_wp2_with fail
                            refine (HTY.out _).mono ?_
                            rintro e w3 ⟨rfl, rfl⟩
                            go_wp2_with fail
                            go_roundg (gk - 1)
                            case measure => omega
                            case rel => exact ⟨j + 1, _, by omega, rfl, by go_num, by have := HRS.out; rw [← HF2.out] at this; exact this, tra HK1y.out ((Kept.refl _ _).drewN _)⟩
                          · have HF2 := hide (show 0 = wrongFd l (t.fields.take j) f by rw [HF1.out, wrongKd_high hqr h3, hh]; rfl)
                            have hy0 : ¬ y < 0 := by rw [← hy]; have := typeN_has hh; omega
                            clear hqr hy hh
                            go_wp2_with fail
                            go_quiet ((go_at_call 54; exact Calls.quiet_of_same (HTA.out _)))
                            go_wp2_with fail
                            refine (HBT.out _).mono ?_
                            rintro e w3 ⟨rfl, rfl⟩
                            go_wp2_with fail
                            refine (HTY.out _).mono ?_
                            rintro e w3 ⟨rfl, rfl⟩
                            go_wp2_with fail
                            go_roundg (gk - 1)
                            case measure => omega
                            case rel => exact ⟨j + 1, _, by omega, rfl, by go_num, by have := HRS.out; rw [← HF2.out] at this; exact this, tra HK1y.out ((Kept.refl _ _).drewN _)⟩
                    · have hx0 : 0 ≤ x := by rw [← hx]; exact fieldN_has HQ2.out
                      have HF2 := hide (show 6 = wrongFd l (t.fields.take j) f by rw [HF.out]; rfl)
                      clear hx
                      go_wp2_with fail
                      go_quiet ((go_at_call 54; exact Calls.quiet_of_same (HTA.out _)))
                      go_wp2_with fail
                      go_roundg (gk - 1)
                      case measure => omega
                      case rel => exact ⟨j + 1, _, by omega, rfl, by go_num, by have := HRS.out; rw [← HF2.out] at this; exact this, tra HK1y.out ((Kept.refl _ _).drewN _)⟩
                · have hm1 : (m2 != 0) = true := by simp [hm0]
                  have HF := hide (show m2 = wrongFd l (t.fields.take j) f by rw [HWF.out, if_pos hm0])
                  clear hm0
                  go_wp2_with fail
                  go_roundg (gk - 1)
                  case measure => omega
                  case rel => exact ⟨j + 1, _, by omega, rfl, by go_num, by have := HRS.out; rw [← HF.out] at this; exact this, tra HK1y.out (Kept.refl _ _)⟩
              · have HR0 := hide (HR.out.done (by omega))
                have HM0 := hide (show wrongTs l [] l = wrongTs l (l.take (i + 1)) (l.drop (i + 1)) by rw [HE.out, HST.out, if_neg (by simp [HR0.out])])
                go_wp2_with fail
                go_roundg (G - 1)
                case measure => omega
                case rel => exact ⟨i + 1, by omega, by go_num, tra HK0.out HKy.out, HM0⟩
            · have HM0 := hide (show wrongTs l [] l = E by have := HR.out.bad hE; rw [HE.out, HST.out, if_pos (by rw [this]; exact hE), this])
              have hE1 : (E == 0) = false := by simp [hE]
              have hE2 : (E != 0) = true := by simp [hE]
              clear hE
              by_cases hlj : j < t.fields.length
              · go_wp2_with fail
                go_ret
                exact ⟨ret_int (by rw [HZ.out, HM0.out]), tra HK0.out HKy.out⟩
              · go_wp2_with fail
                go_ret
                exact ⟨ret_int (by rw [HZ.out, HM0.out]), tra HK0.out HKy.out⟩
        · go_wp2_with fail
          go_ret
          exact ⟨ret_int (by rw [HZ.out, HE.out, List.drop_eq_nil_of_le (by omega)]; rfl), HK.out⟩

end Go.Proofs.Ytkkjchfhgjfclac
