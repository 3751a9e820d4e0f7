import Derived.Test.YtidodjbmlbjchaaGreatHistorystaysupto15
import Derived.Test.YtidodjbmlbjchaaGreatChecked
import Derived.Test.YtidodjbmlbjchaaGreatHistorystaysupto11
import Derived.Test.YtidodjbmlbjchaaGreatHistorystaysupto07
/- schema.wrongType, schema.Check, whatever they are handed. -/
namespace Go.Proofs.YtidodjbmlbjchaaGreat
open Go.RowKit

theorem typeNamed_has (w : World) (v : Value) (l : List TypeT) (nm : List UInt8) (P : Nat → Prop) (h : TypSl P w v l) (hh : hasT l nm = true) :
    Calls Tryz.prog 67 #[v, .string ⟨nm.toArray⟩] w fun e w' => ∃ j : Nat, e = .returned (.int .i64 j) ∧ Same w w' := by
  refine (typeNamed_any w v l nm P h).mono ?_
  rintro e w' (⟨j, rfl, _, _, hK⟩ | ⟨rfl, ha, hK⟩)
  · exact ⟨j, rfl, hK⟩
  · rw [hh] at ha; cases ha
theorem typeNamed_not (w : World) (v : Value) (l : List TypeT) (nm : List UInt8) (P : Nat → Prop) (h : TypSl P w v l) (hh : hasT l nm = false) :
    Calls Tryz.prog 67 #[v, .string ⟨nm.toArray⟩] w fun e w' => e = .returned (.int .i64 (-1)) ∧ Same w w' := by
  refine (typeNamed_any w v l nm P h).mono ?_
  rintro e w' (⟨j, rfl, ha, _, hK⟩ | ⟨rfl, ha, hK⟩)
  · rw [hh] at ha; cases ha
  · exact ⟨rfl, hK⟩

theorem wrongTy_of (l seen : List TypeT) (t : TypeT) (m : Int) (hm : wrongT (nameT t.name) = m) (q : Bool) (hq : hasT seen t.name = q) :
    wrongTy l seen t = if m ≠ 0 then m else if t.name = bNumber ∨ t.name = bText then 4 else if q then 6 else if t.fields.length = 0 then 5 else if 6 < t.fields.length then 2 else wrongFs l [] t.fields := by rw [wrongTy, hm, hq]

theorem wrongFs_step (l : List TypeT) (fs : List FieldT) (j : Nat) (h : j < fs.length) : wrongFs l (fs.take j) (fs.drop j) = if wrongFd l (fs.take j) fs[j] ≠ 0 then wrongFd l (fs.take j) fs[j] else wrongFs l (fs.take (j + 1)) (fs.drop (j + 1)) := by
  rw [List.drop_eq_getElem_cons h, wrongFs, List.take_succ_eq_append_getElem h]

set_option maxRecDepth 20000 in
set_option maxHeartbeats 3200000 in
theorem wrongType_any (w : World) (vt : Value) (l : List TypeT) (i : Nat) (hi : i < l.length) (P : Nat → Prop) (ht : TypSl P w vt l) :
    Calls Tryz.prog 64 #[vt, .int .i64 i] w fun e w' => e = .returned (.int .i64 (wrongTy l (l.take i) l[i])) ∧ Same w w' := by
  obtain ⟨at', ct, rfl, ⟨hmax, hcap⟩, _⟩ := id ht
  unfold maxLen at hmax
  obtain ⟨b, off, af, nf, cf, rfl, c0, c1, hnf, hfs⟩ := ht.at i hi
  obtain ⟨t, hte⟩ : ∃ t, t = l[i] := ⟨_, rfl⟩
  rw [← hte] at c0 hnf hfs ⊢
  clear hte
  subst hnf
  have hfm : t.fields.length ≤ 9223372036854775807 := by
    obtain ⟨_, _, _, h, _⟩ := id hfs
    exact h.1
  obtain ⟨m, hm⟩ : ∃ m, wrongT (nameT t.name) = m := ⟨_, rfl⟩
  obtain ⟨q, hq⟩ : ∃ q, hasT (l.take i) t.name = q := ⟨_, rfl⟩
  have HW := hide (wrongTy_of l (l.take i) t m hm q hq)
  have HNM := hide (fun w => wrongName_is w t.name m hm)
  have HQ := hide hq
  have HT := hide ht
  have HFS := hide hfs
  clear hm hq ht hfs
  have kA : ∀ o, Same w (w.alloc o) := fun o => (Kept.refl _ w).alloc o
  go_enter Tryz.func64, Tryz.ntmps64
  go_wp2_with fail
  refine (HNM.out _).mono ?_
  rintro e w1 ⟨rfl, hK1⟩
  have hb1 := new_kept hK1 (fun f => f)
  have hKa : Same w w1 := tra (kA _) hK1
  have hw1 : w.heap.size < w1.heap.size := (Array.getElem?_eq_some_iff.1 hb1).1
  clear kA c0 c1 hK1
  by_cases hm0 : m = 0
  · subst hm0
    obtain ⟨g0, g1⟩ := blk2 hb1
    by_cases hid : t.name = bNumber
    · have HF := hide (show wrongTy l (l.take i) t = 4 by rw [HW.out, if_neg (by simp), if_pos (.inl hid)])
      rw [hid] at g0
      clear hid
      go_wp2_with fail
      go_ret
      exact ⟨ret_int HF.out.symm, hKa⟩
    · have hid' : (t.name == [78, 117, 109, 98, 101, 114]) = false := by simpa using hid
      by_cases htx : t.name = bText
      · have HF := hide (show wrongTy l (l.take i) t = 4 by rw [HW.out, if_neg (by simp), if_pos (.inr htx)])
        rw [htx] at g0
        clear htx hid hid'
        go_wp2_with fail
        go_ret
        exact ⟨ret_int HF.out.symm, hKa⟩
      · have htx' : (t.name == [84, 101, 120, 116]) = false := by simpa using htx
        have HF := hide (show wrongTy l (l.take i) t = if q then 6 else if t.fields.length = 0 then 5 else if 6 < t.fields.length then 2 else wrongFs l [] t.fields by rw [HW.out, if_neg (by simp), if_neg (fun e => e.elim hid htx)])
        clear hid htx HW
        have HTK := hide (fun w2 (hK2 : Same w w2) => (HT.out.same hK2).take i (by omega))
        cases q
        · have HTN := hide (fun w2 (hK2 : Same w w2) => typeNamed_not w2 _ (l.take i) t.name P (HTK.out w2 hK2) HQ.out)
          have HKD := hide (fun n => hKa.drewN n)
          go_wp2_with fail
          go_region_with ((go_at_call 67; refine (HTN.out _ (by first | exact hKa | exact HKD.out _)).mono ?_; rintro e w2 ⟨rfl, hK2⟩))
          all_goals
            have hKb : Same w w2 := tra hKa (by first | exact hK2.unD | exact hK2.unN | exact hK2)
            have hb2 : w2.heap[w.heap.size]? = _ := (hK2.block w.heap.size hw1 (fun f => f)).trans hb1
            have hw2 : w.heap.size < w2.heap.size := (Array.getElem?_eq_some_iff.1 hb2).1
            obtain ⟨p0, p1⟩ := blk2 hb2
            have HF2 := hide (show wrongTy l (l.take i) t = if t.fields.length = 0 then 5 else if 6 < t.fields.length then 2 else wrongFs l [] t.fields by rw [HF.out]; rfl)
            clear HF HTN HTK HKD g0 g1 hb1 hK2 HNM HQ
            by_cases hz : t.fields.length = 0
            · have HZ := hide (show wrongTy l (l.take i) t = 5 by rw [HF2.out, if_pos hz])
              rw [hz] at p1
              clear hz HF2
              go_wp2_with fail
              go_ret
              exact ⟨ret_int HZ.out.symm, hKb⟩
            · have hz' : ((t.fields.length : Int) == 0) = false := beq_eq_false_iff_ne.2 (by omega)
              by_cases h6 : 6 < t.fields.length
              · have HZ := hide (show wrongTy l (l.take i) t = 2 by rw [HF2.out, if_neg hz, if_pos h6])
                clear hz HF2
                go_wp2_with fail
                go_ret
                exact ⟨ret_int HZ.out.symm, hKb⟩
              · have HZ := hide (show wrongTy l (l.take i) t = wrongFs l [] t.fields by rw [HF2.out, if_neg hz, if_neg h6])
                have h6' : t.fields.length ≤ 6 := by omega
                have HB := hide hb2
                clear hz h6 HF2 hb2
                go_wp2_with fail
                go_loopg [49] t.fields.length (fun g k wr => ∃ j : Nat, j + g = t.fields.length ∧ k = .int .i64 j ∧ Same w2 wr ∧ Hid (wrongFs l [] t.fields = wrongFs l (t.fields.take j) (t.fields.drop j)))
                case atStart => exact ⟨0, by omega, rfl, Kept.refl _ _, rfl⟩
                case round =>
                  obtain ⟨j, hj, rfl, hKr, HE⟩ := hrel
                  obtain ⟨r0, r1⟩ := blk2 ((hKr.block w.heap.size hw2 (fun f => f)).trans HB.out)
                  have hKc : Same w wr := tra hKb hKr
                  by_cases hlt : j < t.fields.length
                  · obtain ⟨mf, hmf⟩ : ∃ mf, wrongFd l (t.fields.take j) t.fields[j] = mf := ⟨_, rfl⟩
                    have HWF := wrongField_any wr _ _ l t.fields j hlt P P (HT.out.same hKc) (HFS.out.same hKc)
                    have HST := hide (wrongFs_step l t.fields j hlt)
                    rw [hmf] at HWF HST
                    have HW1 := hide HWF
                    clear HWF hmf
                    go_wp2_with fail
                    refine HW1.out.mono ?_
                    rintro e w3 ⟨rfl, hK3⟩
                    by_cases hm0 : mf = 0
                    · have HM := hide (show wrongFs l [] t.fields = wrongFs l (t.fields.take (j + 1)) (t.fields.drop (j + 1)) by rw [HE.out, HST.out, if_neg (by simp [hm0])])
                      subst hm0
                      go_wp2_with fail
                      go_roundg (gk - 1)
                      case measure => omega
                      case rel => exact ⟨j + 1, by omega, by go_num, tra hKr hK3, HM⟩
                    · have HM := hide (show wrongFs l [] t.fields = mf by rw [HE.out, HST.out, if_pos hm0])
                      have hm1 : (mf != 0) = true := by simp [hm0]
                      clear hm0
                      go_wp2_with fail
                      go_ret
                      exact ⟨ret_int (by rw [HZ.out, HM.out]), tra hKc hK3⟩
                  · go_wp2_with fail
                    go_ret
                    exact ⟨ret_int (by rw [HZ.out, HE.out, List.drop_eq_nil_of_le (by omega)]; rfl), hKc⟩
        · have HTN := hide (fun w2 (hK2 : Same w w2) => typeNamed_has w2 _ (l.take i) t.name P (HTK.out w2 hK2) HQ.out)
          have HKD := hide (fun n => hKa.drewN n)
          go_wp2_with fail
          go_region_with ((go_at_call 67; refine (HTN.out _ (by first | exact hKa | exact HKD.out _)).mono ?_; rintro e w2 ⟨jj, rfl, hK2⟩))
          all_goals
            have hKb : Same w w2 := tra hKa (by first | exact hK2.unD | exact hK2.unN | exact hK2)
            go_wp2_with fail
            go_ret
            exact ⟨ret_int (by rw [HF.out]; rfl), hKb⟩
  · have hm1 : (m != 0) = true := by simp [hm0]
    have HF := hide (show wrongTy l (l.take i) t = m by rw [HW.out, if_pos hm0])
    clear hm0
    go_wp2_with fail
    go_ret
    exact ⟨ret_int HF.out.symm, hKa⟩

theorem wrongTs_step (l : List TypeT) (i : Nat) (h : i < l.length) : wrongTs l (l.take i) (l.drop i) = if wrongTy l (l.take i) l[i] ≠ 0 then wrongTy l (l.take i) l[i] else wrongTs l (l.take (i + 1)) (l.drop (i + 1)) := by
  rw [List.drop_eq_getElem_cons h, wrongTs, List.take_succ_eq_append_getElem h]

set_option maxRecDepth 20000 in
set_option maxHeartbeats 1600000 in
theorem scCheck_any (w : World) (v : Value) (l : List TypeT) (P : Nat → Prop) (h : TypSl P w v l) :
    Calls Tryz.prog 41 #[v] w fun e w' => e = .returned (.int .i64 (checkSc l)) ∧ Same w w' := by
  obtain ⟨ao, cap, rfl, ⟨hmax, hcap⟩, _⟩ := id h
  unfold maxLen at hmax
  have hmax' : l.length ≤ 9223372036854775807 := hmax
  clear hmax
  by_cases hz : l.length = 0
  · have HZ := hide (show checkSc l = 5 by rw [checkSc, if_pos hz])
    rw [hz]
    clear h hz hmax' hcap
    go_enter Tryz.func41, Tryz.ntmps41
    go_wp2_with fail
    go_ret
    exact ⟨ret_int HZ.out.symm, Kept.refl _ _⟩
  · have hz' : ((l.length : Int) == 0) = false := beq_eq_false_iff_ne.2 (by omega)
    by_cases h5 : 5 < l.length
    · have HZ := hide (show checkSc l = 2 by rw [checkSc, if_neg hz, if_pos h5])
      clear h hz
      go_enter Tryz.func41, Tryz.ntmps41
      go_wp2_with fail
      go_ret
      exact ⟨ret_int HZ.out.symm, Kept.refl _ _⟩
    · have HZ := hide (show checkSc l = wrongTs l [] l by rw [checkSc, if_neg hz, if_neg h5])
      have h5' : l.length ≤ 5 := by omega
      have HH := hide h
      clear hz h5 h hmax'
      go_enter Tryz.func41, Tryz.ntmps41
      go_wp2_with fail
      go_loopg [15] l.length (fun g k wr => ∃ i : Nat, i + g = l.length ∧ k = .int .i64 i ∧ Same w wr ∧ Hid (wrongTs l [] l = wrongTs l (l.take i) (l.drop i)))
      case atStart => exact ⟨0, by omega, rfl, Kept.refl _ _, rfl⟩
      case round =>
        obtain ⟨i, hi, rfl, hK, HE⟩ := hrel
        by_cases hlt : i < l.length
        · obtain ⟨m, hm⟩ : ∃ m, wrongTy l (l.take i) l[i] = m := ⟨_, rfl⟩
          have HWT := wrongType_any wr _ l i hlt P (HH.out.same hK)
          have HST := hide (wrongTs_step l i hlt)
          rw [hm] at HWT HST
          have HW1 := hide HWT
          clear HWT hm
          go_wp2_with fail
          refine HW1.out.mono ?_
          rintro e w3 ⟨rfl, hK3⟩
          by_cases hm0 : m = 0
          · have HM := hide (show wrongTs l [] l = wrongTs l (l.take (i + 1)) (l.drop (i + 1)) by rw [HE.out, HST.out, if_neg (by simp [hm0])])
            subst hm0
            go_wp2_with fail
            go_roundg (gk - 1)
            case measure => omega
            case rel => exact ⟨i + 1, by omega, by go_num, tra hK hK3, HM⟩
          · have HM := hide (show wrongTs l [] l = m by rw [HE.out, HST.out, if_pos hm0])
            have hm1 : (m != 0) = true := by simp [hm0]
            clear hm0
            go_wp2_with fail
            go_ret
            exact ⟨ret_int (by rw [HZ.out, HM.out]), tra hK hK3⟩
        · go_wp2_with fail
          go_ret
          exact ⟨ret_int (by rw [HZ.out, HE.out, List.drop_eq_nil_of_le (by omega)]; rfl), hK⟩

end Go.Proofs.YtidodjbmlbjchaaGreat

/- parts.IsIndex, parts.IsId. -/
namespace Go.Proofs.YtidodjbmlbjchaaGreat
open Go.RowKit

def isIxI (i m : Int) : Bool := decide (0 ≤ i) && decide (i < m)
theorem isIx_I (i : Int) (n : Nat) : isIx i n = isIxI i n := rfl

theorem pIsIndex (i m : Int) (w : World) :
    Calls Tryz.prog 52 #[.int .i64 i, .int .i64 m] w fun e w' => e = .returned (.bool (isIxI i m)) ∧ w' = w := by
  go_enter Tryz.func52, Tryz.ntmps52
  go_wp2
  all_goals go_ret
  all_goals refine ⟨ret_bool ?_, rfl⟩
  all_goals (unfold isIxI; rw [Bool.eq_iff_iff]; simp; try omega)

theorem pIsId (i : Int) (w : World) :
    Calls Tryz.prog 53 #[.int .i64 i] w fun e w' => e = .returned (.bool (isIdT i)) ∧ w' = w := by
  go_enter Tryz.func53, Tryz.ntmps53
  go_wp2
  all_goals go_ret
  all_goals refine ⟨ret_bool ?_, rfl⟩
  all_goals (unfold isIdT; rw [Bool.eq_iff_iff]; simp; try omega)

end Go.Proofs.YtidodjbmlbjchaaGreat
