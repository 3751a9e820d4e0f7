/- The reference's fits of a query, CheckFits. -/
import Derived.Test.YtkkjchfhgjfclacValidtellsupto25
import Derived.Test.YtkkjchfhgjfclacValidtellsupto28
namespace Go.Proofs.Ytkkjchfhgjfclac
open Go.RowKit

theorem ofQuery_has (types : List TypeT) (nm : List UInt8) : hasF (ofQueryV types).fields nm = hasT types nm := by
  rw [ofQueryV_fields, hasF, hasT, List.any_map]
  rfl
theorem ofQuery_fd {types : List TypeT} {nm : List UInt8} (h : hasT types nm = true) : fieldOf (ofQueryV types).fields nm = ⟨nm, 4, nm⟩ := by
  rw [ofQueryV_fields, fieldOf, List.find?_map]
  have e : ((fun a : FieldT => decide (a.name = nm)) ∘ qF) = fun t => decide (t.name = nm) := rfl
  rw [e]
  obtain ⟨t, ht, he⟩ := List.any_eq_true.1 h
  cases hf : types.find? (fun t => decide (t.name = nm)) with
  | none => exact absurd he (by simpa using List.find?_eq_none.1 hf t ht)
  | some t =>
    have := List.find?_some hf
    simp only [decide_eq_true_eq] at this
    simp [qF, this]

set_option maxRecDepth 20000 in
set_option maxHeartbeats 12800000 in
theorem rfitsQ_any (f : Sels) (w : World) (v : Value) (at' : Option Addr) (ct : Nat) (types : List TypeT) (seen : List (List UInt8))
    (hty : TypSl anyB w (.slice at' types.length ct) types) (hsc : checkSc types = 0) (hsel : SelSl w v f) (hwq : wrongQ seen f = 0) :
    Calls Try.prog 27 #[.slice at' types.length ct, .int .i64 (-1), v] w fun e w' => e = .returned (.int .i64 (fitsV types (ofQueryV types) f)) ∧ Same w w' := by
  obtain ⟨ao, cap, rfl, ⟨hmax, _⟩, _⟩ := id hsel
  have hmax' : f.len ≤ 9223372036854775807 := hmax
  have htl : types.length ≤ 5 := ((checkSc_iff types).1 hsc).1.2
  obtain ⟨o, ho⟩ : ∃ o, o = ofQueryV types := ⟨_, rfl⟩
  rw [← ho]
  have HOO := hide ho
  have HTY := hide hty
  have HSEL := hide hsel
  have HSC := hide hsc
  clear hty hsel hsc hmax ho
  go_enter Try.func27, Try.ntmps27
  go_wp2_with fail
  go_loopg [7] f.len (fun gg iv wr => ∃ (j : Nat) (p x : Sels) (se : List (List UInt8)), x.len ≤ gg ∧ gg ≤ x.len ∧ j + x.len ≤ f.len ∧ f.len ≤ j + x.len ∧ iv = .int .i64 j ∧ Hid (p.len = j) ∧ Hid (f = appS p x) ∧ Hid (Same w wr) ∧ Hid (fitsV types o f = fitsV types o x) ∧ Hid (wrongQ se x = 0))
  case atStart => exact ⟨0, .nil, f, seen, Nat.le_refl _, Nat.le_refl _, by omega, by omega, rfl, rfl, rfl, Kept.refl _ _, rfl, hwq⟩
  case round =>
    obtain ⟨j, p, x, se, hg1, hg2, hj1, hj2, rfl, HPL, HFP, HKr, HFV, HWQ⟩ := hrel
    cases x with
    | nil =>
      simp only [Sels.len] at hg1 hg2 hj1 hj2
      go_wp2_with fail
      go_ret
      exact ⟨ret_int (by rw [HFV.out]; rfl), HKr.out⟩
    | cons al nm args k r =>
      simp only [Sels.len] at hg1 hg2 hj1 hj2
      have hlt : j < f.len := by omega
      obtain ⟨b1, o1, aa1, ca1, ak1, ck1, hao, p0, p1, p2, p3, ha1, hk1, hal⟩ := selSl_nth HSEL.out HFP.out j HPL.out
      subst hao
      have p0 := HKr.out.cell p0 (fun f => f)
      have p1 := HKr.out.cell p1 (fun f => f)
      have p2 := HKr.out.cell p2 (fun f => f)
      have p3 := HKr.out.cell p3 (fun f => f)
      have hkl : k.len ≤ 9223372036854775807 := by obtain ⟨_, _, e, ⟨h1, _⟩, _⟩ := id hk1; exact h1
      obtain ⟨hwS, _, hwK, hwR⟩ := wrongQ_ok HWQ.out
      have HWK := hide hwK
      have HWR := hide hwR
      have HARG := hide ha1
      have HKID := hide hk1
      clear ha1 hk1 hwS hwK hwR
      obtain ⟨w1, hw1⟩ : ∃ w1, w1 = wr.alloc (.cells #[.string ⟨al.toArray⟩, .string ⟨nm.toArray⟩, .slice aa1 args.length ca1, .slice ak1 k.len ck1] 62) := ⟨_, rfl⟩
      obtain ⟨gs, hgs⟩ : ∃ gs, gs = wr.heap.size := ⟨_, rfl⟩
      have HK1 := hide (show Same w w1 by rw [hw1]; exact HKr.out.alloc _)
      have HBS := hide (show w1.heap[gs]? = some (.cells #[.string ⟨al.toArray⟩, .string ⟨nm.toArray⟩, .slice aa1 args.length ca1, .slice ak1 k.len ck1] 62 (0, 0)) by rw [hw1, hgs]; exact heap_alloc_new wr _)
      have HNX := hide (show (appS p (.cons al nm args k .nil)).len = j + 1 ∧ f = appS (appS p (.cons al nm args k .nil)) r by rw [appS_len, HPL.out, appS_snoc]; exact ⟨rfl, HFP.out⟩)
      obtain ⟨G, hG1, hG2⟩ : ∃ G, G ≤ gk ∧ gk ≤ G := ⟨gk, Nat.le_refl _, Nat.le_refl _⟩
      go_upto_region 5 with fail
      rw [← hw1, ← hgs]
      clear hw1 hgs p0 p1 p2 p3
      obtain ⟨q0, q1, q2, q3⟩ := cells4 HBS.out
      have hgs1 : gs < w1.heap.size := (Array.getElem?_eq_some_iff.1 HBS.out).1
      go_upto_if 28 with fail
      go_cut [9, 10, 11] from 17 to 128 (fun nv mv lv wx => ∃ (F : FieldT) (nx : Int), nv = .int .i64 nx ∧ mv = .bool false ∧ lv = .bool (decide (F.kind < 3)) ∧ Hid (FoundV types o nm F nx) ∧ Hid (Same w1 wx) ∧ Hid (F.kind = 4))
      case first =>
        obtain ⟨x, hx⟩ : ∃ x, typeN types nm = x := ⟨_, rfl⟩
        have HTA := hide (typeAt_is w1 _ types nm anyB (HTY.out.same HK1.out) x hx)
        cases hh : hasT types nm with
        | false =>
          have hx0 : x = -1 := hx.symm.trans (typeN_not hh)
          subst hx0
          have HE := hide (show fitsV types o f = 5 by rw [HFV.out]; exact fitsV_bad (taken_e5 (by rw [HOO.out, ofQuery_has, hh])).1 (by decide))
          clear hx hh
          go_wp2_with fail
          refine HTA.out.mono ?_
          rintro e w4 ⟨rfl, hw4⟩
          rw [hw4]
          clear hw4
          go_wp2_with fail
          go_ret
          exact ⟨ret_int HE.out.symm, HK1.out⟩
        | true =>
          have hx0 : ¬ x < 0 := by rw [← hx]; have := typeN_has hh; omega
          have HFD := hide (show FoundV types o nm ⟨nm, 4, nm⟩ x from ⟨by rw [HOO.out, ofQuery_has, hh], by rw [HOO.out]; exact ofQuery_fd hh, (fun _ => ⟨by rw [← hx, typeN, if_pos hh], hh⟩), ⟨by simp, by simp⟩⟩)
          clear hx hh
          go_wp2_with fail
          refine HTA.out.mono ?_
          rintro e w4 ⟨rfl, hw4⟩
          rw [hw4]
          clear hw4
          go_wp2_with fail
          go_meet
          case rel => exact ⟨⟨nm, 4, nm⟩, _, rfl, rfl, by simp, HFD.out, Kept.refl _ _, rfl⟩
      case rest =>
      obtain ⟨F, nx, rfl, rfl, rfl, HFD, HKc, HK4⟩ := hcut
      have HK2 := hide (tra HK1.out HKc.out)
      have HB2 := hide (blk_kept HBS.out HKc.out (fun f => f))
      obtain ⟨w2, hw2⟩ : ∃ w2, w2 = wc := ⟨_, rfl⟩
      subst hw2
      have HOA := hide (show o.arg = bId ∧ o.low = 1 ∧ o.high = 999 by rw [HOO.out]; exact ⟨rfl, rfl, rfl⟩)
      obtain ⟨lf, hlf⟩ : ∃ lf, decide (F.kind < 3) = lf := ⟨_, rfl⟩
      rw [hlf]
      have HLF := hide hlf
      clear hlf q0 q1 q2 q3 hgs1
      go_wp2_with fail
      go_loopg [14] args.length (fun gg kv wr => ∃ tt : Nat, tt + gg = args.length ∧ kv = .int .i64 tt ∧ Hid (wrongAgs o F args = wrongAgs o F (args.drop tt)) ∧ Hid (Same w2 wr))
      case atStart => exact ⟨0, by omega, rfl, rfl, Kept.refl _ _⟩
      case round =>
        obtain ⟨tt, htt, rfl, HWA, HKr2⟩ := hrel
        obtain ⟨q0, q1, q2, q3⟩ := cells4 (blk_kept HB2.out HKr2.out (fun f => f))
        have hgs1 : gs < wr.heap.size := (Array.getElem?_eq_some_iff.1 (blk_kept HB2.out HKr2.out (fun f => f))).1
        have HKw := hide (tra HK2.out HKr2.out)
        by_cases hlt2 : tt < args.length
        · obtain ⟨ba, oa, hba, c0, c1, c2, c3⟩ := (HARG.out.same HKw.out).at tt hlt2
          subst hba
          have HST := hide (wrongAgs_step o F args tt hlt2)
          obtain ⟨a, hae⟩ : ∃ a, a = args[tt] := ⟨_, rfl⟩
          rw [← hae] at HST c0 c1 c2 c3
          clear hae
          have HBAD := hide (show ∀ x, wrongAg o F a = x → x ≠ 0 → fitsV types o f = x from fun x hx h0 => by
            rw [HFV.out]
            exact fitsV_bad (taken_ea HFD.out.has (by rw [HFD.out.is, HWA.out, HST.out, hx, if_pos h0]) h0).1 h0)
          have HKA := hide (show ∀ ob, Same w (wr.alloc ob) from fun ob => HKw.out.alloc ob)
          have HNP := hide (show a.name = bId → ¬ (a.name ≠ o.arg ∨ F.kind ≠ 4) from fun hnm e => e.elim (fun e => e (by rw [hnm, HOA.out.1])) (fun e => e HK4.out))
          by_cases hnm : a.name = bId
          · have HNQ := hide (HNP.out hnm)
            rw [hnm] at c0
            clear hnm
            cases htx : a.isText
            · rw [htx] at c1
              obtain ⟨q, hq⟩ : ∃ q, (decide ((1 : Int) ≤ a.n) && decide (a.n ≤ 999)) = q := ⟨_, rfl⟩
              have HBT := hide (fun w => between_is a.n 1 999 w q hq)
              cases q
              · have HE := hide (HBAD.out 3 (by
                  rw [wrongAg, if_neg HNQ.out, if_neg (by rw [htx]; simp), if_pos]
                  rw [HOA.out.2.1, HOA.out.2.2]
                  simp only [Bool.and_eq_false_iff, decide_eq_false_iff_not] at hq
                  omega) (by decide))
                clear hq
                go_wp2_with fail
                refine (HBT.out _).mono ?_
                rintro e w5 ⟨rfl, hw5⟩
                rw [hw5]
                clear hw5
                go_wp2_with fail
                go_ret
                exact ⟨ret_int HE.out.symm, HKA.out _⟩
              · simp only [Bool.and_eq_true, decide_eq_true_eq] at hq
                have hn0 : ¬ a.n < 0 := by omega
                have HGO := hide (show wrongAgs o F args = wrongAgs o F (args.drop (tt + 1)) by
                  rw [HWA.out, HST.out, if_neg]
                  rw [wrongAg, if_neg HNQ.out, if_neg (by rw [htx]; simp), if_neg]
                  · simp
                  · rw [HOA.out.2.1, HOA.out.2.2]
                    omega)
                clear hq
                go_wp2_with fail
                refine (HBT.out _).mono ?_
                rintro e w5 ⟨rfl, hw5⟩
                rw [hw5]
                clear hw5
                go_wp2_with fail
                go_roundg (gk - 1)
                case measure => omega
                case rel => exact ⟨tt + 1, by omega, by go_num, HGO.out, HKr2.out.alloc _⟩
            · have HE := hide (HBAD.out 7 (by rw [wrongAg, if_neg HNQ.out, if_pos htx]) (by decide))
              rw [htx] at c1
              go_wp2_with fail
              go_ret
              exact ⟨ret_int HE.out.symm, HKA.out _⟩
          · have HE := hide (HBAD.out 5 (by rw [wrongAg, if_pos (.inl (by rw [HOA.out.1]; exact hnm))]) (by decide))
            have hnb : (a.name == [105, 100]) = false := by simpa using hnm
            clear hnm
            go_wp2_with fail
            go_ret
            exact ⟨ret_int HE.out.symm, HKA.out _⟩
        · have HW0 := hide (show wrongAgs o (fieldOf o.fields nm) args = 0 by rw [HFD.out.is, HWA.out, List.drop_eq_nil_of_le (by omega)]; rfl)
          have HLV := hide (leafV HFD.out.kind)
          rw [HLF.out] at HLV
          cases lf
          · -- it has things
            by_cases hk0 : k.len = 0
            · have HE := hide (show fitsV types o f = 4 by
                rw [HFV.out]
                exact fitsV_bad (taken_e4 HFD.out.has HW0.out (by rw [HFD.out.is, HLV.out, hk0]; simp)).1 (by decide))
              have hk0b : ((k.len : Int) == 0) = true := by simp [hk0]
              clear hk0
              go_wp2_with fail
              go_ret
              exact ⟨ret_int HE.out.symm, HKw.out⟩
            · have HTK := hide (show takenE o nm args k.len = 0 from (taken_ok HFD.out.has HW0.out (by rw [HFD.out.is, HLV.out]; simp; omega)).1)
              have hk0b : ((k.len : Int) == 0) = false := by simp; omega
              obtain ⟨hnx1, hnx2⟩ := HFD.out.next (by rw [HLV.out]; rfl)
              obtain ⟨ix, hix⟩ : ∃ ix, typeIx types F.of = ix := ⟨_, rfl⟩
              have hixl : ix < types.length := by rw [← hix]; exact typeIx_lt hnx2
              have hty2 : typeOf types (fieldOf o.fields nm).of = types[ix] := by rw [HFD.out.is, typeOf_at _ _ (typeIx_lt hnx2)]; simp only [hix]
              obtain ⟨K, hK⟩ : ∃ K, fitsV types (ofTypeV types[ix]) k = K := ⟨_, rfl⟩
              have HN := hide (show fitsV types o f = if K ≠ 0 then K else fitsV types o r by rw [HFV.out]; exact fitsV_kid K HTK.out hk0 (by rw [hty2]; exact hK))
              have hrec := rfits_any k.size' k rfl wr (.slice ak1 k.len ck1) _ ct types ix hixl [] (HTY.out.same HKw.out) HSC.out (HKID.out.same HKw.out) HWK.out
              rw [hK] at hrec
              have HREC := hide hrec
              rw [hix] at hnx1
              subst hnx1
              clear hrec hK hty2 hix hnx2 hk0
              go_wp2_with fail
              refine HREC.out.mono ?_
              rintro e w5 ⟨rfl, hK5⟩
              by_cases hK0 : K = 0
              · subst hK0
                have HNN := hide (show fitsV types o f = fitsV types o r by rw [HN.out]; rfl)
                go_wp2_with fail
                go_roundg (G - 1)
                case measure => omega
                case rel => exact ⟨j + 1, appS p (.cons al nm args k .nil), r, _, by omega, by omega, by omega, by omega, by go_num, HNX.out.1, HNX.out.2, tra HKw.out hK5, HNN.out, HWR.out⟩
              · have HNN := hide (show fitsV types o f = K by rw [HN.out, if_pos hK0])
                have hKb : (K != 0) = true := by simp [hK0]
                clear hK0
                go_wp2_with fail
                go_ret
                exact ⟨ret_int HNN.out.symm, tra HKw.out hK5⟩
          · -- a leaf
            by_cases hk0 : k.len = 0
            · have HTK := hide (show takenE o nm args k.len = 0 from (taken_ok HFD.out.has HW0.out (by rw [HFD.out.is, HLV.out, hk0]; rfl)).1)
              have HNN := hide (show fitsV types o f = fitsV types o r by rw [HFV.out]; exact fitsV_leaf HTK.out hk0)
              have hk0b : ((k.len : Int) == 0) = true := by simp [hk0]
              clear hk0
              go_wp2_with fail
              go_roundg (G - 1)
              case measure => omega
              case rel => exact ⟨j + 1, appS p (.cons al nm args k .nil), r, _, by omega, by omega, by omega, by omega, by go_num, HNX.out.1, HNX.out.2, HKw.out, HNN.out, HWR.out⟩
            · have HE := hide (show fitsV types o f = 4 by
                rw [HFV.out]
                exact fitsV_bad (taken_e4 HFD.out.has HW0.out (by rw [HFD.out.is, HLV.out]; simp; omega)).1 (by decide))
              have hk0b : ((k.len : Int) == 0) = false := by simp; omega
              clear hk0
              go_wp2_with fail
              go_ret
              exact ⟨ret_int HE.out.symm, HKw.out⟩

set_option maxRecDepth 20000 in
set_option maxHeartbeats 1600000 in
theorem rCheckFits_any (w : World) (vt vq : Value) (types : List TypeT) (q : Sels) (ht : TypSl anyB w vt types) (hq : SelSl w vq q) (hs : q.size' ≤ 4000000) :
    Calls Try.prog 11 #[vt, vq] w fun e w' => e = .returned (.int .i64 (checkV types q)) ∧ Same w w' := by
  obtain ⟨at', ct, rfl, _, _⟩ := id ht
  obtain ⟨aq, cq, rfl, _, _⟩ := id hq
  have HT := hide ht
  have HQ := hide hq
  obtain ⟨s, hs'⟩ : ∃ s, checkSc types = s := ⟨_, rfl⟩
  have hsc := rCheckSc_any w _ types anyB HT.out
  rw [hs'] at hsc
  have HSC := hide hsc
  have HS := hide hs'
  obtain ⟨m, hm⟩ : ∃ m, checkQ q = m := ⟨_, rfl⟩
  have hqc := fun wx (hk : Same w wx) => rCheckQ_any wx _ q (HQ.out.same hk) hs
  rw [hm] at hqc
  have HQC := hide hqc
  have HMM := hide hm
  clear ht hq hsc hs' hqc hm hs
  go_enter Try.func11, Try.ntmps11
  go_wp2_with fail
  refine HSC.out.mono ?_
  rintro e w1 ⟨rfl, hK1⟩
  by_cases hs0 : s = 0
  · subst hs0
    go_wp2_with fail
    refine (HQC.out _ hK1).mono ?_
    rintro e w2 ⟨rfl, hK2⟩
    have HK2 := hide (tra hK1 hK2)
    clear hK1 hK2
    by_cases hm0 : m = 0
    · subst hm0
      have HV := hide (checkV_f HS.out HMM.out)
      have HF := hide (rfitsQ_any q w2 (.slice aq q.len cq) at' ct types [] (HT.out.same HK2.out) HS.out (HQ.out.same HK2.out) (checkQ_ok HMM.out).2.2)
      go_wp2_with fail
      refine HF.out.mono ?_
      rintro e w3 ⟨rfl, hK3⟩
      go_wp2_with fail
      go_ret
      exact ⟨ret_int HV.out.symm, tra HK2.out hK3⟩
    · have HV := hide (checkV_q HS.out HMM.out hm0)
      have hmb : (m == 0) = false := by simp [hm0]
      clear hm0
      go_wp2_with fail
      go_ret
      exact ⟨ret_int HV.out.symm, HK2.out⟩
  · have HV := hide (checkV_s (q := q) HS.out hs0)
    have hsb : (s == 0) = false := by simp [hs0]
    clear hs0
    go_wp2_with fail
    go_ret
    exact ⟨ret_int HV.out.symm, hK1⟩

end Go.Proofs.Ytkkjchfhgjfclac
