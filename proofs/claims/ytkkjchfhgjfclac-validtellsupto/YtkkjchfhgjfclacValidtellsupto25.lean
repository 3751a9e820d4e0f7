/- The reference's fits. -/
import Derived.Test.YtkkjchfhgjfclacValidtellsupto18
import Derived.Test.YtkkjchfhgjfclacValidtellsupto23
import Derived.Test.YtkkjchfhgjfclacValidtellsupto24
namespace Go.Proofs.Ytkkjchfhgjfclac
open Go.RowKit

theorem args_le {seen : List (List UInt8)} {l : List ArgT} (h : wrongA seen l = 0) : ∀ a ∈ l, a.isText = false → -999999999 ≤ a.n ∧ a.n ≤ 999999999 := by
  intro a ha ht
  have h1 := okT_args l seen h
  have hm : valueT a ∈ argToks l := by
    clear h h1
    induction l with
    | nil => cases ha
    | cons x r ih =>
      rw [argToks]
      rcases List.mem_cons.1 ha with rfl | ha
      · simp
      · simp [ih ha]
  have h2 := h1 _ hm
  rw [val_num ht] at h2
  by_cases h3 : a.text = []
  · rw [if_neg (not_not_intro h3)] at h2
    by_cases h4 : (decide (-999999999 ≤ a.n) && decide (a.n ≤ 999999999)) = false
    · rw [if_pos h4] at h2; cases h2
    · simp only [Bool.not_eq_false, Bool.and_eq_true, decide_eq_true_eq] at h4
      exact h4
  · rw [if_pos h3] at h2; cases h2

theorem ofType_id (t : TypeT) : hasF (ofTypeV t).fields bId = true ∧ fieldOf (ofTypeV t).fields bId = ⟨bId, 1, []⟩ := ⟨rfl, rfl⟩
theorem ofType_fd (t : TypeT) (nm : List UInt8) (h : nm ≠ bId) : hasF (ofTypeV t).fields nm = hasF t.fields nm ∧ fieldOf (ofTypeV t).fields nm = fieldOf t.fields nm := by
  have e : decide ((⟨bId, 1, []⟩ : FieldT).name = nm) = false := decide_eq_false (fun e => h e.symm)
  refine ⟨?_, ?_⟩
  · simp only [hasF, ofTypeV, List.any_cons, e, Bool.false_or]
  · simp only [fieldOf, ofTypeV, List.find?_cons, e]

/-- what the field is: as the reference has it -/
structure FoundV (types : List TypeT) (o : OfferT) (nm : List UInt8) (F : FieldT) (nx : Int) : Prop where
  has : hasF o.fields nm = true
  is : fieldOf o.fields nm = F
  next : hasThg F = true → nx = ((typeIx types F.of : Nat) : Int) ∧ hasT types F.of = true
  kind : 1 ≤ F.kind ∧ F.kind ≤ 4

theorem leafV {F : FieldT} (h : 1 ≤ F.kind ∧ F.kind ≤ 4) : hasThg F = !decide (F.kind < 3) := by
  unfold hasThg
  rcases (show F.kind = 1 ∨ F.kind = 2 ∨ F.kind = 3 ∨ F.kind = 4 by omega) with e | e | e | e <;> rw [e] <;> rfl

theorem okFd_kind {l : List TypeT} {f : FieldT} (h : okFd l f) : 1 ≤ f.kind ∧ f.kind ≤ 4 := by
  rcases h.2.2 with h | h <;> rcases h.1 with e | e <;> omega

def RF (m : Nat) : Prop := ∀ (f : Sels), f.size' = m → ∀ (w : World) (v : Value) (at' : Option Addr) (ct : Nat) (types : List TypeT) (i : Nat) (hi : i < types.length) (seen : List (List UInt8)),
    TypSl anyB w (.slice at' types.length ct) types → checkSc types = 0 → SelSl w v f → wrongQ seen f = 0 →
    Calls Try.prog 27 #[.slice at' types.length ct, .int .i64 i, v] w fun e w' => e = .returned (.int .i64 (fitsV types (ofTypeV types[i]) f)) ∧ Same w w'

set_option maxRecDepth 20000 in
set_option maxHeartbeats 12800000 in
theorem rfits_step (m : Nat) (IH : ∀ m', m' < m → RF m') : RF m := by
  intro f hm w v at' ct types i hi seen hty hsc hsel hwq
  obtain ⟨ao, cap, rfl, ⟨hmax, _⟩, _⟩ := id hsel
  have hmax' : f.len ≤ 9223372036854775807 := hmax
  have htl : types.length ≤ 5 := ((checkSc_iff types).1 hsc).1.2
  obtain ⟨t, ht⟩ : ∃ t, t = types[i] := ⟨_, rfl⟩
  have HTM := hide (show t ∈ types by rw [ht]; exact List.getElem_mem hi)
  obtain ⟨o, ho⟩ : ∃ o, o = ofTypeV t := ⟨_, rfl⟩
  have HIX := hide ht.symm
  rw [← ht, ← ho]
  have HOO := hide ho
  have HTY := hide hty
  have HSEL := hide hsel
  have HSC := hide hsc
  have HIH := hide IH
  have HM := hide hm
  have hi0 : ¬ (i : Int) < 0 := by omega
  have hi1 : (0 : Int) ≤ (i : Int) := by omega
  have hi2 : (i : Int) < (types.length : Int) := by omega
  clear hty hsel hsc IH hm hmax ht ho
  go_enter Try.func27, Try.ntmps27
  go_wp2_with fail
  go_loopg [7] f.len (fun gg iv wr => ∃ (j : Nat) (p x : Sels) (se : List (List UInt8)), x.len ≤ gg ∧ gg ≤ x.len ∧ j + x.len ≤ f.len ∧ f.len ≤ j + x.len ∧ iv = .int .i64 j ∧ Hid (p.len = j) ∧ Hid (f = appS p x) ∧ Hid (Same w wr) ∧ Hid (fitsV types o f = fitsV types o x) ∧ Hid (wrongQ se x = 0))
  case atStart => exact ⟨0, .nil, f, seen, Nat.le_refl _, Nat.le_refl _, by omega, by omega, rfl, rfl, rfl, Kept.refl _ _, rfl, hwq⟩
  case round =>
    obtain ⟨j, p, x, se, hg1, hg2, hj1, hj2, rfl, HPL, HFP, HKr, HFV, HWQ⟩ := hrel
    cases x with
    | nil =>
      simp only [Sels.len] at hg1 hg2 hj1 hj2
      go_wp2_with fail
      go_ret
      exact ⟨ret_int (by rw [HFV.out]; rfl), HKr.out⟩
    | cons al nm args k r =>
      simp only [Sels.len] at hg1 hg2 hj1 hj2
      have hlt : j < f.len := by omega
      obtain ⟨b1, o1, aa1, ca1, ak1, ck1, hao, p0, p1, p2, p3, ha1, hk1, hal⟩ := selSl_nth HSEL.out HFP.out j HPL.out
      subst hao
      have p0 := HKr.out.cell p0 (fun f => f)
      have p1 := HKr.out.cell p1 (fun f => f)
      have p2 := HKr.out.cell p2 (fun f => f)
      have p3 := HKr.out.cell p3 (fun f => f)
      have hkl : k.len ≤ 9223372036854775807 := by obtain ⟨_, _, e, ⟨h1, _⟩, _⟩ := id hk1; exact h1
      obtain ⟨hwS, _, hwK, hwR⟩ := wrongQ_ok HWQ.out
      have HAL := hide (args_le (wrongS_ok hwS).2.2.2)
      have HWK := hide hwK
      have HWR := hide hwR
      have HKM := hide (show k.size' < m by
        have h1 := congrArg Sels.size' HFP.out
        rw [appS_size, Sels.size', HM.out] at h1
        omega)
      have HARG := hide ha1
      have HKID := hide hk1
      clear ha1 hk1 hwS hwK hwR
      obtain ⟨w1, hw1⟩ : ∃ w1, w1 = wr.alloc (.cells #[.string ⟨al.toArray⟩, .string ⟨nm.toArray⟩, .slice aa1 args.length ca1, .slice ak1 k.len ck1] 62) := ⟨_, rfl⟩
      obtain ⟨gs, hgs⟩ : ∃ gs, gs = wr.heap.size := ⟨_, rfl⟩
      have HK1 := hide (show Same w w1 by rw [hw1]; exact HKr.out.alloc _)
      have HBS := hide (show w1.heap[gs]? = some (.cells #[.string ⟨al.toArray⟩, .string ⟨nm.toArray⟩, .slice aa1 args.length ca1, .slice ak1 k.len ck1] 62 (0, 0)) by rw [hw1, hgs]; exact heap_alloc_new wr _)
      have HNX := hide (show (appS p (.cons al nm args k .nil)).len = j + 1 ∧ f = appS (appS p (.cons al nm args k .nil)) r by rw [appS_len, HPL.out, appS_snoc]; exact ⟨rfl, HFP.out⟩)
      obtain ⟨bt, ot, aft, nft, cft, hat', y0, y1, hnf, hfs⟩ := (HTY.out.same HK1.out).at i hi
      subst hat'
      rw [HIX.out] at y0 hnf hfs
      subst hnf
      have HFS := hide hfs
      clear hfs
      obtain ⟨G, hG1, hG2⟩ : ∃ G, G ≤ gk ∧ gk ≤ G := ⟨gk, Nat.le_refl _, Nat.le_refl _⟩
      go_upto_region 5 with fail
      rw [← hw1, ← hgs]
      clear hw1 hgs p0 p1 p2 p3
      obtain ⟨q0, q1, q2, q3⟩ := cells4 HBS.out
      have hgs1 : gs < w1.heap.size := (Array.getElem?_eq_some_iff.1 HBS.out).1
      go_upto_if 28 with fail
      go_cut [9, 10, 11] from 17 to 128 (fun nv mv lv wx => ∃ (F : FieldT) (nx : Int), nv = .int .i64 nx ∧ mv = .bool (decide (F.kind = 4)) ∧ lv = .bool (decide (F.kind < 3)) ∧ Hid (FoundV types o nm F nx) ∧ Hid (Same w1 wx))
      case first =>
        by_cases hid : nm = bId
        · subst hid
          have HFD := hide (show FoundV types o bId ⟨bId, 1, []⟩ (-1) from ⟨by rw [HOO.out]; exact (ofType_id t).1, by rw [HOO.out]; exact (ofType_id t).2, (fun h => by cases h), ⟨by decide, by decide⟩⟩)
          go_wp2_with fail
          go_meet
          case rel => exact ⟨_, _, rfl, rfl, rfl, HFD.out, Kept.refl _ _⟩
        · have hidb : (nm == [105, 100]) = false := by simpa using hid
          obtain ⟨hh1, hh2⟩ := ofType_fd t nm hid
          have HH1 := hide hh1
          have HH2 := hide hh2
          clear hid hh1 hh2
          obtain ⟨x, hx⟩ : ∃ x, fieldN t.fields nm = x := ⟨_, rfl⟩
          have HFA := hide (fun n => fieldAt_is (w1.drewN n) _ t.fields nm anyB (HFS.out.same ((Kept.refl _ w1).drewN n)) x hx)
          cases hh : hasF t.fields nm with
          | false =>
            have hx0 : x = -1 := hx.symm.trans (fieldN_not hh)
            subst hx0
            have HE := hide (show fitsV types o f = 5 by rw [HFV.out]; exact fitsV_bad (taken_e5 (by rw [HOO.out, HH1.out, hh])).1 (by decide))
            clear hx hh
            go_wp2_with fail
            go_quiet ((go_at_call 54; exact Calls.quiet_of_same (HFA.out _)))
            go_wp2_with fail
            go_ret
            exact ⟨ret_int HE.out.symm, Kept.drewN HK1.out _⟩
          | true =>
            obtain ⟨ix, hix⟩ : ∃ ix, fieldIx t.fields nm = ix := ⟨_, rfl⟩
            have hxe : x = (ix : Int) := by rw [← hx, fieldN, if_pos hh, hix]
            have hixl : ix < t.fields.length := by
              rw [← hix]
              unfold fieldIx
              rw [List.findIdx_lt_length]
              obtain ⟨a, ha, e⟩ := List.any_eq_true.1 hh
              exact ⟨a, ha, e⟩
            obtain ⟨F, hF⟩ : ∃ F, fieldOf t.fields nm = F := ⟨_, rfl⟩
            have HFX := hide (show t.fields[ix] = F by rw [← hF, fieldOf_at _ _ (by rw [hix]; exact hixl)]; simp only [hix])
            have hokF : okFd types F := by
              rw [← HFX.out]
              exact (((checkSc_iff types).1 HSC.out).2.1 t HTM.out).2.2.2.2.1 _ (List.getElem_mem hixl)
            obtain ⟨nx, hnx⟩ : ∃ nx, typeN types F.of = nx := ⟨_, rfl⟩
            have HFD := hide (show FoundV types o nm F nx from ⟨by rw [HOO.out, HH1.out, hh], by rw [HOO.out, HH2.out, hF], (fun h => by
              have h1 : hasT types F.of = true := by
                rcases hokF.2.2 with h5 | h5
                · exfalso
                  simp only [hasThg, Bool.or_eq_true, decide_eq_true_eq] at h
                  rcases h5.1 with e | e <;> rcases h with e2 | e2 <;> rw [e] at e2 <;> cases e2
                · exact h5.2
              exact ⟨by rw [← hnx, typeN, if_pos h1], h1⟩), okFd_kind hokF⟩)
            have hfl : t.fields.length ≤ 6 := (((checkSc_iff types).1 HSC.out).2.1 t HTM.out).2.2.2.1.2
            have hix0 : (0 : Int) ≤ (ix : Int) := by omega
            have hix1 : (ix : Int) < (t.fields.length : Int) := by omega
            obtain ⟨bf, off, haf, z0, z1, z2⟩ := HFS.out.at ix hixl
            subst haf
            rw [HFX.out] at z0 z1 z2
            subst hxe
            have HTA := hide (fun wx (hk : Same w1 wx) => typeAt_is wx _ types F.of anyB (HTY.out.same (tra HK1.out hk)) nx hnx)
            clear hx hh hix hF hokF hnx
            have hxn : ¬ (ix : Int) < 0 := by omega
            have HFA2 := hide (HFA.out 1)
            go_wp2_with fail
            go_region_held3 (fun w' => w'.cell? ⟨bt, ot + i * 2 + 1, none⟩ = some (.slice (some ⟨bf, off, none⟩) t.fields.length cft) ∧ w'.cell? ⟨gs, 1, none⟩ = some (.string ⟨nm.toArray⟩)) (go_keep)
              ((go_at_call 54; refine (HFA2.out).mono ?_; rintro e wn ⟨rfl, hwn⟩; have hKn : Same w1 wn := (show Same w1 wn by rw [hwn]; exact (Kept.refl _ _).drewN 1); have y1 := hKn.cell y1 (fun f => f); have q0 := hKn.cell q0 (fun f => f); have q1 := hKn.cell q1 (fun f => f); have q2 := hKn.cell q2 (fun f => f); have q3 := hKn.cell q3 (fun f => f); have z0 := hKn.cell z0 (fun f => f); have z1 := hKn.cell z1 (fun f => f); have z2 := hKn.cell z2 (fun f => f); clear hwn))
            have hgsn : gs < wn.heap.size := by have := hKn.size; omega
            go_wp2_with fail
            go_region
            go_wp2_with fail
            refine (HTA.out _ (by repeat' (first | assumption | exact Kept.refl _ _ | refine Kept.drewN ?_ _ | refine Kept.drew ?_ | refine Kept.alloc ?_ _ | refine Kept.setB ?_ _ _))).mono ?_
            rintro e w4 ⟨rfl, hw4⟩
            rw [hw4]
            clear hw4
            go_wp2_with fail
            go_meet
            case rel => exact ⟨F, nx, rfl, by congr 1, by simp, HFD.out, (by repeat' (first | assumption | exact Kept.refl _ _ | refine Kept.drewN ?_ _ | refine Kept.drew ?_ | refine Kept.alloc ?_ _ | refine Kept.setB ?_ _ _))⟩
      case rest =>
      obtain ⟨F, nx, rfl, rfl, rfl, HFD, HKc⟩ := hcut
      have HK2 := hide (tra HK1.out HKc.out)
      have HB2 := hide (blk_kept HBS.out HKc.out (fun f => f))
      obtain ⟨w2, hw2⟩ : ∃ w2, w2 = wc := ⟨_, rfl⟩
      subst hw2
      have HOA := hide (show o.arg = bFirst ∧ o.low = 0 ∧ o.high = 999999999 by rw [HOO.out]; exact ⟨rfl, rfl, rfl⟩)
      obtain ⟨mn, hmn⟩ : ∃ mn, decide (F.kind = 4) = mn := ⟨_, rfl⟩
      obtain ⟨lf, hlf⟩ : ∃ lf, decide (F.kind < 3) = lf := ⟨_, rfl⟩
      rw [hmn, hlf]
      have HMN := hide hmn
      have HLF := hide hlf
      clear hmn hlf q0 q1 q2 q3 y0 y1 hgs1
      go_wp2_with fail
      go_loopg [14] args.length (fun gg kv wr => ∃ tt : Nat, tt + gg = args.length ∧ kv = .int .i64 tt ∧ Hid (wrongAgs o F args = wrongAgs o F (args.drop tt)) ∧ Hid (Same w2 wr))
      case atStart => exact ⟨0, by omega, rfl, rfl, Kept.refl _ _⟩
      case round =>
        obtain ⟨tt, htt, rfl, HWA, HKr2⟩ := hrel
        obtain ⟨q0, q1, q2, q3⟩ := cells4 (blk_kept HB2.out HKr2.out (fun f => f))
        have hgs1 : gs < wr.heap.size := (Array.getElem?_eq_some_iff.1 (blk_kept HB2.out HKr2.out (fun f => f))).1
        have HKw := hide (tra HK2.out HKr2.out)
        by_cases hlt2 : tt < args.length
        · obtain ⟨ba, oa, hba, c0, c1, c2, c3⟩ := (HARG.out.same HKw.out).at tt hlt2
          subst hba
          have HST := hide (wrongAgs_step o F args tt hlt2)
          have HALE := hide (HAL.out args[tt] (List.getElem_mem hlt2))
          obtain ⟨a, hae⟩ : ∃ a, a = args[tt] := ⟨_, rfl⟩
          rw [← hae] at HST c0 c1 c2 c3 HALE
          clear hae
          have HBAD := hide (show ∀ x, wrongAg o F a = x → x ≠ 0 → fitsV types o f = x from fun x hx h0 => by
            rw [HFV.out]
            exact fitsV_bad (taken_ea HFD.out.has (by rw [HFD.out.is, HWA.out, HST.out, hx, if_pos h0]) h0).1 h0)
          have HKA := hide (show ∀ ob, Same w (wr.alloc ob) from fun ob => HKw.out.alloc ob)
          by_cases hnm : a.name = bFirst
          · cases mn
            · have HE := hide (HBAD.out 5 (by rw [wrongAg, if_pos (.inr (of_decide_eq_false HMN.out))]) (by decide))
              rw [hnm] at c0
              clear hnm
              go_wp2_with fail
              go_ret
              exact ⟨ret_int HE.out.symm, HKA.out _⟩
            · have HNP := hide (show ¬ (a.name ≠ o.arg ∨ F.kind ≠ 4) from fun e => e.elim (fun e => e (by rw [hnm, HOA.out.1])) (fun e => e (of_decide_eq_true HMN.out)))
              rw [hnm] at c0
              clear hnm
              cases htx : a.isText
              · rw [htx] at c1
                by_cases hn0 : a.n < 0
                · have HE := hide (HBAD.out 3 (by rw [wrongAg, if_neg HNP.out, if_neg (by rw [htx]; simp), if_pos (.inl (by rw [HOA.out.2.1]; exact hn0))]) (by decide))
                  go_wp2_with fail
                  go_ret
                  exact ⟨ret_int HE.out.symm, HKA.out _⟩
                · have HGO := hide (show wrongAgs o F args = wrongAgs o F (args.drop (tt + 1)) by
                    rw [HWA.out, HST.out, if_neg]
                    rw [wrongAg, if_neg HNP.out, if_neg (by rw [htx]; simp), if_neg]
                    · simp
                    · rw [HOA.out.2.1, HOA.out.2.2]
                      have := (HALE.out htx).2
                      omega)
                  go_wp2_with fail
                  go_roundg (gk - 1)
                  case measure => omega
                  case rel => exact ⟨tt + 1, by omega, by go_num, HGO.out, HKr2.out.alloc _⟩
              · have HE := hide (HBAD.out 7 (by rw [wrongAg, if_neg HNP.out, if_pos htx]) (by decide))
                rw [htx] at c1
                go_wp2_with fail
                go_ret
                exact ⟨ret_int HE.out.symm, HKA.out _⟩
          · have HE := hide (HBAD.out 5 (by rw [wrongAg, if_pos (.inl (by rw [HOA.out.1]; exact hnm))]) (by decide))
            have hnb : (a.name == [102, 105, 114, 115, 116]) = false := by simpa using hnm
            clear hnm
            go_wp2_with fail
            go_ret
            exact ⟨ret_int HE.out.symm, HKA.out _⟩
        · have HW0 := hide (show wrongAgs o (fieldOf o.fields nm) args = 0 by rw [HFD.out.is, HWA.out, List.drop_eq_nil_of_le (by omega)]; rfl)
          have HLV := hide (leafV HFD.out.kind)
          rw [HLF.out] at HLV
          cases lf
          · -- it has things
            by_cases hk0 : k.len = 0
            · have HE := hide (show fitsV types o f = 4 by
                rw [HFV.out]
                exact fitsV_bad (taken_e4 HFD.out.has HW0.out (by rw [HFD.out.is, HLV.out, hk0]; simp)).1 (by decide))
              have hk0b : ((k.len : Int) == 0) = true := by simp [hk0]
              clear hk0
              go_wp2_with fail
              go_ret
              exact ⟨ret_int HE.out.symm, HKw.out⟩
            · have HTK := hide (show takenE o nm args k.len = 0 from (taken_ok HFD.out.has HW0.out (by rw [HFD.out.is, HLV.out]; simp; omega)).1)
              have hk0b : ((k.len : Int) == 0) = false := by simp; omega
              obtain ⟨hnx1, hnx2⟩ := HFD.out.next (by rw [HLV.out]; rfl)
              obtain ⟨ix, hix⟩ : ∃ ix, typeIx types F.of = ix := ⟨_, rfl⟩
              have hixl : ix < types.length := by rw [← hix]; exact typeIx_lt hnx2
              have hty2 : typeOf types (fieldOf o.fields nm).of = types[ix] := by rw [HFD.out.is, typeOf_at _ _ (typeIx_lt hnx2)]; simp only [hix]
              obtain ⟨K, hK⟩ : ∃ K, fitsV types (ofTypeV types[ix]) k = K := ⟨_, rfl⟩
              have HN := hide (show fitsV types o f = if K ≠ 0 then K else fitsV types o r by rw [HFV.out]; exact fitsV_kid K HTK.out hk0 (by rw [hty2]; exact hK))
              have hrec := HIH.out k.size' HKM.out k rfl wr (.slice ak1 k.len ck1) _ ct types ix hixl [] (HTY.out.same HKw.out) HSC.out (HKID.out.same HKw.out) HWK.out
              rw [hK] at hrec
              have HREC := hide hrec
              rw [hix] at hnx1
              subst hnx1
              clear hrec hK hty2 hix hnx2 hk0
              go_wp2_with fail
              refine HREC.out.mono ?_
              rintro e w5 ⟨rfl, hK5⟩
              by_cases hK0 : K = 0
              · subst hK0
                have HNN := hide (show fitsV types o f = fitsV types o r by rw [HN.out]; rfl)
                go_wp2_with fail
                go_roundg (G - 1)
                case measure => omega
                case rel => exact ⟨j + 1, appS p (.cons al nm args k .nil), r, _, by omega, by omega, by omega, by omega, by go_num, HNX.out.1, HNX.out.2, tra HKw.out hK5, HNN.out, HWR.out⟩
              · have HNN := hide (show fitsV types o f = K by rw [HN.out, if_pos hK0])
                have hKb : (K != 0) = true := by simp [hK0]
                clear hK0
                go_wp2_with fail
                go_ret
                exact ⟨ret_int HNN.out.symm, tra HKw.out hK5⟩
          · -- a leaf
            by_cases hk0 : k.len = 0
            · have HTK := hide (show takenE o nm args k.len = 0 from (taken_ok HFD.out.has HW0.out (by rw [HFD.out.is, HLV.out, hk0]; rfl)).1)
              have HNN := hide (show fitsV types o f = fitsV types o r by rw [HFV.out]; exact fitsV_leaf HTK.out hk0)
              have hk0b : ((k.len : Int) == 0) = true := by simp [hk0]
              clear hk0
              go_wp2_with fail
              go_roundg (G - 1)
              case measure => omega
              case rel => exact ⟨j + 1, appS p (.cons al nm args k .nil), r, _, by omega, by omega, by omega, by omega, by go_num, HNX.out.1, HNX.out.2, HKw.out, HNN.out, HWR.out⟩
            · have HE := hide (show fitsV types o f = 4 by
                rw [HFV.out]
                exact fitsV_bad (taken_e4 HFD.out.has HW0.out (by rw [HFD.out.is, HLV.out]; simp; omega)).1 (by decide))
              have hk0b : ((k.len : Int) == 0) = false := by simp; omega
              clear hk0
              go_wp2_with fail
              go_ret
              exact ⟨ret_int HE.out.symm, HKw.out⟩

theorem rfits_any (m : Nat) : RF m := by
  induction m using Nat.strongRecOn with
  | ind m ih => exact rfits_step m ih

end Go.Proofs.Ytkkjchfhgjfclac
