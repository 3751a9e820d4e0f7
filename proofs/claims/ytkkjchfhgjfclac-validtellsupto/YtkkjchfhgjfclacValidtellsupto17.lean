import Derived.Test.YtkkjchfhgjfclacValidtellsupto13
/- query.wrongList, query.Check, whatever they are handed. -/
namespace Go.Proofs.Ytkkjchfhgjfclac
open Go.RowKit

theorem wrongQ_of (seen : List (List UInt8)) (al nm : List UInt8) (args : List ArgT) (k r : Sels) (m mk : Int) (q : Bool) (h1 : wrongS al nm args = m) (h2 : seenC seen (calledQ al nm) = q) (h3 : wrongQ [] k = mk) :
    wrongQ seen (.cons al nm args k r) = if m ≠ 0 then m else if q then 6 else if mk ≠ 0 then mk else wrongQ (seen ++ [calledQ al nm]) r := by rw [wrongQ, h1, show seen.contains (calledQ al nm) = q from h2, h3]

set_option maxRecDepth 20000 in
set_option maxHeartbeats 3200000 in
theorem wrongList_any (m : Nat) : ∀ (f : Sels), f.size' ≤ m → f.size' ≤ 40 → ∀ (w : World) (v : Value), SelSl w v f →
    Calls Try.prog 60 #[v] w fun e w' => e = .returned (.int .i64 (wrongQ [] f)) ∧ Same w w' := by
  induction m with
  | zero =>
    intro f hf _ w v hv
    obtain ⟨ao, cap, rfl, hlen, hs⟩ := hv
    cases f with
    | cons al nm args k r => simp [Sels.size'] at hf
    | nil =>
      go_enter Try.func60, Try.ntmps60
      go_wp2_with fail
      go_loopg [10] 1 (fun g i wr => wr = w ∧ i = .int .i64 0)
      case atStart => exact ⟨rfl, rfl⟩
      case round =>
        obtain ⟨rfl, rfl⟩ := hrel
        simp only [Sels.len]
        go_wp2_with fail
        go_ret
        exact ⟨rfl, Kept.refl _ _⟩
  | succ m ih =>
    intro f hf h40 w v hv
    obtain ⟨ao, cap, rfl, hlen, hs⟩ := hv
    have hmf : ∀ (fn : Fn) (first cap : Array Value) (w : World), (Instr.makeFunc fn first cap).run Try.prog w = .ok (.func fn first cap) w := fun _ _ _ _ => rfl
    have hlen40 : f.len ≤ 40 := by
      have : ∀ s : Sels, s.len ≤ s.size' := by
        intro s
        induction s with
        | nil => simp [Sels.len]
        | cons al nm args k r _ ih => rw [Sels.len, Sels.size']; omega
      have := this f
      omega
    have hcap := hlen.2
    have IH := hide ih
    have HS0 := hide hs
    clear ih hs hlen
    go_enter Try.func60, Try.ntmps60
    go_wp2_with fail
    go_loopg [10] f.len (fun g i wr => ∃ (j : Nat) (p s : Sels), s.len ≤ g ∧ g ≤ s.len ∧ j + s.len ≤ f.len ∧ f.len ≤ j + s.len ∧ i = .int .i64 j ∧ Hid (p.len = j) ∧ Hid (f = appS p s) ∧ Hid (Same w wr) ∧ Hid (wrongQ [] f = wrongQ (callsQ p) s))
    case atStart => exact ⟨0, .nil, f, Nat.le_refl _, Nat.le_refl _, by omega, by omega, rfl, rfl, rfl, Kept.refl _ _, rfl⟩
    case round =>
      obtain ⟨j, p, s, hg1, hg2, hj1, hj2, rfl, HPL, HFP, HKr, HE⟩ := hrel
      cases s with
      | nil =>
        simp only [Sels.len] at hg1 hg2 hj1 hj2
        go_wp2_with fail
        go_ret
        exact ⟨ret_int (by rw [HE.out]; rfl), HKr.out⟩
      | cons al nm args k r =>
        simp only [Sels.len] at hg1 hg2 hj1 hj2
        have hsz : k.size' ≤ m ∧ k.size' ≤ 40 := by
          have h1 := congrArg Sels.size' HFP.out
          rw [appS_size, Sels.size'] at h1
          omega
        obtain ⟨hsz1, hsz2⟩ := hsz
        obtain ⟨b, o, rfl, hat⟩ : ∃ b o, ao = some ⟨b, o, none⟩ ∧ SelAt w f b o := by
          rcases HS0.out with h | ⟨b, o, e, h⟩
          · rw [h] at hj1; simp [Sels.len] at hj1
          · exact ⟨b, o, e, h⟩
        rw [HFP.out] at hat
        obtain ⟨hp, h0, h1, ⟨va, h2, ha⟩, ⟨ao', cap', h3, hl3, hs3⟩, hr⟩ := selAt_app p _ _ hat
        rw [HPL.out] at h0 h1 h2 h3
        obtain ⟨aoa, capa, rfl, _, _⟩ := id ha
        have d0 := HKr.out.cell h0 (fun f => f)
        have d1 := HKr.out.cell h1 (fun f => f)
        have d2 := HKr.out.cell h2 (fun f => f)
        have d3 := HKr.out.cell h3 (fun f => f)
        have HPS := hide (show SelSl w (.slice (some ⟨b, o, none⟩) j cap) p from ⟨_, _, by rw [HPL.out], ⟨by rw [HPL.out]; unfold maxLen; omega, by rw [HPL.out]; omega⟩, .inr ⟨b, o, rfl, hp⟩⟩)
        have HKS := hide (show SelSl w (.slice ao' k.len cap') k from ⟨ao', cap', rfl, hl3, hs3⟩)
        have HARG := hide ha
        obtain ⟨ms, hms⟩ : ∃ ms, wrongS al nm args = ms := ⟨_, rfl⟩
        obtain ⟨q, hq⟩ : ∃ q, seenC (callsQ p) (calledQ al nm) = q := ⟨_, rfl⟩
        obtain ⟨mk, hmk⟩ : ∃ mk, wrongQ [] k = mk := ⟨_, rfl⟩
        have HW := hide (HE.out.trans (wrongQ_of (callsQ p) al nm args k r ms mk q hms hq hmk))
        have hws := fun w1 (hk : Same w w1) => wrongSelect_any w1 al nm args _ ao' k.len cap' (HARG.out.same hk)
        rw [hms] at hws
        have HWS := hide hws
        have hpl40 : p.len ≤ 1000 := by have := HPL.out; omega
        have HCS := hide (fun w1 (hk : Same w w1) g hb => containsSels_is w1 _ p g al nm aoa ao' args.length k.len capa cap' (HPS.out.same hk) hpl40 hb q hq)
        have hwk := fun w1 (hk : Same w w1) => IH.out k hsz1 hsz2 w1 _ (HKS.out.same hk)
        rw [hmk] at hwk
        have HWK := hide hwk
        clear hat hp h0 h1 h2 h3 hl3 hs3 hr ha hms hq hmk hws hwk hpl40
        go_wp2_with fail
        refine (HWS.out _ (HKr.out.alloc _)).mono ?_
        rintro e w1 ⟨rfl, hK1⟩
        have hb1 := new_kept hK1 (fun f => f)
        have hKa : Same w w1 := tra (HKr.out.alloc _) hK1
        have hw1 : wr.heap.size < w1.heap.size := (Array.getElem?_eq_some_iff.1 hb1).1
        clear hK1
        by_cases hm0 : ms = 0
        · subst hm0
          have HC1 := hide (HCS.out w1 hKa wr.heap.size hb1)
          have hjc : (j : Int) ≤ cap := by omega
          go_wp2_with fail
          refine HC1.out.mono ?_
          rintro e w2 ⟨rfl, hK2⟩
          have hKb : Same w w2 := tra hKa hK2
          have hb2 := (hK2.block wr.heap.size hw1 (fun f => f)).trans hb1
          obtain ⟨p0, p1, p2, p3⟩ := cells4 hb2
          cases q
          · have HK2 := hide (HWK.out w2 hKb)
            go_wp2_with fail
            refine HK2.out.mono ?_
            rintro e w3 ⟨rfl, hK3⟩
            by_cases hk0 : mk = 0
            · have HN := hide (show wrongQ [] f = wrongQ (callsQ (appS p (.cons al nm args k .nil))) r by rw [HW.out, hk0, appS_calls]; rfl)
              subst hk0
              go_wp2_with fail
              go_roundg (gk - 1)
              case measure => omega
              case rel => exact ⟨j + 1, appS p (.cons al nm args k .nil), r, by omega, by omega, by omega, by omega, by go_num, by rw [Hid, appS_len, HPL.out]; rfl, by rw [Hid, appS_snoc]; exact HFP.out, tra hKb hK3, HN⟩
            · have hk1 : (mk != 0) = true := by simp [hk0]
              have HN := hide (show wrongQ [] f = mk by rw [HW.out, if_neg (by simp), if_neg (by simp), if_pos hk0])
              clear hk0
              go_wp2_with fail
              go_ret
              exact ⟨ret_int HN.out.symm, tra hKb hK3⟩
          · have HN := hide (show wrongQ [] f = 6 by rw [HW.out]; rfl)
            go_wp2_with fail
            go_ret
            exact ⟨ret_int HN.out.symm, hKb⟩
        · have hm1 : (ms != 0) = true := by simp [hm0]
          have HN := hide (show wrongQ [] f = ms by rw [HW.out, if_pos hm0])
          clear hm0
          go_wp2_with fail
          go_ret
          exact ⟨ret_int HN.out.symm, hKa⟩

end Go.Proofs.Ytkkjchfhgjfclac

/- query.Check, whatever it is handed. -/
namespace Go.Proofs.Ytkkjchfhgjfclac
open Go.RowKit

theorem size_eq (f : Sels) : f.size = f.size' := by
  induction f with
  | nil => rfl
  | cons al nm args k r h1 h2 => rw [Sels.size, Sels.size', h1, h2]

theorem checkQ_none {f : Sels} (h : f.len = 0) : checkQ f = 5 := by rw [checkQ, if_pos h]
theorem checkQ_many {f : Sels} (h : f.len ≠ 0) (h2 : fitsQ f 1 40 = none) : checkQ f = 2 := by rw [checkQ, if_neg h, if_pos h2]
theorem checkQ_rest {f : Sels} {n : Nat} (h : f.len ≠ 0) (h2 : fitsQ f 1 40 = some n) : checkQ f = wrongQ [] f := by rw [checkQ, if_neg h, if_neg (by rw [h2]; simp)]

set_option maxRecDepth 20000 in
set_option maxHeartbeats 800000 in
theorem qCheck_any (w : World) (v : Value) (f : Sels) (h : SelSl w v f) :
    Calls Try.prog 32 #[v] w fun e w' => e = .returned (.int .i64 (checkQ f)) ∧ Same w w' := by
  obtain ⟨ao, cap, rfl, hlen, _⟩ := id h
  have hlen2 : f.len ≤ 9223372036854775807 := hlen.1
  clear hlen
  by_cases hz : f.len = 0
  · have HN := hide (checkQ_none hz)
    rw [hz]
    clear hz hlen2 h
    go_enter Try.func32, Try.ntmps32
    go_wp2_with fail
    go_ret
    exact ⟨ret_int HN.out.symm, (by repeat' (first | assumption | exact Kept.refl _ _ | refine Kept.drewN ?_ _ | refine Kept.drew ?_ | refine Kept.alloc ?_ _ | refine Kept.setB ?_ _ _))⟩
  · have hz' : ((f.len : Int) == 0) = false := beq_eq_false_iff_ne.2 (by omega)
    have HZ := hide hz
    have HF := hide (fits_any f.size f (Nat.le_refl _) w (w.alloc (.cells #[.int .i64 40] 3)) _ w.heap.size 1 40 h (Nat.le_refl _) ((Kept.refl _ w).alloc _) (heap_alloc_new w _) (by omega) (by omega))
    have HH := hide h
    clear hz h
    go_enter Try.func32, Try.ntmps32
    go_wp2_with fail
    refine HF.out.mono ?_
    rintro e w1 (⟨n, hn, hn40, rfl, hL, hK⟩ | ⟨hn, rfl, hK⟩)
    · have hKa : Same w w1 := ((Kept.refl _ w).alloc _).trans hK (fun k hk e => by omega)
      have HE := hide (checkQ_rest HZ.out hn)
      have hs40 : f.size' ≤ 40 := by
        obtain ⟨_, h2⟩ := (fits_iff _ _ _ _).1 hn
        omega
      have HW := hide (wrongList_any f.size' f (Nat.le_refl _) hs40 w1 _ (HH.out.same hKa))
      clear hn hL hK
      go_wp2_with fail
      refine HW.out.mono ?_
      rintro e w2 ⟨rfl, hK2⟩
      go_wp2_with fail
      go_ret
      exact ⟨ret_int HE.out.symm, tra hKa hK2⟩
    · have hKa : Same w w1 := ((Kept.refl _ w).alloc _).trans hK (fun k hk e => by omega)
      have HE := hide (checkQ_many HZ.out hn)
      clear hn hK
      go_wp2_with fail
      go_ret
      exact ⟨ret_int HE.out.symm, hKa⟩

end Go.Proofs.Ytkkjchfhgjfclac
