import Derived.Test.YthiagmhijebbgaaGreatDoorQuerytellsupto33
import Derived.Test.YthiagmhijebbgaaGreatDoorQuerytellsupto28
import Derived.Test.YthiagmhijebbgaaGreatDoorQuerytellsupto30
import Derived.Deep.CutRange
import Derived.Test.YthiagmhijebbgaaGreatDoorQuerytellsupto01
import Derived.Test.YthiagmhijebbgaaGreatDoorQuerytellsupto13
/- Walks of the document's own functions: TokenBytes. -/
namespace Go.Proofs.YthiagmhijebbgaaGreatDoor
open Go.RowKit

theorem take_toks (l : List Tok) (k : Nat) (h : k < l.length) : l.take (k + 1) = l.take k ++ [l[k]] := List.take_succ_eq_append_getElem h

theorem rQuoted_le (w : World) (s : ByteArray) (hs : s.size ≤ 40) :
    Calls Tryz.prog 29 #[.string s] w fun e w' => ∃ b : ByteArray, e = .returned (.string b) ∧ b.data.toList = quoteL s.data.toList ∧ w' = w := rQuoted_any w s (by omega)

set_option maxRecDepth 20000 in
set_option maxHeartbeats 3200000 in
theorem rBytes_big (w : World) (v : Value) (l : List Tok) (h : TokSl w v l) (hlen : l.length ≤ 100000) (hck : checkF l = 0) :
    Calls Tryz.prog 11 #[v] w fun e w' => ∃ b : ByteArray, e = .returned (.string b) ∧ b.data.toList = printF l ∧ Same w w' := by
  obtain ⟨ao, cap, rfl, hl, hc⟩ := id h
  clear hc
  have hall : Hid (∀ i (hi : i < l.length), wrongT l[i] = 0) := checkF_all l hck
  clear hck hl
  go_enter Tryz.func11, Tryz.ntmps11
  go_wp2_with fail
  go_loopg [3, 4] l.length (fun g cur i wr => ∃ (k : Nat) (b : ByteArray), k + g = l.length ∧ i = .int .i64 k ∧ cur = .string b ∧ b.size ≤ 101 * k ∧ Same w wr ∧ Hid (b.data.toList = printF (l.take k)))
  case atStart => exact ⟨0, ⟨#[]⟩, by omega, rfl, rfl, by decide, Kept.refl _ _, by simp [Hid, printF]⟩
  case round =>
    obtain ⟨k, b, hk, rfl, rfl, hb, hK, HB⟩ := hrel
    by_cases hlt : k < l.length
    · obtain ⟨bl, off, rfl, c0, c1, c2⟩ := (h.same hK).at k hlt
      have hr := hall.out k hlt
      have HS : Hid (printF (l.take (k + 1)) = if l.take k = [] then writtenT l[k] else printF (l.take k) ++ 32 :: writtenT l[k]) := by rw [take_toks l k hlt]; exact printF_snoc _ _
      obtain ⟨tk, ts, tn, et⟩ : ∃ (tk : Int) (ts : ByteArray) (tn : Int), l[k] = ⟨tk, ts.data.toList, tn⟩ := ⟨l[k].k, ⟨l[k].s.toArray⟩, l[k].n, by simp⟩
      rw [et] at HS c0 c1 c2 hr
      simp only [Array.toArray_toList] at c0 c1 c2
      clear et
      obtain ⟨r1, r2, r3, r4⟩ := right_tok _ hr
      simp only at r1 r2 r3
      have hz := size_toList ts
      have rz : ts.size ≤ 40 := by omega
      obtain ⟨wt, hwt⟩ : ∃ wt, writtenT ⟨tk, ts.data.toList, tn⟩ = wt := ⟨_, rfl⟩
      rw [hwt] at HS r4
      have HWT := hide hwt
      clear hr r1 hz hwt
      rcases (show tk = 2 ∨ tk = 3 ∨ (tk ≠ 2 ∧ tk ≠ 3) from by omega) with rfl | rfl | ⟨n2, n3⟩
      · have HD := hide (fun w => digits_any tn r2 r3 w)
        have HW2 := hide (show Lib.itoa tn = wt by rw [← HWT.out]; rfl)
        by_cases h0 : 0 < k
        · have HP := hide (show printF (l.take (k + 1)) = printF (l.take k) ++ 32 :: wt by rw [HS.out, if_neg (take_ne h0 hlt)])
          go_wp2_with fail
          refine (HD.out _).mono ?_
          rintro e w1 ⟨b1, rfl, hb1, hK1⟩
          have hz1 := size_toList b1
          rw [hb1, HW2.out] at hz1
          have s1 : b1.size ≤ 100 := by omega
          have HB1 := hide hb1
          clear hb1 hz1
          go_wp2_with fail
          go_roundg (gk - 1)
          case measure => omega
          case rel => exact ⟨k + 1, b ++ ⟨#[32]⟩ ++ b1, by omega, by go_num, rfl, by rw [ByteArray.size_append, ByteArray.size_append]; have : (⟨#[32]⟩ : ByteArray).size = 1 := rfl; omega, hK.trans hK1 (fun _ _ f => f.elim), by rw [Hid, app_bytes, app_bytes, HB.out, HP.out, HB1.out, HW2.out]; simp⟩
        · have HP := hide (show printF (l.take (k + 1)) = printF (l.take k) ++ wt by
            have h00 : l.take k = [] := by rw [show k = 0 from by omega]; rfl
            rw [HS.out, if_pos h00, h00]; rfl)
          go_wp2_with fail
          refine (HD.out _).mono ?_
          rintro e w1 ⟨b1, rfl, hb1, hK1⟩
          have hz1 := size_toList b1
          rw [hb1, HW2.out] at hz1
          have s1 : b1.size ≤ 100 := by omega
          have HB1 := hide hb1
          clear hb1 hz1
          go_wp2_with fail
          go_roundg (gk - 1)
          case measure => omega
          case rel => exact ⟨k + 1, b ++ b1, by omega, by go_num, rfl, by rw [ByteArray.size_append]; omega, hK.trans hK1 (fun _ _ f => f.elim), by rw [Hid, app_bytes, HB.out, HP.out, HB1.out, HW2.out]⟩
      · have HD := hide (fun w => rQuoted_le w ts rz)
        have HW2 := hide (show quoteL ts.data.toList = wt by rw [← HWT.out]; rfl)
        by_cases h0 : 0 < k
        · have HP := hide (show printF (l.take (k + 1)) = printF (l.take k) ++ 32 :: wt by rw [HS.out, if_neg (take_ne h0 hlt)])
          go_wp2_with fail
          refine (HD.out _).mono ?_
          rintro e w1 ⟨b1, rfl, hb1, rfl⟩
          have hz1 := size_toList b1
          rw [hb1, HW2.out] at hz1
          have s1 : b1.size ≤ 100 := by omega
          have HB1 := hide hb1
          clear hb1 hz1
          go_wp2_with fail
          go_roundg (gk - 1)
          case measure => omega
          case rel => exact ⟨k + 1, b ++ ⟨#[32]⟩ ++ b1, by omega, by go_num, rfl, by rw [ByteArray.size_append, ByteArray.size_append]; have : (⟨#[32]⟩ : ByteArray).size = 1 := rfl; omega, hK, by rw [Hid, app_bytes, app_bytes, HB.out, HP.out, HB1.out, HW2.out]; simp⟩
        · have HP := hide (show printF (l.take (k + 1)) = printF (l.take k) ++ wt by
            have h00 : l.take k = [] := by rw [show k = 0 from by omega]; rfl
            rw [HS.out, if_pos h00, h00]; rfl)
          go_wp2_with fail
          refine (HD.out _).mono ?_
          rintro e w1 ⟨b1, rfl, hb1, rfl⟩
          have hz1 := size_toList b1
          rw [hb1, HW2.out] at hz1
          have s1 : b1.size ≤ 100 := by omega
          have HB1 := hide hb1
          clear hb1 hz1
          go_wp2_with fail
          go_roundg (gk - 1)
          case measure => omega
          case rel => exact ⟨k + 1, b ++ b1, by omega, by go_num, rfl, by rw [ByteArray.size_append]; omega, hK, by rw [Hid, app_bytes, HB.out, HP.out, HB1.out, HW2.out]⟩
      · have e2 : (tk == 2) = false := by simp [n2]
        have e3 : (tk == 3) = false := by simp [n3]
        have HW2 := hide (show ts.data.toList = wt by rw [← HWT.out]; unfold writtenT; rw [if_neg n2, if_neg n3])
        clear n2 n3
        by_cases h0 : 0 < k
        · have HP := hide (show printF (l.take (k + 1)) = printF (l.take k) ++ 32 :: wt by rw [HS.out, if_neg (take_ne h0 hlt)])
          go_wp2_with fail
          go_roundg (gk - 1)
          case measure => omega
          case rel => exact ⟨k + 1, b ++ ⟨#[32]⟩ ++ ts, by omega, by go_num, rfl, by rw [ByteArray.size_append, ByteArray.size_append]; have : (⟨#[32]⟩ : ByteArray).size = 1 := rfl; omega, hK, by rw [Hid, app_bytes, app_bytes, HB.out, HP.out, HW2.out]; simp⟩
        · have HP := hide (show printF (l.take (k + 1)) = printF (l.take k) ++ wt by
            have h00 : l.take k = [] := by rw [show k = 0 from by omega]; rfl
            rw [HS.out, if_pos h00, h00]; rfl)
          go_wp2_with fail
          go_roundg (gk - 1)
          case measure => omega
          case rel => exact ⟨k + 1, b ++ ts, by omega, by go_num, rfl, by rw [ByteArray.size_append]; omega, hK, by rw [Hid, app_bytes, HB.out, HP.out, HW2.out]⟩
    · go_wp2_with fail
      go_ret
      exact ⟨b, rfl, by rw [HB.out, List.take_of_length_le (by omega)], hK⟩

theorem rBytes_any (w : World) (v : Value) (l : List Tok) (h : TokSl w v l) (hck : lexCheck l = 0) :
    Calls Tryz.prog 11 #[v] w fun e w' => ∃ b : ByteArray, e = .returned (.string b) ∧ b.data.toList = printF l ∧ Same w w' := by
  have hlen : l.length ≤ 300 := by
    unfold lexCheck at hck
    split at hck
    · exact absurd hck (by decide)
    · omega
  unfold lexCheck at hck
  rw [if_neg (by omega)] at hck
  exact rBytes_big w v l h (by omega) hck

end Go.Proofs.YthiagmhijebbgaaGreatDoor

/- The reference's countSelects, of selects that are not beyond all bounds. -/
namespace Go.Proofs.YthiagmhijebbgaaGreatDoor
open Go.RowKit

def kidsQ : Sels → Nat → Nat
  | .nil, _ => 0
  | .cons _ _ _ k r, d => (if 5 < d then 0 else k.len + kidsQ k (d + 1)) + kidsQ r d
def mostQ : Sels → Nat → Nat
  | .nil, _ => 0
  | .cons _ _ _ k r, d => max (max d (if 5 < d then 0 else mostQ k (d + 1))) (mostQ r d)

theorem kidsQ_app (a b : Sels) (d : Nat) : kidsQ (appS a b) d = kidsQ a d + kidsQ b d := by
  induction a with
  | nil => simp [appS, kidsQ]
  | cons al nm args k r _ ih => rw [appS, kidsQ, kidsQ, ih]; omega
theorem mostQ_app (a b : Sels) (d : Nat) : mostQ (appS a b) d = max (mostQ a d) (mostQ b d) := by
  induction a with
  | nil => simp [appS, mostQ]
  | cons al nm args k r _ ih => rw [appS, mostQ, mostQ, ih]; omega
theorem kidsQ_le (s : Sels) : ∀ d, s.len + kidsQ s d ≤ s.size' := by
  induction s with
  | nil => intro d; simp [kidsQ, Sels.len, Sels.size']
  | cons al nm args k r ihk ihr =>
    intro d
    have h1 := ihr d
    rw [kidsQ, Sels.len, Sels.size']
    by_cases h : 5 < d
    · rw [if_pos h]; omega
    · rw [if_neg h]
      have h2 := ihk (d + 1)
      omega
theorem mostQ_le (s : Sels) : ∀ d, d ≤ 6 → mostQ s d ≤ 6 := by
  induction s with
  | nil => intro d _; simp [mostQ]
  | cons al nm args k r ihk ihr =>
    intro d hd
    have h1 := ihr d hd
    rw [mostQ]
    by_cases h : 5 < d
    · rw [if_pos h]; omega
    · rw [if_neg h]
      have h2 := ihk (d + 1) (by omega)
      omega
theorem mostQ_iff (s : Sels) : ∀ d, mostQ s d ≤ 5 ↔ okD d s := by
  induction s with
  | nil => intro d; simp [mostQ, okD]
  | cons al nm args k r ihk ihr =>
    intro d
    rw [mostQ, okD, ← ihk, ← ihr]
    by_cases h : 5 < d
    · rw [if_pos h]; omega
    · rw [if_neg h]; omega
theorem kidsQ_all (s : Sels) : ∀ d, okD d s → s.len + kidsQ s d = s.size' := by
  induction s with
  | nil => intro d _; simp [kidsQ, Sels.len, Sels.size']
  | cons al nm args k r ihk ihr =>
    intro d h
    rw [okD] at h
    have h1 := ihr d h.2.2
    have h2 := ihk (d + 1) h.2.1
    rw [kidsQ, Sels.len, Sels.size', if_neg (by omega)]
    omega
/-- too many, or too deep: as the reference says it -/
theorem fits_ref (s : Sels) : fitsQ s 1 40 = none ↔ (40 < s.len + kidsQ s 1 ∨ 5 < mostQ s 1) := by
  have key : (∃ m, fitsQ s 1 40 = some m) ↔ (s.len + kidsQ s 1 ≤ 40 ∧ mostQ s 1 ≤ 5) := by
    constructor
    · rintro ⟨m, hm⟩
      obtain ⟨h1, h2⟩ := (fits_iff s 1 40 m).1 hm
      exact ⟨by rw [kidsQ_all s 1 h1]; omega, (mostQ_iff s 1).2 h1⟩
    · rintro ⟨h1, h2⟩
      have h3 := (mostQ_iff s 1).1 h2
      rw [kidsQ_all s 1 h3] at h1
      exact ⟨40 - s.size', (fits_iff s 1 40 _).2 ⟨h3, by omega⟩⟩
  constructor
  · intro h
    by_cases hh : s.len + kidsQ s 1 ≤ 40 ∧ mostQ s 1 ≤ 5
    · obtain ⟨m, hm⟩ := key.2 hh
      rw [h] at hm; cases hm
    · omega
  · intro h
    cases hf : fitsQ s 1 40 with
    | none => rfl
    | some m =>
      have := key.1 ⟨m, hf⟩
      omega

set_option maxRecDepth 20000 in
set_option maxHeartbeats 3200000 in
theorem count_step (m : Nat) (IH : ∀ m', m' < m → ∀ (f : Sels), f.size' = m' → ∀ (w : World) (v : Value) (d : Nat), d ≤ 6 → f.size' ≤ 4000000 → SelSl w v f →
      Calls Tryz.prog 26 #[v, .int .i64 d] w fun e w' => e = .returned (.tuple #[.int .i64 ((f.len + kidsQ f d : Nat) : Int), .int .i64 ((mostQ f d : Nat) : Int)]) ∧ w' = w)
    (f : Sels) (hm : f.size' = m) (w : World) (v : Value) (d : Nat) (hd : d ≤ 6) (hs : f.size' ≤ 4000000) (h : SelSl w v f) :
    Calls Tryz.prog 26 #[v, .int .i64 d] w fun e w' => e = .returned (.tuple #[.int .i64 ((f.len + kidsQ f d : Nat) : Int), .int .i64 ((mostQ f d : Nat) : Int)]) ∧ w' = w := by
  obtain ⟨ao, cap, rfl, _, _⟩ := id h
  have hfl : f.len ≤ 4000000 := by have := kidsQ_le f d; omega
  have HA := hide h
  have HIH := hide IH
  have HM := hide hm
  have HS := hide hs
  clear h IH hm hs
  go_enter Tryz.func26, Tryz.ntmps26
  go_wp2_with fail
  go_loopg [6, 7, 8] f.len (fun g a b i wr => ∃ (j : Nat) (p x : Sels) (A B : Nat), x.len ≤ g ∧ g ≤ x.len ∧ j + x.len ≤ f.len ∧ f.len ≤ j + x.len ∧ i = .int .i64 j ∧ a = .int .i64 (A : Int) ∧ b = .int .i64 (B : Int) ∧ Hid (p.len = j) ∧ Hid (f = appS p x) ∧ Hid (A = f.len + kidsQ p d) ∧ Hid (B = mostQ p d) ∧ wr = w)
  case atStart => exact ⟨0, .nil, f, f.len, 0, Nat.le_refl _, Nat.le_refl _, by omega, by omega, rfl, rfl, rfl, rfl, rfl, rfl, rfl, rfl⟩
  case round =>
    obtain ⟨j, p, x, A, B, hg1, hg2, hj1, hj2, rfl, rfl, rfl, HPL, HFP, HAA, HBB, rfl⟩ := hrel
    have hAl : A ≤ 4000000 := by
      have h1 := kidsQ_le f d
      have h2 := HAA.out
      have h3 := HS.out
      have h4 := congrArg (fun s => kidsQ s d) HFP.out
      simp only [kidsQ_app] at h4
      omega
    have hBl : B ≤ 6 := by rw [HBB.out]; exact mostQ_le p d hd
    cases x with
    | nil =>
      simp only [Sels.len] at hg1 hg2 hj1 hj2
      have HFN := hide (show f = p by rw [HFP.out]; exact appS_nil p)
      go_wp2_with fail
      have e1 : A = f.len + kidsQ f d := by have := HAA.out; rw [← HFN.out] at this; exact this
      have e2 : B = mostQ f d := by have := HBB.out; rw [← HFN.out] at this; exact this
      go_ret2
      exact ⟨by rw [← e1, ← e2]; rfl, rfl⟩
    | cons al nm args k r =>
      simp only [Sels.len] at hg1 hg2 hj1 hj2
      have hlt : j < f.len := by omega
      obtain ⟨b1, o1, aa1, ca1, ak1, ck1, rfl, p0, p1, p2, p3, ha1, hk1, hal⟩ := selSl_nth HA.out HFP.out j HPL.out
      have HK := hide hk1
      clear ha1 hk1
      have HKM := hide (show k.size' < m ∧ k.size' ≤ 4000000 by
        have h1 := congrArg Sels.size' HFP.out
        have h2 := HS.out
        rw [appS_size, Sels.size'] at h1
        have h3 := HM.out
        omega)
      have HP2 := hide (show kidsQ (appS p (.cons al nm args k .nil)) d = kidsQ p d + (if 5 < d then 0 else k.len + kidsQ k (d + 1)) by rw [kidsQ_app, kidsQ]; simp [kidsQ])
      have HB2 := hide (show mostQ (appS p (.cons al nm args k .nil)) d = max (max (mostQ p d) d) (if 5 < d then 0 else mostQ k (d + 1)) by rw [mostQ_app, mostQ]; simp only [mostQ]; omega)
      go_upto_if 21 with fail
      go_cut [7] from 13 to 42 (fun v wx => v = .int .i64 ((max B d : Nat) : Int) ∧ wx = wr)
      case first =>
        by_cases hbd : B < d
        · go_wp2_with fail
          go_meet
          case rel => exact ⟨by rw [Nat.max_eq_right (by omega)], rfl⟩
        · go_wp2_with fail
          go_meet
          case rel => exact ⟨by rw [Nat.max_eq_left (by omega)], rfl⟩
      case rest =>
      obtain ⟨rfl, hwc⟩ := hcut
      subst hwc
      obtain ⟨C, hC⟩ : ∃ C, C = max B d := ⟨_, rfl⟩
      rw [← hC]
      have hCl : C ≤ 6 := by omega
      have HC := hide hC
      clear hC
      by_cases h5 : 5 < d
      · go_wp2_with fail
        go_roundg (gk - 1)
        case measure => omega
        case rel => exact ⟨j + 1, appS p (.cons al nm args k .nil), r, A, C, by omega, by omega, by omega, by omega, by go_num, rfl, rfl, by rw [Hid, appS_len, HPL.out]; rfl, by rw [Hid, appS_snoc]; exact HFP.out, by rw [Hid, HP2.out, if_pos h5, HAA.out]; rfl, by rw [Hid, HB2.out, if_pos h5, HC.out, HBB.out]; simp, rfl⟩
      · have HREC := hide (HIH.out k.size' HKM.out.1 k rfl wc _ (d + 1) (by omega) HKM.out.2 HK.out)
        have hkc : k.len + kidsQ k (d + 1) ≤ 4000000 := by have h1 := kidsQ_le k (d + 1); have h2 := HKM.out; omega
        have hmk : mostQ k (d + 1) ≤ 6 := mostQ_le k (d + 1) (by omega)
        have HQ := hide (show A + (k.len + kidsQ k (d + 1)) = f.len + kidsQ (appS p (.cons al nm args k .nil)) d by rw [HP2.out, if_neg h5, HAA.out]; omega)
        have HR := hide (show max C (mostQ k (d + 1)) = mostQ (appS p (.cons al nm args k .nil)) d by rw [HB2.out, if_neg h5, HC.out, HBB.out])
        obtain ⟨D, hD⟩ : ∃ D, D = k.len + kidsQ k (d + 1) := ⟨_, rfl⟩
        obtain ⟨E, hE⟩ : ∃ E, E = mostQ k (d + 1) := ⟨_, rfl⟩
        rw [← hD, ← hE] at HREC
        rw [← hD] at HQ hkc
        rw [← hE] at HR hmk
        clear hD hE
        go_wp2_with fail
        refine HREC.out.mono ?_
        rintro e w3 ⟨rfl, hw3⟩
        rw [hw3]
        clear hw3
        by_cases hce : C < E
        · go_wp2_with fail
          go_roundg (gk - 1)
          case measure => omega
          case rel => exact ⟨j + 1, appS p (.cons al nm args k .nil), r, A + D, E, by omega, by omega, by omega, by omega, by go_num, by go_num, rfl, by rw [Hid, appS_len, HPL.out]; rfl, by rw [Hid, appS_snoc]; exact HFP.out, HQ.out, by rw [Hid, ← HR.out, Nat.max_eq_right (by omega)], rfl⟩
        · go_wp2_with fail
          go_roundg (gk - 1)
          case measure => omega
          case rel => exact ⟨j + 1, appS p (.cons al nm args k .nil), r, A + D, C, by omega, by omega, by omega, by omega, by go_num, by go_num, rfl, by rw [Hid, appS_len, HPL.out]; rfl, by rw [Hid, appS_snoc]; exact HFP.out, HQ.out, by rw [Hid, ← HR.out, Nat.max_eq_left (by omega)], rfl⟩

theorem count_any (f : Sels) (w : World) (v : Value) (hs : f.size' ≤ 4000000) (h : SelSl w v f) :
    Calls Tryz.prog 26 #[v, .int .i64 1] w fun e w' => e = .returned (.tuple #[.int .i64 ((f.len + kidsQ f 1 : Nat) : Int), .int .i64 ((mostQ f 1 : Nat) : Int)]) ∧ w' = w := by
  have key : ∀ (m : Nat) (f : Sels), f.size' = m → ∀ (w : World) (v : Value) (d : Nat), d ≤ 6 → f.size' ≤ 4000000 → SelSl w v f →
      Calls Tryz.prog 26 #[v, .int .i64 d] w fun e w' => e = .returned (.tuple #[.int .i64 ((f.len + kidsQ f d : Nat) : Int), .int .i64 ((mostQ f d : Nat) : Int)]) ∧ w' = w := by
    intro m
    induction m using Nat.strongRecOn with
    | ind m ih => exact fun f hm w v d hd hs h => count_step m ih f hm w v d hd hs h
  exact key f.size' f rfl w v 1 (by omega) hs h

end Go.Proofs.YthiagmhijebbgaaGreatDoor

/- The reference's isTok, isWord. -/
namespace Go.Proofs.YthiagmhijebbgaaGreatDoor
open Go.RowKit

/-- is a name at the head? -/
def isN : List Tok → Bool
  | t :: _ => decide (t.k = 1)
  | [] => false

theorem isS_at {T : List Tok} {i : Nat} (c : UInt8) (h : i < T.length) : isS c (T.drop i) = (decide (T[i].k = 4) && decide (T[i].s = [c])) := by rw [List.drop_eq_getElem_cons h]; rfl
theorem isS_out {T : List Tok} {i : Nat} (c : UInt8) (h : T.length ≤ i) : isS c (T.drop i) = false := by rw [List.drop_eq_nil_of_le h]; rfl
theorem isN_at {T : List Tok} {i : Nat} (h : i < T.length) : isN (T.drop i) = decide (T[i].k = 1) := by rw [List.drop_eq_getElem_cons h]; rfl
theorem isN_out {T : List Tok} {i : Nat} (h : T.length ≤ i) : isN (T.drop i) = false := by rw [List.drop_eq_nil_of_le h]; rfl

set_option maxRecDepth 20000 in
theorem isTok_is (w : World) (v : Value) (T : List Tok) (h : TokSl w v T) (i : Nat) (c : UInt8) (q : Bool) (hq : isS c (T.drop i) = q) :
    Calls Tryz.prog 51 #[v, .int .i64 i, .string ⟨#[c]⟩] w fun e w' => e = .returned (.bool q) ∧ w' = w := by
  obtain ⟨ao, cap, rfl, _, _⟩ := id h
  by_cases hi : i < T.length
  · rw [isS_at c hi] at hq
    obtain ⟨b, off, rfl, c0, c1, c2⟩ := h.at i hi
    obtain ⟨t, ht⟩ : ∃ t, t = T[i] := ⟨_, rfl⟩
    rw [← ht] at hq c0 c1 c2
    clear ht h
    by_cases hk : t.k = 4
    · have hkb : (t.k == 4) = true := by simp [hk]
      have HQ := hide (show decide (t.s = [c]) = q by rw [← hq, decide_eq_true hk, Bool.true_and])
      clear hq hk
      go_enter Tryz.func51, Tryz.ntmps51
      go_wp2_with fail
      go_ret
      exact ⟨ret_bool (by rw [← HQ.out, Bool.eq_iff_iff]; simp), rfl⟩
    · have hkb : (t.k == 4) = false := by simp [hk]
      have HQ := hide (show false = q by rw [← hq, decide_eq_false hk, Bool.false_and])
      clear hq hk
      go_enter Tryz.func51, Tryz.ntmps51
      go_wp2_with fail
      go_ret
      exact ⟨ret_bool HQ.out, rfl⟩
  · have HQ := hide (show false = q by rw [← hq, isS_out c (by omega)])
    clear hq h
    go_enter Tryz.func51, Tryz.ntmps51
    go_wp2_with fail
    go_ret
    exact ⟨ret_bool HQ.out, rfl⟩

set_option maxRecDepth 20000 in
theorem isWord_is (w : World) (v : Value) (T : List Tok) (h : TokSl w v T) (i : Nat) (q : Bool) (hq : isN (T.drop i) = q) :
    Calls Tryz.prog 52 #[v, .int .i64 i] w fun e w' => e = .returned (.bool q) ∧ w' = w := by
  obtain ⟨ao, cap, rfl, _, _⟩ := id h
  by_cases hi : i < T.length
  · rw [isN_at hi] at hq
    obtain ⟨b, off, rfl, c0, c1, c2⟩ := h.at i hi
    obtain ⟨t, ht⟩ : ∃ t, t = T[i] := ⟨_, rfl⟩
    rw [← ht] at hq c0 c1 c2
    clear ht h
    have HQ := hide hq
    clear hq
    go_enter Tryz.func52, Tryz.ntmps52
    go_wp2_with fail
    go_ret
    exact ⟨ret_bool (by rw [← HQ.out, Bool.eq_iff_iff]; simp), rfl⟩
  · have HQ := hide (show false = q by rw [← hq, isN_out (by omega)])
    clear hq h
    go_enter Tryz.func52, Tryz.ntmps52
    go_wp2_with fail
    go_ret
    exact ⟨ret_bool HQ.out, rfl⟩

theorem rname_is (l : List UInt8) (w : World) (t : Int) (ht : wrongT (nameT l) = t) :
    Calls Tryz.prog 53 #[.string ⟨l.toArray⟩] w fun e w' => e = .returned (.int .i64 t) ∧ w' = w := by
  have h : nameE (⟨l.toArray⟩ : ByteArray).data.toList = t := by
    rw [← ht]
    simp [wrongT, nameT, nameE]
    rfl
  rw [← h]
  exact checkName_any _ w

end Go.Proofs.YthiagmhijebbgaaGreatDoor

/- The reference's IsInt. -/
namespace Go.Proofs.YthiagmhijebbgaaGreatDoor
open Go.RowKit

theorem isInt_any (n : Int) (w : World) :
    Calls Tryz.prog 54 #[.int .i64 n] w fun e w' => e = .returned (.bool (decide (-999999999 ≤ n) && decide (n ≤ 999999999))) ∧ w' = w := by
  have H1 := hide (between_is n (-999999999) 999999999 w _ rfl)
  go_enter Tryz.func54, Tryz.ntmps54
  go_wp2_with fail
  refine H1.out.mono ?_
  rintro e w' ⟨rfl, rfl⟩
  go_wp2_with fail
  go_ret
  exact ⟨rfl, rfl⟩

end Go.Proofs.YthiagmhijebbgaaGreatDoor
