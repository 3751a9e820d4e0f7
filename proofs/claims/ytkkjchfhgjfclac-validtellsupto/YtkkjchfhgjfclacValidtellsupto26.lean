/- The reference's countSelects, of selects that are not beyond all bounds. -/
import Derived.Test.YtkkjchfhgjfclacValidtellsupto13
import Derived.Deep.CutRange
namespace Go.Proofs.Ytkkjchfhgjfclac
open Go.RowKit

def kidsQ : Sels → Nat → Nat
  | .nil, _ => 0
  | .cons _ _ _ k r, d => (if 5 < d then 0 else k.len + kidsQ k (d + 1)) + kidsQ r d
def mostQ : Sels → Nat → Nat
  | .nil, _ => 0
  | .cons _ _ _ k r, d => max (max d (if 5 < d then 0 else mostQ k (d + 1))) (mostQ r d)

theorem kidsQ_app (a b : Sels) (d : Nat) : kidsQ (appS a b) d = kidsQ a d + kidsQ b d := by
  induction a with
  | nil => simp [appS, kidsQ]
  | cons al nm args k r _ ih => rw [appS, kidsQ, kidsQ, ih]; omega
theorem mostQ_app (a b : Sels) (d : Nat) : mostQ (appS a b) d = max (mostQ a d) (mostQ b d) := by
  induction a with
  | nil => simp [appS, mostQ]
  | cons al nm args k r _ ih => rw [appS, mostQ, mostQ, ih]; omega
theorem kidsQ_le (s : Sels) : ∀ d, s.len + kidsQ s d ≤ s.size' := by
  induction s with
  | nil => intro d; simp [kidsQ, Sels.len, Sels.size']
  | cons al nm args k r ihk ihr =>
    intro d
    have h1 := ihr d
    rw [kidsQ, Sels.len, Sels.size']
    by_cases h : 5 < d
    · rw [if_pos h]; omega
    · rw [if_neg h]
      have h2 := ihk (d + 1)
      omega
theorem mostQ_le (s : Sels) : ∀ d, d ≤ 6 → mostQ s d ≤ 6 := by
  induction s with
  | nil => intro d _; simp [mostQ]
  | cons al nm args k r ihk ihr =>
    intro d hd
    have h1 := ihr d hd
    rw [mostQ]
    by_cases h : 5 < d
    · rw [if_pos h]; omega
    · rw [if_neg h]
      have h2 := ihk (d + 1) (by omega)
      omega
theorem mostQ_iff (s : Sels) : ∀ d, mostQ s d ≤ 5 ↔ okD d s := by
  induction s with
  | nil => intro d; simp [mostQ, okD]
  | cons al nm args k r ihk ihr =>
    intro d
    rw [mostQ, okD, ← ihk, ← ihr]
    by_cases h : 5 < d
    · rw [if_pos h]; omega
    · rw [if_neg h]; omega
theorem kidsQ_all (s : Sels) : ∀ d, okD d s → s.len + kidsQ s d = s.size' := by
  induction s with
  | nil => intro d _; simp [kidsQ, Sels.len, Sels.size']
  | cons al nm args k r ihk ihr =>
    intro d h
    rw [okD] at h
    have h1 := ihr d h.2.2
    have h2 := ihk (d + 1) h.2.1
    rw [kidsQ, Sels.len, Sels.size', if_neg (by omega)]
    omega
/-- too many, or too deep: as the reference says it -/
theorem fits_ref (s : Sels) : fitsQ s 1 40 = none ↔ (40 < s.len + kidsQ s 1 ∨ 5 < mostQ s 1) := by
  have key : (∃ m, fitsQ s 1 40 = some m) ↔ (s.len + kidsQ s 1 ≤ 40 ∧ mostQ s 1 ≤ 5) := by
    constructor
    · rintro ⟨m, hm⟩
      obtain ⟨h1, h2⟩ := (fits_iff s 1 40 m).1 hm
      exact ⟨by rw [kidsQ_all s 1 h1]; omega, (mostQ_iff s 1).2 h1⟩
    · rintro ⟨h1, h2⟩
      have h3 := (mostQ_iff s 1).1 h2
      rw [kidsQ_all s 1 h3] at h1
      exact ⟨40 - s.size', (fits_iff s 1 40 _).2 ⟨h3, by omega⟩⟩
  constructor
  · intro h
    by_cases hh : s.len + kidsQ s 1 ≤ 40 ∧ mostQ s 1 ≤ 5
    · obtain ⟨m, hm⟩ := key.2 hh
      rw [h] at hm; cases hm
    · omega
  · intro h
    cases hf : fitsQ s 1 40 with
    | none => rfl
    | some m =>
      have := key.1 ⟨m, hf⟩
      omega

set_option maxRecDepth 20000 in
set_option maxHeartbeats 3200000 in
theorem count_step (m : Nat) (IH : ∀ m', m' < m → ∀ (f : Sels), f.size' = m' → ∀ (w : World) (v : Value) (d : Nat), d ≤ 6 → f.size' ≤ 4000000 → SelSl w v f →
      Calls Try.prog 56 #[v, .int .i64 d] w fun e w' => e = .returned (.tuple #[.int .i64 ((f.len + kidsQ f d : Nat) : Int), .int .i64 ((mostQ f d : Nat) : Int)]) ∧ w' = w)
    (f : Sels) (hm : f.size' = m) (w : World) (v : Value) (d : Nat) (hd : d ≤ 6) (hs : f.size' ≤ 4000000) (h : SelSl w v f) :
    Calls Try.prog 56 #[v, .int .i64 d] w fun e w' => e = .returned (.tuple #[.int .i64 ((f.len + kidsQ f d : Nat) : Int), .int .i64 ((mostQ f d : Nat) : Int)]) ∧ w' = w := by
  obtain ⟨ao, cap, rfl, _, _⟩ := id h
  have hfl : f.len ≤ 4000000 := by have := kidsQ_le f d; omega
  have HA := hide h
  have HIH := hide IH
  have HM := hide hm
  have HS := hide hs
  clear h IH hm hs
  go_enter Try.func56, Try.ntmps56
  go_wp2_with fail
  go_loopg [6, 7, 8] f.len (fun g a b i wr => ∃ (j : Nat) (p x : Sels) (A B : Nat), x.len ≤ g ∧ g ≤ x.len ∧ j + x.len ≤ f.len ∧ f.len ≤ j + x.len ∧ i = .int .i64 j ∧ a = .int .i64 (A : Int) ∧ b = .int .i64 (B : Int) ∧ Hid (p.len = j) ∧ Hid (f = appS p x) ∧ Hid (A = f.len + kidsQ p d) ∧ Hid (B = mostQ p d) ∧ wr = w)
  case atStart => exact ⟨0, .nil, f, f.len, 0, Nat.le_refl _, Nat.le_refl _, by omega, by omega, rfl, rfl, rfl, rfl, rfl, rfl, rfl, rfl⟩
  case round =>
    obtain ⟨j, p, x, A, B, hg1, hg2, hj1, hj2, rfl, rfl, rfl, HPL, HFP, HAA, HBB, rfl⟩ := hrel
    have hAl : A ≤ 4000000 := by
      have h1 := kidsQ_le f d
      have h2 := HAA.out
      have h3 := HS.out
      have h4 := congrArg (fun s => kidsQ s d) HFP.out
      simp only [kidsQ_app] at h4
      omega
    have hBl : B ≤ 6 := by rw [HBB.out]; exact mostQ_le p d hd
    cases x with
    | nil =>
      simp only [Sels.len] at hg1 hg2 hj1 hj2
      have HFN := hide (show f = p by rw [HFP.out]; exact appS_nil p)
      go_wp2_with fail
      have e1 : A = f.len + kidsQ f d := by have := HAA.out; rw [← HFN.out] at this; exact this
      have e2 : B = mostQ f d := by have := HBB.out; rw [← HFN.out] at this; exact this
      go_ret2
      exact ⟨by rw [← e1, ← e2]; rfl, rfl⟩
    | cons al nm args k r =>
      simp only [Sels.len] at hg1 hg2 hj1 hj2
      have hlt : j < f.len := by omega
      obtain ⟨b1, o1, aa1, ca1, ak1, ck1, rfl, p0, p1, p2, p3, ha1, hk1, hal⟩ := selSl_nth HA.out HFP.out j HPL.out
      have HK := hide hk1
      clear ha1 hk1
      have HKM := hide (show k.size' < m ∧ k.size' ≤ 4000000 by
        have h1 := congrArg Sels.size' HFP.out
        have h2 := HS.out
        rw [appS_size, Sels.size'] at h1
        have h3 := HM.out
        omega)
      have HP2 := hide (show kidsQ (appS p (.cons al nm args k .nil)) d = kidsQ p d + (if 5 < d then 0 else k.len + kidsQ k (d + 1)) by rw [kidsQ_app, kidsQ]; simp [kidsQ])
      have HB2 := hide (show mostQ (appS p (.cons al nm args k .nil)) d = max (max (mostQ p d) d) (if 5 < d then 0 else mostQ k (d + 1)) by rw [mostQ_app, mostQ]; simp only [mostQ]; omega)
      go_upto_if 21 with fail
      go_cut [7] from 13 to 42 (fun v wx => v = .int .i64 ((max B d : Nat) : Int) ∧ wx = wr)
      case first =>
        by_cases hbd : B < d
        · go_wp2_with fail
          go_meet
          case rel => exact ⟨by rw [Nat.max_eq_right (by omega)], rfl⟩
        · go_wp2_with fail
          go_meet
          case rel => exact ⟨by rw [Nat.max_eq_left (by omega)], rfl⟩
      case rest =>
      obtain ⟨rfl, hwc⟩ := hcut
      subst hwc
      obtain ⟨C, hC⟩ : ∃ C, C = max B d := ⟨_, rfl⟩
      rw [← hC]
      have hCl : C ≤ 6 := by omega
      have HC := hide hC
      clear hC
      by_cases h5 : 5 < d
      · go_wp2_with fail
        go_roundg (gk - 1)
        case measure => omega
        case rel => exact ⟨j + 1, appS p (.cons al nm args k .nil), r, A, C, by omega, by omega, by omega, by omega, by go_num, rfl, rfl, by rw [Hid, appS_len, HPL.out]; rfl, by rw [Hid, appS_snoc]; exact HFP.out, by rw [Hid, HP2.out, if_pos h5, HAA.out]; rfl, by rw [Hid, HB2.out, if_pos h5, HC.out, HBB.out]; simp, rfl⟩
      · have HREC := hide (HIH.out k.size' HKM.out.1 k rfl wc _ (d + 1) (by omega) HKM.out.2 HK.out)
        have hkc : k.len + kidsQ k (d + 1) ≤ 4000000 := by have h1 := kidsQ_le k (d + 1); have h2 := HKM.out; omega
        have hmk : mostQ k (d + 1) ≤ 6 := mostQ_le k (d + 1) (by omega)
        have HQ := hide (show A + (k.len + kidsQ k (d + 1)) = f.len + kidsQ (appS p (.cons al nm args k .nil)) d by rw [HP2.out, if_neg h5, HAA.out]; omega)
        have HR := hide (show max C (mostQ k (d + 1)) = mostQ (appS p (.cons al nm args k .nil)) d by rw [HB2.out, if_neg h5, HC.out, HBB.out])
        obtain ⟨D, hD⟩ : ∃ D, D = k.len + kidsQ k (d + 1) := ⟨_, rfl⟩
        obtain ⟨E, hE⟩ : ∃ E, E = mostQ k (d + 1) := ⟨_, rfl⟩
        rw [← hD, ← hE] at HREC
        rw [← hD] at HQ hkc
        rw [← hE] at HR hmk
        clear hD hE
        go_wp2_with fail
        refine HREC.out.mono ?_
        rintro e w3 ⟨rfl, hw3⟩
        rw [hw3]
        clear hw3
        by_cases hce : C < E
        · go_wp2_with fail
          go_roundg (gk - 1)
          case measure => omega
          case rel => exact ⟨j + 1, appS p (.cons al nm args k .nil), r, A + D, E, by omega, by omega, by omega, by omega, by go_num, by go_num, rfl, by rw [Hid, appS_len, HPL.out]; rfl, by rw [Hid, appS_snoc]; exact HFP.out, HQ.out, by rw [Hid, ← HR.out, Nat.max_eq_right (by omega)], rfl⟩
        · go_wp2_with fail
          go_roundg (gk - 1)
          case measure => omega
          case rel => exact ⟨j + 1, appS p (.cons al nm args k .nil), r, A + D, C, by omega, by omega, by omega, by omega, by go_num, by go_num, rfl, by rw [Hid, appS_len, HPL.out]; rfl, by rw [Hid, appS_snoc]; exact HFP.out, HQ.out, by rw [Hid, ← HR.out, Nat.max_eq_left (by omega)], rfl⟩

theorem count_any (f : Sels) (w : World) (v : Value) (hs : f.size' ≤ 4000000) (h : SelSl w v f) :
    Calls Try.prog 56 #[v, .int .i64 1] w fun e w' => e = .returned (.tuple #[.int .i64 ((f.len + kidsQ f 1 : Nat) : Int), .int .i64 ((mostQ f 1 : Nat) : Int)]) ∧ w' = w := by
  have key : ∀ (m : Nat) (f : Sels), f.size' = m → ∀ (w : World) (v : Value) (d : Nat), d ≤ 6 → f.size' ≤ 4000000 → SelSl w v f →
      Calls Try.prog 56 #[v, .int .i64 d] w fun e w' => e = .returned (.tuple #[.int .i64 ((f.len + kidsQ f d : Nat) : Int), .int .i64 ((mostQ f d : Nat) : Int)]) ∧ w' = w := by
    intro m
    induction m using Nat.strongRecOn with
    | ind m ih => exact fun f hm w v d hd hs h => count_step m ih f hm w v d hd hs h
  exact key f.size' f rfl w v 1 (by omega) hs h

end Go.Proofs.Ytkkjchfhgjfclac
