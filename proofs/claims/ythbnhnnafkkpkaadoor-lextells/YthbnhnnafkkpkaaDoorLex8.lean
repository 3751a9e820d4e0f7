/- Walks of lex: what is wrong with a token. -/
import Derived.Test.YthbnhnnafkkpkaaDoorLex7
namespace Go.Proofs.YthbnhnnafkkpkaaDoor
open Go.RowKit

abbrev tokB (k : Int) (s : ByteArray) (n : Int) : Value := .agg #[.int .i64 k, .string s, .int .i64 n]

theorem size_toList (s : ByteArray) : s.data.toList.length = s.size := by rw [Array.length_toList]; rfl

def wrongN (s : List UInt8) (n : Int) : Int := if n ≠ 0 then 1 else if 12 < s.length then 2 else if nameOk s then 0 else 1
def wrongNu (s : List UInt8) (n : Int) : Int := if s ≠ [] then 1 else if n < -999999999 ∨ 999999999 < n then 3 else 0
def wrongTe (s : List UInt8) (n : Int) : Int := if n ≠ 0 then 1 else if 40 < s.length then 2 else 0
def wrongSi (s : List UInt8) (n : Int) : Int := if n ≠ 0 ∨ s.length ≠ 1 ∨ sgn (s.head?.getD 0) = false then 1 else 0

theorem wrongName_any (k : Int) (s : ByteArray) (n : Int) (w : World) :
    Calls Tryd.prog 39 #[tokB k s n] w fun e w' => e = .returned (.int .i64 (wrongN s.data.toList n)) ∧ Same w w' := by
  have hsz := size_toList s
  by_cases hn : n = 0
  · have hn' : (n != 0) = false := by simp [hn]
    by_cases hl : 12 < s.size
    · have HF := hide (show wrongN s.data.toList n = 2 by unfold wrongN; rw [if_neg (by simp [hn]), if_pos (by omega)])
      clear hn hsz
      go_enter Tryd.func39, Tryd.ntmps39
      go_wp2_with fail
      go_ret
      exact ⟨ret_int HF.out.symm, (by repeat' (first | assumption | exact Kept.refl _ _ | refine Kept.drewN ?_ _ | refine Kept.drew ?_ | refine Kept.alloc ?_ _ | refine Kept.setB ?_ _ _))⟩
    · have HI := hide (fun w => isName_any s w (by omega))
      have HF := hide (show wrongN s.data.toList n = if nameOk s.data.toList then 0 else 1 by unfold wrongN; rw [if_neg (by simp [hn]), if_neg (by omega)])
      clear hn hsz
      go_enter Tryd.func39, Tryd.ntmps39
      go_wp2_with fail
      refine (HI.out _).mono ?_
      rintro e w1 ⟨rfl, rfl⟩
      cases hb : nameOk s.data.toList
      all_goals
        have HB := hide hb
        clear hb
        go_wp2_with fail
        go_ret
        exact ⟨ret_int (by rw [HF.out, HB.out]; rfl), (by repeat' (first | assumption | exact Kept.refl _ _ | refine Kept.drewN ?_ _ | refine Kept.drew ?_ | refine Kept.alloc ?_ _ | refine Kept.setB ?_ _ _))⟩
  · have hn' : (n != 0) = true := by simp [hn]
    have HF := hide (show wrongN s.data.toList n = 1 by unfold wrongN; rw [if_pos hn])
    clear hn hsz
    go_enter Tryd.func39, Tryd.ntmps39
    go_wp2_with fail
    go_ret
    exact ⟨ret_int HF.out.symm, (by repeat' (first | assumption | exact Kept.refl _ _ | refine Kept.drewN ?_ _ | refine Kept.drew ?_ | refine Kept.alloc ?_ _ | refine Kept.setB ?_ _ _))⟩

theorem wrongNumber_any (k : Int) (s : ByteArray) (n : Int) (w : World) :
    Calls Tryd.prog 40 #[tokB k s n] w fun e w' => e = .returned (.int .i64 (wrongNu s.data.toList n)) ∧ Same w w' := by
  by_cases h0 : s.data.toList = []
  · have he : s.toList.isEmpty = true := by rw [ByteArray.toList_eq, h0]; rfl
    by_cases hr : n < -999999999 ∨ 999999999 < n
    · have HF := hide (show wrongNu s.data.toList n = 3 by unfold wrongNu; rw [if_neg (by simp [h0]), if_pos hr])
      clear h0
      rcases hr with hr | hr
      all_goals
        go_enter Tryd.func40, Tryd.ntmps40
        go_wp2_with fail
        go_ret
        exact ⟨ret_int HF.out.symm, (by repeat' (first | assumption | exact Kept.refl _ _ | refine Kept.drewN ?_ _ | refine Kept.drew ?_ | refine Kept.alloc ?_ _ | refine Kept.setB ?_ _ _))⟩
    · have HF := hide (show wrongNu s.data.toList n = 0 by unfold wrongNu; rw [if_neg (by simp [h0]), if_neg hr])
      have h1 : -999999999 ≤ n := by omega
      have h2 : n ≤ 999999999 := by omega
      clear h0 hr
      go_enter Tryd.func40, Tryd.ntmps40
      go_wp2_with fail
      go_ret
      exact ⟨ret_int HF.out.symm, (by repeat' (first | assumption | exact Kept.refl _ _ | refine Kept.drewN ?_ _ | refine Kept.drew ?_ | refine Kept.alloc ?_ _ | refine Kept.setB ?_ _ _))⟩
  · have he : s.toList.isEmpty = false := by rw [ByteArray.toList_eq]; cases hx : s.data.toList with | nil => exact absurd hx h0 | cons a b => rfl
    have HF := hide (show wrongNu s.data.toList n = 1 by unfold wrongNu; rw [if_pos h0])
    clear h0
    go_enter Tryd.func40, Tryd.ntmps40
    go_wp2_with fail
    go_ret
    exact ⟨ret_int HF.out.symm, (by repeat' (first | assumption | exact Kept.refl _ _ | refine Kept.drewN ?_ _ | refine Kept.drew ?_ | refine Kept.alloc ?_ _ | refine Kept.setB ?_ _ _))⟩

theorem wrongText_any (k : Int) (s : ByteArray) (n : Int) (w : World) :
    Calls Tryd.prog 41 #[tokB k s n] w fun e w' => e = .returned (.int .i64 (wrongTe s.data.toList n)) ∧ Same w w' := by
  have hsz := size_toList s
  by_cases hn : n = 0
  · have hn' : (n != 0) = false := by simp [hn]
    by_cases hl : 40 < s.size
    · have HF := hide (show wrongTe s.data.toList n = 2 by unfold wrongTe; rw [if_neg (by simp [hn]), if_pos (by omega)])
      clear hn hsz
      go_enter Tryd.func41, Tryd.ntmps41
      go_wp2_with fail
      go_ret
      exact ⟨ret_int HF.out.symm, (by repeat' (first | assumption | exact Kept.refl _ _ | refine Kept.drewN ?_ _ | refine Kept.drew ?_ | refine Kept.alloc ?_ _ | refine Kept.setB ?_ _ _))⟩
    · have HF := hide (show wrongTe s.data.toList n = 0 by unfold wrongTe; rw [if_neg (by simp [hn]), if_neg (by omega)])
      clear hn hsz
      go_enter Tryd.func41, Tryd.ntmps41
      go_wp2_with fail
      go_ret
      exact ⟨ret_int HF.out.symm, (by repeat' (first | assumption | exact Kept.refl _ _ | refine Kept.drewN ?_ _ | refine Kept.drew ?_ | refine Kept.alloc ?_ _ | refine Kept.setB ?_ _ _))⟩
  · have hn' : (n != 0) = true := by simp [hn]
    have HF := hide (show wrongTe s.data.toList n = 1 by unfold wrongTe; rw [if_pos hn])
    clear hn hsz
    go_enter Tryd.func41, Tryd.ntmps41
    go_wp2_with fail
    go_ret
    exact ⟨ret_int HF.out.symm, (by repeat' (first | assumption | exact Kept.refl _ _ | refine Kept.drewN ?_ _ | refine Kept.drew ?_ | refine Kept.alloc ?_ _ | refine Kept.setB ?_ _ _))⟩

theorem wrongSign_any (k : Int) (s : ByteArray) (n : Int) (w : World) :
    Calls Tryd.prog 42 #[tokB k s n] w fun e w' => e = .returned (.int .i64 (wrongSi s.data.toList n)) ∧ Same w w' := by
  have hsz := size_toList s
  by_cases hn : n = 0
  · have hn' : (n != 0) = false := by simp [hn]
    by_cases hl : s.size = 1
    · have hl' : ((s.size : Int) != 1) = false := by simp; omega
      have hp0 : 0 < s.size := by omega
      have hd : s.data.toList.head?.getD 0 = s[0] := by
        have := drop_at (k := 0) hp0
        simp at this
        rw [this]; rfl
      have HS := hide (isSign_any s[0])
      cases hg : sgn s[0]
      · have HG := hide hg
        have HF := hide (show wrongSi s.data.toList n = 1 by unfold wrongSi; rw [if_pos (.inr (.inr (by rw [hd, hg])))])
        clear hn hsz hl hd hg
        go_enter Tryd.func42, Tryd.ntmps42
        go_wp2_with fail
        refine (HS.out _).mono ?_
        rintro e w1 ⟨rfl, rfl⟩
        rw [HG.out]
        go_wp2_with fail
        go_ret
        exact ⟨ret_int HF.out.symm, (by repeat' (first | assumption | exact Kept.refl _ _ | refine Kept.drewN ?_ _ | refine Kept.drew ?_ | refine Kept.alloc ?_ _ | refine Kept.setB ?_ _ _))⟩
      · have HG := hide hg
        have HF := hide (show wrongSi s.data.toList n = 0 by unfold wrongSi; rw [if_neg (by rw [hd, hg]; simp [hn]; simpa [hsz] using hl)])
        clear hn hsz hl hd hg
        go_enter Tryd.func42, Tryd.ntmps42
        go_wp2_with fail
        refine (HS.out _).mono ?_
        rintro e w1 ⟨rfl, rfl⟩
        rw [HG.out]
        go_wp2_with fail
        go_ret
        exact ⟨ret_int HF.out.symm, (by repeat' (first | assumption | exact Kept.refl _ _ | refine Kept.drewN ?_ _ | refine Kept.drew ?_ | refine Kept.alloc ?_ _ | refine Kept.setB ?_ _ _))⟩
    · have hl' : ((s.size : Int) != 1) = true := by simp; omega
      have HF := hide (show wrongSi s.data.toList n = 1 by unfold wrongSi; rw [if_pos (.inr (.inl (by omega)))])
      clear hn hsz hl
      go_enter Tryd.func42, Tryd.ntmps42
      go_wp2_with fail
      go_ret
      exact ⟨ret_int HF.out.symm, (by repeat' (first | assumption | exact Kept.refl _ _ | refine Kept.drewN ?_ _ | refine Kept.drew ?_ | refine Kept.alloc ?_ _ | refine Kept.setB ?_ _ _))⟩
  · have hn' : (n != 0) = true := by simp [hn]
    have HF := hide (show wrongSi s.data.toList n = 1 by unfold wrongSi; rw [if_pos (.inl hn)])
    clear hn hsz
    go_enter Tryd.func42, Tryd.ntmps42
    go_wp2_with fail
    go_ret
    exact ⟨ret_int HF.out.symm, (by repeat' (first | assumption | exact Kept.refl _ _ | refine Kept.drewN ?_ _ | refine Kept.drew ?_ | refine Kept.alloc ?_ _ | refine Kept.setB ?_ _ _))⟩

theorem wrong_any (k : Int) (s : ByteArray) (n : Int) (w : World) :
    Calls Tryd.prog 31 #[tokB k s n] w fun e w' => e = .returned (.int .i64 (wrongT ⟨k, s.data.toList, n⟩)) ∧ Same w w' := by
  by_cases h1 : k = 1
  · have HF := hide (show wrongT ⟨k, s.data.toList, n⟩ = wrongN s.data.toList n by unfold wrongT wrongN; rw [if_pos h1])
    have e1 : (k == 1) = true := by simp [h1]
    clear h1
    go_enter Tryd.func31, Tryd.ntmps31
    go_wp2_with fail
    refine (wrongName_any k s n _).mono ?_
    rintro e w1 ⟨rfl, hK⟩
    go_wp2_with fail
    go_ret
    exact ⟨ret_int HF.out.symm, hK.unA⟩
  have e1 : (k == 1) = false := by simp [h1]
  by_cases h2 : k = 2
  · have HF := hide (show wrongT ⟨k, s.data.toList, n⟩ = wrongNu s.data.toList n by unfold wrongT wrongNu; rw [if_neg h1, if_pos h2])
    have e2 : (k == 2) = true := by simp [h2]
    clear h1 h2
    go_enter Tryd.func31, Tryd.ntmps31
    go_wp2_with fail
    refine (wrongNumber_any k s n _).mono ?_
    rintro e w1 ⟨rfl, hK⟩
    go_wp2_with fail
    go_ret
    exact ⟨ret_int HF.out.symm, hK.unA⟩
  have e2 : (k == 2) = false := by simp [h2]
  by_cases h3 : k = 3
  · have HF := hide (show wrongT ⟨k, s.data.toList, n⟩ = wrongTe s.data.toList n by unfold wrongT wrongTe; rw [if_neg h1, if_neg h2, if_pos h3])
    have e3 : (k == 3) = true := by simp [h3]
    clear h1 h2 h3
    go_enter Tryd.func31, Tryd.ntmps31
    go_wp2_with fail
    refine (wrongText_any k s n _).mono ?_
    rintro e w1 ⟨rfl, hK⟩
    go_wp2_with fail
    go_ret
    exact ⟨ret_int HF.out.symm, hK.unA⟩
  have e3 : (k == 3) = false := by simp [h3]
  by_cases h4 : k = 4
  · have HF := hide (show wrongT ⟨k, s.data.toList, n⟩ = wrongSi s.data.toList n by unfold wrongT wrongSi; rw [if_neg h1, if_neg h2, if_neg h3, if_pos h4])
    have e4 : (k == 4) = true := by simp [h4]
    clear h1 h2 h3 h4
    go_enter Tryd.func31, Tryd.ntmps31
    go_wp2_with fail
    refine (wrongSign_any k s n _).mono ?_
    rintro e w1 ⟨rfl, hK⟩
    go_wp2_with fail
    go_ret
    exact ⟨ret_int HF.out.symm, hK.unA⟩
  have e4 : (k == 4) = false := by simp [h4]
  have HF := hide (show wrongT ⟨k, s.data.toList, n⟩ = 7 by unfold wrongT; rw [if_neg h1, if_neg h2, if_neg h3, if_neg h4])
  clear h1 h2 h3 h4
  go_enter Tryd.func31, Tryd.ntmps31
  go_wp2_with fail
  go_ret
  exact ⟨ret_int HF.out.symm, (by repeat' (first | assumption | exact Kept.refl _ _ | refine Kept.drewN ?_ _ | refine Kept.drew ?_ | refine Kept.alloc ?_ _ | refine Kept.setB ?_ _ _))⟩

end Go.Proofs.YthbnhnnafkkpkaaDoor
