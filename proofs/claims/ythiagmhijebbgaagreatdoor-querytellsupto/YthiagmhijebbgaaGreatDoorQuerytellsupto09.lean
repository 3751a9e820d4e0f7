import Derived.Test.YthiagmhijebbgaaGreatDoorQuerytellsupto08
/- Walks of lex: what is wrong with a token. -/
namespace Go.Proofs.YthiagmhijebbgaaGreatDoor
open Go.RowKit

abbrev tokB (k : Int) (s : ByteArray) (n : Int) : Value := .agg #[.int .i64 k, .string s, .int .i64 n]

theorem size_toList (s : ByteArray) : s.data.toList.length = s.size := by rw [Array.length_toList]; rfl

def wrongN (s : List UInt8) (n : Int) : Int := if n ≠ 0 then 1 else if 12 < s.length then 2 else if nameOk s then 0 else 1
def wrongNu (s : List UInt8) (n : Int) : Int := if s ≠ [] then 1 else if n < -999999999 ∨ 999999999 < n then 3 else 0
def wrongTe (s : List UInt8) (n : Int) : Int := if n ≠ 0 then 1 else if 40 < s.length then 2 else 0
def wrongSi (s : List UInt8) (n : Int) : Int := if n ≠ 0 ∨ s.length ≠ 1 ∨ sgn (s.head?.getD 0) = false then 1 else 0

theorem wrongName_any (k : Int) (s : ByteArray) (n : Int) (w : World) :
    Calls Tryz.prog 89 #[tokB k s n] w fun e w' => e = .returned (.int .i64 (wrongN s.data.toList n)) ∧ Same w w' := by
  have hsz := size_toList s
  by_cases hn : n = 0
  · have hn' : (n != 0) = false := by simp [hn]
    by_cases hl : 12 < s.size
    · have HF := hide (show wrongN s.data.toList n = 2 by unfold wrongN; rw [if_neg (by simp [hn]), if_pos (by omega)])
      clear hn hsz
      go_enter Tryz.func89, Tryz.ntmps89
      go_wp2_with fail
      go_ret
      exact ⟨ret_int HF.out.symm, (by repeat' (first | assumption | exact Kept.refl _ _ | refine Kept.drewN ?_ _ | refine Kept.drew ?_ | refine Kept.alloc ?_ _ | refine Kept.setB ?_ _ _))⟩
    · have HI := hide (fun w => isName_any s w (by omega))
      have HF := hide (show wrongN s.data.toList n = if nameOk s.data.toList then 0 else 1 by unfold wrongN; rw [if_neg (by simp [hn]), if_neg (by omega)])
      clear hn hsz
      go_enter Tryz.func89, Tryz.ntmps89
      go_wp2_with fail
      refine (HI.out _).mono ?_
      rintro e w1 ⟨rfl, rfl⟩
      cases hb : nameOk s.data.toList
      all_goals
        have HB := hide hb
        clear hb
        go_wp2_with fail
        go_ret
        exact ⟨ret_int (by rw [HF.out, HB.out]; rfl), (by repeat' (first | assumption | exact Kept.refl _ _ | refine Kept.drewN ?_ _ | refine Kept.drew ?_ | refine Kept.alloc ?_ _ | refine Kept.setB ?_ _ _))⟩
  · have hn' : (n != 0) = true := by simp [hn]
    have HF := hide (show wrongN s.data.toList n = 1 by unfold wrongN; rw [if_pos hn])
    clear hn hsz
    go_enter Tryz.func89, Tryz.ntmps89
    go_wp2_with fail
    go_ret
    exact ⟨ret_int HF.out.symm, (by repeat' (first | assumption | exact Kept.refl _ _ | refine Kept.drewN ?_ _ | refine Kept.drew ?_ | refine Kept.alloc ?_ _ | refine Kept.setB ?_ _ _))⟩

theorem wrongNumber_any (k : Int) (s : ByteArray) (n : Int) (w : World) :
    Calls Tryz.prog 90 #[tokB k s n] w fun e w' => e = .returned (.int .i64 (wrongNu s.data.toList n)) ∧ Same w w' := by
  by_cases h0 : s.data.toList = []
  · have he : s.toList.isEmpty = true := by rw [ByteArray.toList_eq, h0]; rfl
    by_cases hr : n < -999999999 ∨ 999999999 < n
    · have HF := hide (show wrongNu s.data.toList n = 3 by unfold wrongNu; rw [if_neg (by simp [h0]), if_pos hr])
      clear h0
      rcases hr with hr | hr
      all_goals
        go_enter Tryz.func90, Tryz.ntmps90
        go_wp2_with fail
        go_ret
        exact ⟨ret_int HF.out.symm, (by repeat' (first | assumption | exact Kept.refl _ _ | refine Kept.drewN ?_ _ | refine Kept.drew ?_ | refine Kept.alloc ?_ _ | refine Kept.setB ?_ _ _))⟩
    · have HF := hide (show wrongNu s.data.toList n = 0 by unfold wrongNu; rw [if_neg (by simp [h0]), if_neg hr])
      have h1 : -999999999 ≤ n := by omega
      have h2 : n ≤ 999999999 := by omega
      clear h0 hr
      go_enter Tryz.func90, Tryz.ntmps90
      go_wp2_with fail
      go_ret
      exact ⟨ret_int HF.out.symm, (by repeat' (first | assumption | exact Kept.refl _ _ | refine Kept.drewN ?_ _ | refine Kept.drew ?_ | refine Kept.alloc ?_ _ | refine Kept.setB ?_ _ _))⟩
  · have he : s.toList.isEmpty = false := by rw [ByteArray.toList_eq]; cases hx : s.data.toList with | nil => exact absurd hx h0 | cons a b => rfl
    have HF := hide (show wrongNu s.data.toList n = 1 by unfold wrongNu; rw [if_pos h0])
    clear h0
    go_enter Tryz.func90, Tryz.ntmps90
    go_wp2_with fail
    go_ret
    exact ⟨ret_int HF.out.symm, (by repeat' (first | assumption | exact Kept.refl _ _ | refine Kept.drewN ?_ _ | refine Kept.drew ?_ | refine Kept.alloc ?_ _ | refine Kept.setB ?_ _ _))⟩

theorem wrongText_any (k : Int) (s : ByteArray) (n : Int) (w : World) :
    Calls Tryz.prog 91 #[tokB k s n] w fun e w' => e = .returned (.int .i64 (wrongTe s.data.toList n)) ∧ Same w w' := by
  have hsz := size_toList s
  by_cases hn : n = 0
  · have hn' : (n != 0) = false := by simp [hn]
    by_cases hl : 40 < s.size
    · have HF := hide (show wrongTe s.data.toList n = 2 by unfold wrongTe; rw [if_neg (by simp [hn]), if_pos (by omega)])
      clear hn hsz
      go_enter Tryz.func91, Tryz.ntmps91
      go_wp2_with fail
      go_ret
      exact ⟨ret_int HF.out.symm, (by repeat' (first | assumption | exact Kept.refl _ _ | refine Kept.drewN ?_ _ | refine Kept.drew ?_ | refine Kept.alloc ?_ _ | refine Kept.setB ?_ _ _))⟩
    · have HF := hide (show wrongTe s.data.toList n = 0 by unfold wrongTe; rw [if_neg (by simp [hn]), if_neg (by omega)])
      clear hn hsz
      go_enter Tryz.func91, Tryz.ntmps91
      go_wp2_with fail
      go_ret
      exact ⟨ret_int HF.out.symm, (by repeat' (first | assumption | exact Kept.refl _ _ | refine Kept.drewN ?_ _ | refine Kept.drew ?_ | refine Kept.alloc ?_ _ | refine Kept.setB ?_ _ _))⟩
  · have hn' : (n != 0) = true := by simp [hn]
    have HF := hide (show wrongTe s.data.toList n = 1 by unfold wrongTe; rw [if_pos hn])
    clear hn hsz
    go_enter Tryz.func91, Tryz.ntmps91
    go_wp2_with fail
    go_ret
    exact ⟨ret_int HF.out.symm, (by repeat' (first | assumption | exact Kept.refl _ _ | refine Kept.drewN ?_ _ | refine Kept.drew ?_ | refine Kept.alloc ?_ _ | refine Kept.setB ?_ _ _))⟩

theorem wrongSign_any (k : Int) (s : ByteArray) (n : Int) (w : World) :
    Calls Tryz.prog 92 #[tokB k s n] w fun e w' => e = .returned (.int .i64 (wrongSi s.data.toList n)) ∧ Same w w' := by
  have hsz := size_toList s
  by_cases hn : n = 0
  · have hn' : (n != 0) = false := by simp [hn]
    by_cases hl : s.size = 1
    · have hl' : ((s.size : Int) != 1) = false := by simp; omega
      have hp0 : 0 < s.size := by omega
      have hd : s.data.toList.head?.getD 0 = s[0] := by
        have := drop_at (k := 0) hp0
        simp at this
        rw [this]; rfl
      have HS := hide (isSign_any s[0])
      cases hg : sgn s[0]
      · have HG := hide hg
        have HF := hide (show wrongSi s.data.toList n = 1 by unfold wrongSi; rw [if_pos (.inr (.inr (by rw [hd, hg])))])
        clear hn hsz hl hd hg
        go_enter Tryz.func92, Tryz.ntmps92
        go_wp2_with fail
        refine (HS.out _).mono ?_
        rintro e w1 ⟨rfl, rfl⟩
        rw [HG.out]
        go_wp2_with fail
        go_ret
        exact ⟨ret_int HF.out.symm, (by repeat' (first | assumption | exact Kept.refl _ _ | refine Kept.drewN ?_ _ | refine Kept.drew ?_ | refine Kept.alloc ?_ _ | refine Kept.setB ?_ _ _))⟩
      · have HG := hide hg
        have HF := hide (show wrongSi s.data.toList n = 0 by unfold wrongSi; rw [if_neg (by rw [hd, hg]; simp [hn]; simpa [hsz] using hl)])
        clear hn hsz hl hd hg
        go_enter Tryz.func92, Tryz.ntmps92
        go_wp2_with fail
        refine (HS.out _).mono ?_
        rintro e w1 ⟨rfl, rfl⟩
        rw [HG.out]
        go_wp2_with fail
        go_ret
        exact ⟨ret_int HF.out.symm, (by repeat' (first | assumption | exact Kept.refl _ _ | refine Kept.drewN ?_ _ | refine Kept.drew ?_ | refine Kept.alloc ?_ _ | refine Kept.setB ?_ _ _))⟩
    · have hl' : ((s.size : Int) != 1) = true := by simp; omega
      have HF := hide (show wrongSi s.data.toList n = 1 by unfold wrongSi; rw [if_pos (.inr (.inl (by omega)))])
      clear hn hsz hl
      go_enter Tryz.func92, Tryz.ntmps92
      go_wp2_with fail
      go_ret
      exact ⟨ret_int HF.out.symm, (by repeat' (first | assumption | exact Kept.refl _ _ | refine Kept.drewN ?_ _ | refine Kept.drew ?_ | refine Kept.alloc ?_ _ | refine Kept.setB ?_ _ _))⟩
  · have hn' : (n != 0) = true := by simp [hn]
    have HF := hide (show wrongSi s.data.toList n = 1 by unfold wrongSi; rw [if_pos (.inl hn)])
    clear hn hsz
    go_enter Tryz.func92, Tryz.ntmps92
    go_wp2_with fail
    go_ret
    exact ⟨ret_int HF.out.symm, (by repeat' (first | assumption | exact Kept.refl _ _ | refine Kept.drewN ?_ _ | refine Kept.drew ?_ | refine Kept.alloc ?_ _ | refine Kept.setB ?_ _ _))⟩

theorem wrong_any (k : Int) (s : ByteArray) (n : Int) (w : World) :
    Calls Tryz.prog 62 #[tokB k s n] w fun e w' => e = .returned (.int .i64 (wrongT ⟨k, s.data.toList, n⟩)) ∧ Same w w' := by
  by_cases h1 : k = 1
  · have HF := hide (show wrongT ⟨k, s.data.toList, n⟩ = wrongN s.data.toList n by unfold wrongT wrongN; rw [if_pos h1])
    have e1 : (k == 1) = true := by simp [h1]
    clear h1
    go_enter Tryz.func62, Tryz.ntmps62
    go_wp2_with fail
    refine (wrongName_any k s n _).mono ?_
    rintro e w1 ⟨rfl, hK⟩
    go_wp2_with fail
    go_ret
    exact ⟨ret_int HF.out.symm, hK.unA⟩
  have e1 : (k == 1) = false := by simp [h1]
  by_cases h2 : k = 2
  · have HF := hide (show wrongT ⟨k, s.data.toList, n⟩ = wrongNu s.data.toList n by unfold wrongT wrongNu; rw [if_neg h1, if_pos h2])
    have e2 : (k == 2) = true := by simp [h2]
    clear h1 h2
    go_enter Tryz.func62, Tryz.ntmps62
    go_wp2_with fail
    refine (wrongNumber_any k s n _).mono ?_
    rintro e w1 ⟨rfl, hK⟩
    go_wp2_with fail
    go_ret
    exact ⟨ret_int HF.out.symm, hK.unA⟩
  have e2 : (k == 2) = false := by simp [h2]
  by_cases h3 : k = 3
  · have HF := hide (show wrongT ⟨k, s.data.toList, n⟩ = wrongTe s.data.toList n by unfold wrongT wrongTe; rw [if_neg h1, if_neg h2, if_pos h3])
    have e3 : (k == 3) = true := by simp [h3]
    clear h1 h2 h3
    go_enter Tryz.func62, Tryz.ntmps62
    go_wp2_with fail
    refine (wrongText_any k s n _).mono ?_
    rintro e w1 ⟨rfl, hK⟩
    go_wp2_with fail
    go_ret
    exact ⟨ret_int HF.out.symm, hK.unA⟩
  have e3 : (k == 3) = false := by simp [h3]
  by_cases h4 : k = 4
  · have HF := hide (show wrongT ⟨k, s.data.toList, n⟩ = wrongSi s.data.toList n by unfold wrongT wrongSi; rw [if_neg h1, if_neg h2, if_neg h3, if_pos h4])
    have e4 : (k == 4) = true := by simp [h4]
    clear h1 h2 h3 h4
    go_enter Tryz.func62, Tryz.ntmps62
    go_wp2_with fail
    refine (wrongSign_any k s n _).mono ?_
    rintro e w1 ⟨rfl, hK⟩
    go_wp2_with fail
    go_ret
    exact ⟨ret_int HF.out.symm, hK.unA⟩
  have e4 : (k == 4) = false := by simp [h4]
  have HF := hide (show wrongT ⟨k, s.data.toList, n⟩ = 7 by unfold wrongT; rw [if_neg h1, if_neg h2, if_neg h3, if_neg h4])
  clear h1 h2 h3 h4
  go_enter Tryz.func62, Tryz.ntmps62
  go_wp2_with fail
  go_ret
  exact ⟨ret_int HF.out.symm, (by repeat' (first | assumption | exact Kept.refl _ _ | refine Kept.drewN ?_ _ | refine Kept.drew ?_ | refine Kept.alloc ?_ _ | refine Kept.setB ?_ _ _))⟩

end Go.Proofs.YthiagmhijebbgaaGreatDoor

/- Walks of the reader: a token, whatever stands there. -/
namespace Go.Proofs.YthiagmhijebbgaaGreatDoor
open Go.RowKit

theorem words_le (l : List UInt8) : ∀ (b : Bool) (x : List UInt8) (n : Nat), wordsL b l = some (x, n) → 0 < n ∧ n ≤ l.length := by
  induction l with
  | nil => intro b x n h; cases b <;> simp [wordsL] at h
  | cons c r ih =>
    intro b x n h
    have go : ∀ (b : Bool) (f : List UInt8 → List UInt8), (wordsL b r).map (fun y => (f y.1, y.2 + 1)) = some (x, n) → 0 < n ∧ n ≤ (c :: r).length := by
      intro b f h
      cases hw : wordsL b r with
      | none => rw [hw] at h; cases h
      | some y =>
        rw [hw] at h
        simp at h
        have := ih b y.1 y.2 hw
        simp; omega
    cases b with
    | true =>
      rw [wordsL] at h
      split at h
      · exact go false (fun y => c :: y) h
      · split at h
        · exact go false (fun y => 10 :: y) h
        · cases h
    | false =>
      rw [wordsL] at h
      split at h
      · simp at h; simp; omega
      · split at h
        · cases h
        · split at h
          · exact go true (fun y => y) h
          · exact go false (fun y => c :: y) h

theorem drop_len {s : ByteArray} {k : Nat} : (s.data.toList.drop k).length = s.size - k := by rw [List.length_drop, size_toList]

theorem tail_drop {s : ByteArray} {k : Nat} (h : k < s.size) : (s.data.toList.drop k).tail = s.data.toList.drop (k + 1) := by rw [drop_at h]; rfl

set_option maxHeartbeats 400000 in
theorem token_any (w : World) (b k : Nat) (s : ByteArray) (v : Value) (h : Rdr w b s k v) (hk : k < s.size) (hs : s.size ≤ 2000) :
    Calls Tryz.prog 61 #[.pointer (some ⟨b, 0, none⟩)] w fun e w' =>
      (∃ t n, tokL (s.data.toList.drop k) = .ok (t, n) ∧ 0 < n ∧ k + n ≤ s.size ∧ e = .returned (tokV t) ∧ Rdr w' b s (k + n) v ∧ Kept (· = b) w w')
      ∨ (tokL (s.data.toList.drop k) = .error 1 ∧ e = fault 1 ∧ Kept (· = b) w w') := by
  have hd := drop_at hk
  cases hb : beg s[k] with
  | true =>
    refine (token_name w b k s v h hk hs hb).mono ?_
    rintro e w' ⟨rfl, hR, hK⟩
    refine .inl ⟨_, _, ?_, ?_, run_le onn s k (by omega), rfl, hR, hK⟩
    · conv => lhs; rw [hd]
      rw [tokL, if_pos hb, ← hd]; rfl
    · rw [run_step hk (by simp [onn, hb])]; omega
  | false =>
    by_cases hn : (s[k].toNat : Int) = 45 ∨ dig s[k] = true
    · obtain ⟨m, hm⟩ : ∃ m, ((s[k].toNat : Int) == 45) = m := ⟨_, rfl⟩
      have hm2 : decide (((s.data.toList.drop k).head?.getD 0).toNat = 45) = m := by
        rw [hd, ← hm]
        show decide (s[k].toNat = 45) = _
        by_cases e : s[k].toNat = 45
        · rw [decide_eq_true e, e]; rfl
        · rw [decide_eq_false e]; symm; rw [beq_eq_false_iff_ne]; omega
      have hdm : m = false → dig s[k] = true := by
        intro e; subst e
        simp at hm
        exact hn.resolve_left (by omega)
      have htok : tokL (s.data.toList.drop k) = numL (s.data.toList.drop k) := by
        conv => lhs; rw [hd]
        rw [tokL, if_neg (by simp [hb]), if_pos (by simp only [Bool.or_eq_true, decide_eq_true_eq]; rcases hn with a | a; exact .inl (by omega); exact .inr a), ← hd]
      have hds : (if m then (s.data.toList.drop k).tail else s.data.toList.drop k) = s.data.toList.drop (if m then k + 1 else k) := by
        cases m
        · rfl
        · exact tail_drop hk
      have hk1 : (if m then k + 1 else k) ≤ s.size := by cases m <;> simp <;> omega
      obtain ⟨k1, hk1e⟩ : ∃ k1, k1 = if m then k + 1 else k := ⟨_, rfl⟩
      rw [← hk1e] at hds hk1
      cases hq : isNum m ((s.data.toList.drop k1).takeWhile dig) with
      | true =>
        refine (token_num w b k s v h hk hs hb m hm hdm k1 hk1e hq).mono ?_
        rintro e w' ⟨rfl, hR, hK⟩
        have hrl := run_le dig s k1 hk1
        have hpos : 0 < run dig s k1 := by
          have := (digits_len _ m hq).1
          unfold run
          exact List.length_pos_iff.2 this
        have e2 : k1 + run dig s k1 = k + (((s.data.toList.drop k1).takeWhile dig).length + if m then 1 else 0) := by
          show k1 + run dig s k1 = k + (run dig s k1 + _)
          rw [hk1e]; cases m <;> simp <;> omega
        refine .inl ⟨_, ((s.data.toList.drop k1).takeWhile dig).length + if m then 1 else 0, ?_, ?_, ?_, rfl, ?_, hK⟩
        · rw [htok, numL]
          simp only [hm2, hds, hq, if_true]
        · show 0 < run dig s k1 + _
          omega
        · rw [← e2]; exact hrl
        · rw [← e2]; exact hR
      | false =>
        refine (token_numbad w b k s v h hk hs hb m hm hdm k1 hk1e hq).mono ?_
        rintro e w' ⟨rfl, hK⟩
        refine .inr ⟨?_, rfl, hK⟩
        rw [htok, numL]
        simp only [hm2, hds, hq, Bool.false_eq_true, if_false]
    · have h45 : ¬ (s[k].toNat : Int) = 45 := fun a => hn (.inl a)
      have hdg : dig s[k] = false := by cases hx : dig s[k] with | false => rfl | true => exact absurd (.inr hx) hn
      have hne : ¬ ((decide (s[k].toNat = 45) || dig s[k]) = true) := by rw [hdg]; simp; omega
      by_cases h34 : (s[k].toNat : Int) = 34
      · refine (token_words w b k s v h hk hs hb h34).mono ?_
        rintro e w' (⟨x, n, hw, rfl, hR, hK⟩ | ⟨hw, rfl, hK⟩)
        · have hle := words_le _ _ _ _ hw
          rw [drop_len] at hle
          refine .inl ⟨_, n + 1, ?_, by omega, by omega, rfl, by rw [show k + (n + 1) = k + 1 + n from by omega]; exact hR, hK⟩
          rw [hd, tokL, if_neg (by simp [hb]), if_neg hne, if_pos (by omega), hw]
        · refine .inr ⟨?_, rfl, hK⟩
          rw [hd, tokL, if_neg (by simp [hb]), if_neg hne, if_pos (by omega), hw]
      · cases hg : sgn s[k] with
        | true =>
          refine (token_sign w b k s v h hk hs hb hdg (by simp; omega) (by simp; omega) hg).mono ?_
          rintro e w' ⟨rfl, hR, hK⟩
          refine .inl ⟨_, 1, ?_, by omega, by omega, rfl, hR, hK⟩
          rw [hd, tokL, if_neg (by simp [hb]), if_neg hne, if_neg (by omega), if_pos hg]
        | false =>
          refine (token_none w b k s v h hk hs hb hdg (by simp; omega) (by simp; omega) hg).mono ?_
          rintro e w' ⟨rfl, hK⟩
          refine .inr ⟨?_, rfl, hK⟩
          rw [hd, tokL, if_neg (by simp [hb]), if_neg hne, if_neg (by omega), if_neg (by rw [hg]; decide)]

end Go.Proofs.YthiagmhijebbgaaGreatDoor
