/- Walks of the reader: a token, whatever stands there. -/
import Derived.Test.YthbnhnnafkkpkaaDoorLex8
namespace Go.Proofs.YthbnhnnafkkpkaaDoor
open Go.RowKit

theorem words_le (l : List UInt8) : ∀ (b : Bool) (x : List UInt8) (n : Nat), wordsL b l = some (x, n) → 0 < n ∧ n ≤ l.length := by
  induction l with
  | nil => intro b x n h; cases b <;> simp [wordsL] at h
  | cons c r ih =>
    intro b x n h
    have go : ∀ (b : Bool) (f : List UInt8 → List UInt8), (wordsL b r).map (fun y => (f y.1, y.2 + 1)) = some (x, n) → 0 < n ∧ n ≤ (c :: r).length := by
      intro b f h
      cases hw : wordsL b r with
      | none => rw [hw] at h; cases h
      | some y =>
        rw [hw] at h
        simp at h
        have := ih b y.1 y.2 hw
        simp; omega
    cases b with
    | true =>
      rw [wordsL] at h
      split at h
      · exact go false (fun y => c :: y) h
      · split at h
        · exact go false (fun y => 10 :: y) h
        · cases h
    | false =>
      rw [wordsL] at h
      split at h
      · simp at h; simp; omega
      · split at h
        · cases h
        · split at h
          · exact go true (fun y => y) h
          · exact go false (fun y => c :: y) h

theorem drop_len {s : ByteArray} {k : Nat} : (s.data.toList.drop k).length = s.size - k := by rw [List.length_drop, size_toList]

theorem tail_drop {s : ByteArray} {k : Nat} (h : k < s.size) : (s.data.toList.drop k).tail = s.data.toList.drop (k + 1) := by rw [drop_at h]; rfl

set_option maxHeartbeats 400000 in
theorem token_any (w : World) (b k : Nat) (s : ByteArray) (v : Value) (h : Rdr w b s k v) (hk : k < s.size) (hs : s.size ≤ 2000) :
    Calls Tryd.prog 35 #[.pointer (some ⟨b, 0, none⟩)] w fun e w' =>
      (∃ t n, tokL (s.data.toList.drop k) = .ok (t, n) ∧ 0 < n ∧ k + n ≤ s.size ∧ e = .returned (tokV t) ∧ Rdr w' b s (k + n) v ∧ Kept (· = b) w w')
      ∨ (tokL (s.data.toList.drop k) = .error 1 ∧ e = fault 1 ∧ Kept (· = b) w w') := by
  have hd := drop_at hk
  cases hb : beg s[k] with
  | true =>
    refine (token_name w b k s v h hk hs hb).mono ?_
    rintro e w' ⟨rfl, hR, hK⟩
    refine .inl ⟨_, _, ?_, ?_, run_le onn s k (by omega), rfl, hR, hK⟩
    · conv => lhs; rw [hd]
      rw [tokL, if_pos hb, ← hd]; rfl
    · rw [run_step hk (by simp [onn, hb])]; omega
  | false =>
    by_cases hn : (s[k].toNat : Int) = 45 ∨ dig s[k] = true
    · obtain ⟨m, hm⟩ : ∃ m, ((s[k].toNat : Int) == 45) = m := ⟨_, rfl⟩
      have hm2 : decide (((s.data.toList.drop k).head?.getD 0).toNat = 45) = m := by
        rw [hd, ← hm]
        show decide (s[k].toNat = 45) = _
        by_cases e : s[k].toNat = 45
        · rw [decide_eq_true e, e]; rfl
        · rw [decide_eq_false e]; symm; rw [beq_eq_false_iff_ne]; omega
      have hdm : m = false → dig s[k] = true := by
        intro e; subst e
        simp at hm
        exact hn.resolve_left (by omega)
      have htok : tokL (s.data.toList.drop k) = numL (s.data.toList.drop k) := by
        conv => lhs; rw [hd]
        rw [tokL, if_neg (by simp [hb]), if_pos (by simp only [Bool.or_eq_true, decide_eq_true_eq]; rcases hn with a | a; exact .inl (by omega); exact .inr a), ← hd]
      have hds : (if m then (s.data.toList.drop k).tail else s.data.toList.drop k) = s.data.toList.drop (if m then k + 1 else k) := by
        cases m
        · rfl
        · exact tail_drop hk
      have hk1 : (if m then k + 1 else k) ≤ s.size := by cases m <;> simp <;> omega
      obtain ⟨k1, hk1e⟩ : ∃ k1, k1 = if m then k + 1 else k := ⟨_, rfl⟩
      rw [← hk1e] at hds hk1
      cases hq : isNum m ((s.data.toList.drop k1).takeWhile dig) with
      | true =>
        refine (token_num w b k s v h hk hs hb m hm hdm k1 hk1e hq).mono ?_
        rintro e w' ⟨rfl, hR, hK⟩
        have hrl := run_le dig s k1 hk1
        have hpos : 0 < run dig s k1 := by
          have := (digits_len _ m hq).1
          unfold run
          exact List.length_pos_iff.2 this
        have e2 : k1 + run dig s k1 = k + (((s.data.toList.drop k1).takeWhile dig).length + if m then 1 else 0) := by
          show k1 + run dig s k1 = k + (run dig s k1 + _)
          rw [hk1e]; cases m <;> simp <;> omega
        refine .inl ⟨_, ((s.data.toList.drop k1).takeWhile dig).length + if m then 1 else 0, ?_, ?_, ?_, rfl, ?_, hK⟩
        · rw [htok, numL]
          simp only [hm2, hds, hq, if_true]
        · show 0 < run dig s k1 + _
          omega
        · rw [← e2]; exact hrl
        · rw [← e2]; exact hR
      | false =>
        refine (token_numbad w b k s v h hk hs hb m hm hdm k1 hk1e hq).mono ?_
        rintro e w' ⟨rfl, hK⟩
        refine .inr ⟨?_, rfl, hK⟩
        rw [htok, numL]
        simp only [hm2, hds, hq, Bool.false_eq_true, if_false]
    · have h45 : ¬ (s[k].toNat : Int) = 45 := fun a => hn (.inl a)
      have hdg : dig s[k] = false := by cases hx : dig s[k] with | false => rfl | true => exact absurd (.inr hx) hn
      have hne : ¬ ((decide (s[k].toNat = 45) || dig s[k]) = true) := by rw [hdg]; simp; omega
      by_cases h34 : (s[k].toNat : Int) = 34
      · refine (token_words w b k s v h hk hs hb h34).mono ?_
        rintro e w' (⟨x, n, hw, rfl, hR, hK⟩ | ⟨hw, rfl, hK⟩)
        · have hle := words_le _ _ _ _ hw
          rw [drop_len] at hle
          refine .inl ⟨_, n + 1, ?_, by omega, by omega, rfl, by rw [show k + (n + 1) = k + 1 + n from by omega]; exact hR, hK⟩
          rw [hd, tokL, if_neg (by simp [hb]), if_neg hne, if_pos (by omega), hw]
        · refine .inr ⟨?_, rfl, hK⟩
          rw [hd, tokL, if_neg (by simp [hb]), if_neg hne, if_pos (by omega), hw]
      · cases hg : sgn s[k] with
        | true =>
          refine (token_sign w b k s v h hk hs hb hdg (by simp; omega) (by simp; omega) hg).mono ?_
          rintro e w' ⟨rfl, hR, hK⟩
          refine .inl ⟨_, 1, ?_, by omega, by omega, rfl, hR, hK⟩
          rw [hd, tokL, if_neg (by simp [hb]), if_neg hne, if_neg (by omega), if_pos hg]
        | false =>
          refine (token_none w b k s v h hk hs hb hdg (by simp; omega) (by simp; omega) hg).mono ?_
          rintro e w' ⟨rfl, hK⟩
          refine .inr ⟨?_, rfl, hK⟩
          rw [hd, tokL, if_neg (by simp [hb]), if_neg hne, if_neg (by omega), if_neg (by rw [hg]; decide)]

end Go.Proofs.YthbnhnnafkkpkaaDoor
