/- What is printed is read as it was; what is read is right. No program is named here. -/
import Derived.Test.YtidodjbmlbjchaaGreatHistorystaysupto02
namespace Go.Proofs.YtidodjbmlbjchaaGreat

theorem readF_right (f : Nat) : ∀ (l : List UInt8) (m : Nat) (B : List Tok), readF f l m = .ok B → checkF B = 0 := by
  induction f with
  | zero => intro l m B h; rw [readF] at h; injection h with h; subst h; rfl
  | succ f ih =>
    intro l m B h
    rw [readF] at h
    cases hl : l.drop (skipN false l) with
    | nil => rw [hl] at h; injection h with h; subst h; rfl
    | cons c r =>
      rw [hl] at h
      simp only at h
      cases ht : tokL (c :: r) with
      | error e => rw [ht] at h; cases h
      | ok y =>
        obtain ⟨t, n⟩ := y
        rw [ht] at h
        simp only at h
        by_cases hw : wrongT t = 0
        · rw [if_neg (by simp [hw])] at h
          by_cases h300 : m = 300
          · rw [if_pos h300] at h; cases h
          · rw [if_neg h300] at h
            cases hr : readF f ((c :: r).drop n) (m + 1) with
            | error e => rw [hr] at h; cases h
            | ok B' =>
              rw [hr] at h
              injection h with h
              subst h
              rw [checkF, if_neg (by simp [hw])]
              exact ih _ _ B' hr
        · rw [if_pos hw] at h; cases h

/-- what is read is right -/
theorem lexRead_right {l : List UInt8} {T : List Tok} (h : lexRead l = .ok T) : lexCheck T = 0 := by
  have hl := lexRead_len h
  unfold lexCheck
  rw [if_neg (by omega)]
  unfold lexRead at h
  split at h
  · cases h
  · exact readF_right _ _ _ _ h

theorem dd_digit {d : Nat} (h : d < 10) : (UInt8.ofNat (48 + d)).toNat = 48 + d := by
  rw [UInt8.toNat_ofNat']; omega

theorem dd_all (u : Nat) : ∀ c ∈ Lib.decDigits u, dig c = true := by
  induction u using Nat.strongRecOn with
  | _ u ih =>
    intro c hc
    by_cases h : u < 10
    · rw [Lib.decDigits, dif_pos h] at hc
      rw [List.mem_singleton] at hc
      subst hc
      have := dd_digit h
      simp only [dig, Bool.and_eq_true, decide_eq_true_eq]; omega
    · rw [Lib.decDigits, dif_neg h] at hc
      rcases List.mem_append.1 hc with h1 | h1
      · exact ih (u / 10) (by omega) c h1
      · rw [List.mem_singleton] at h1
        subst h1
        have := dd_digit (show u % 10 < 10 by omega)
        simp only [dig, Bool.and_eq_true, decide_eq_true_eq]; omega

theorem dd_val (u : Nat) : valD (Lib.decDigits u) = u := by
  unfold valD
  induction u using Nat.strongRecOn with
  | _ u ih =>
    by_cases h : u < 10
    · rw [Lib.decDigits, dif_pos h, List.foldl_cons, List.foldl_nil, dd_digit h]; omega
    · rw [Lib.decDigits, dif_neg h, List.foldl_append, ih (u / 10) (by omega), List.foldl_cons, List.foldl_nil, dd_digit (by omega)]; omega

theorem dd_ne (u : Nat) : Lib.decDigits u ≠ [] := by
  rw [Lib.decDigits]
  split <;> simp

theorem dd_head (u : Nat) (h0 : 0 < u) : ((Lib.decDigits u).head?.getD 0).toNat ≠ 48 := by
  induction u using Nat.strongRecOn with
  | _ u ih =>
    by_cases h : u < 10
    · rw [Lib.decDigits, dif_pos h]
      simp only [List.head?_cons, Option.getD_some]
      rw [dd_digit h]; omega
    · rw [Lib.decDigits, dif_neg h]
      have hn := dd_ne (u / 10)
      cases hd : Lib.decDigits (u / 10) with
      | nil => exact absurd hd hn
      | cons a r =>
        have := ih (u / 10) (by omega) (by omega)
        rw [hd] at this
        exact this

theorem nd_le : ∀ (k u : Nat), u < 10 ^ (k + 1) → Lib.nDigits u ≤ k + 1
  | 0, u, h => by rw [Lib.nDigits_small (by simpa using h)]; omega
  | k + 1, u, h => by
    by_cases h1 : u < 10
    · rw [Lib.nDigits_small h1]; omega
    · rw [Lib.nDigits_big h1]
      have := nd_le k (u / 10) (by rw [Nat.pow_succ] at h; omega)
      omega

theorem dd_len (u : Nat) (h : u ≤ 999999999) : (Lib.decDigits u).length ≤ 9 := by
  rw [Lib.decDigits_length]
  exact nd_le 8 u (by omega)

theorem dd_num (u : Nat) (h : u ≤ 999999999) (m : Bool) (hm : m = true → 0 < u) : isNum m (Lib.decDigits u) = true := by
  have h1 := dd_len u h
  have h2 := dd_ne u
  unfold isNum
  by_cases h0 : 0 < u
  · have h3 := dd_head u h0
    simp [h2, h3]; omega
  · obtain rfl : u = 0 := by omega
    have : m = false := by cases m with | false => rfl | true => exact absurd (hm rfl) (by omega)
    subst this
    rw [show Lib.decDigits 0 = [48] from by rw [Lib.decDigits, dif_pos (by decide)]; rfl]
    rfl

theorem tw_all (p : UInt8 → Bool) (l x : List UInt8) (hl : ∀ c ∈ l, p c = true) (hx : ∀ c r, x = c :: r → p c = false) : (l ++ x).takeWhile p = l := by
  rw [takeWhile_app p l x hx]
  clear hx
  induction l with
  | nil => rfl
  | cons c r ih => rw [List.takeWhile_cons, if_pos (hl c (by simp)), ih (fun d hd => hl d (by simp [hd]))]

/-- a quoted text is read as it was -/
theorem words_quoted (s x : List UInt8) : wordsL false (s.flatMap quoteC ++ 34 :: x) = some (s, (s.flatMap quoteC).length + 1) := by
  induction s with
  | nil => simp [wordsL]
  | cons c s ih =>
    rw [List.flatMap_cons, List.append_assoc]
    unfold quoteC
    by_cases h1 : c.toNat = 34 ∨ c.toNat = 92
    · rw [if_pos h1]
      rw [List.cons_append, List.cons_append, List.nil_append, wordsL, if_neg (by decide), if_neg (by decide), if_pos (by decide), wordsL, if_pos h1]
      unfold quoteC at ih
      rw [ih]; simp
    · rw [if_neg h1]
      by_cases h2 : c.toNat = 10
      · rw [if_pos h2]
        have hc : c = 10 := UInt8.toNat_inj.1 (by rw [h2]; rfl)
        rw [List.cons_append, List.cons_append, List.nil_append, wordsL, if_neg (by decide), if_neg (by decide), if_pos (by decide), wordsL, if_neg (by decide), if_pos (by decide)]
        unfold quoteC at ih
        rw [ih, hc]; simp
      · rw [if_neg h2]
        rw [List.cons_append, List.nil_append, wordsL, if_neg (by omega), if_neg h2, if_neg (by omega)]
        unfold quoteC at ih
        rw [ih]; simp

/-- a right token's bytes, a blank or the end behind them, are that token -/
theorem tok_written {t : Tok} {x : List UInt8} (h : wrongT t = 0) (hx : ∀ c r, x = c :: r → c.toNat = 32) :
    ∃ c r, writtenT t = c :: r ∧ wh c = false ∧ c.toNat ≠ 35 ∧ tokL (c :: (r ++ x)) = .ok (t, (c :: r).length) := by
  have hon : ∀ c r, x = c :: r → onn c = false := by intro c r e; have := hx c r e; simp [this]
  have hdg : ∀ c r, x = c :: r → dig c = false := by intro c r e; have := hx c r e; simp [this]
  obtain ⟨k, s, n⟩ := t
  unfold wrongT at h
  unfold writtenT
  simp only at h ⊢
  by_cases k1 : k = 1
  · subst k1
    rw [if_pos rfl] at h
    split at h
    · exact absurd h (by decide)
    · rename_i hn
      split at h
      · exact absurd h (by decide)
      · split at h
        · rename_i hok
          rw [if_neg (by decide), if_neg (by decide)]
          have hn : n = 0 := by omega
          subst hn
          unfold nameOk at hok
          rw [Bool.and_eq_true, Bool.and_eq_true] at hok
          obtain ⟨ha, _, hb⟩ := hok
          cases s with
          | nil => simp at hb
          | cons c r =>
            simp only [List.head?_cons, Option.getD_some] at hb
            refine ⟨c, r, rfl, ?_, ?_, ?_⟩
            · simp [beg] at hb; simp [wh]; omega
            · simp [beg] at hb; omega
            · rw [tokL, if_pos hb]
              have e := tw_all onn (c :: r) x (fun d hd => List.all_eq_true.1 ha d hd) hon
              rw [List.cons_append] at e
              rw [e]
        · exact absurd h (by decide)
  · rw [if_neg k1] at h
    by_cases k2 : k = 2
    · subst k2
      rw [if_pos rfl] at h
      split at h
      · exact absurd h (by decide)
      · rename_i hs
        split at h
        · exact absurd h (by decide)
        · rename_i hr
          have hs : s = [] := by simpa using hs
          subst hs
          rw [if_pos rfl]
          by_cases hneg : n < 0
          · have e : Lib.itoa n = 45 :: Lib.decDigits n.natAbs := by unfold Lib.itoa; rw [if_pos hneg]
            rw [e]
            refine ⟨_, _, rfl, by decide, by decide, ?_⟩
            rw [tokL, if_neg (by decide), if_pos (by decide), numL_of _ true (by rfl)]
            simp only [if_true, List.tail_cons]
            rw [tw_all dig _ x (dd_all _) hdg, dd_num _ (by omega) true (fun _ => by omega), if_pos rfl, dd_val]
            rw [show -((n.natAbs : Nat) : Int) = n from by omega]; rfl
          · have e : Lib.itoa n = Lib.decDigits n.toNat := by unfold Lib.itoa; rw [if_neg hneg]
            rw [e]
            have hne := dd_ne n.toNat
            have hall := dd_all n.toNat
            have hnum := dd_num n.toNat (by omega) false (fun f => by cases f)
            have hval := dd_val n.toNat
            have htw := tw_all dig _ x hall hdg
            cases hd : Lib.decDigits n.toNat with
            | nil => exact absurd hd hne
            | cons c r =>
              rw [hd] at hall hnum hval htw
              have hc := hall c (by simp)
              rw [List.cons_append] at htw
              refine ⟨c, r, rfl, ?_, ?_, ?_⟩
              · simp [dig] at hc; simp [wh]; omega
              · simp [dig] at hc; omega
              · rw [tokL, if_neg (by simp [dig] at hc; simp [beg]; omega), if_pos (by rw [hc]; simp), numL_of _ false (decide_eq_false (by simp [dig] at hc; show c.toNat ≠ 45; omega))]
                simp only [Bool.false_eq_true, if_false]
                rw [htw, hnum, if_pos rfl, hval]
                rw [show ((n.toNat : Nat) : Int) = n from by omega]; rfl
    · rw [if_neg k2] at h
      by_cases k3 : k = 3
      · subst k3
        rw [if_pos rfl] at h
        split at h
        · exact absurd h (by decide)
        · rename_i hn
          have hn : n = 0 := by omega
          subst hn
          rw [if_neg (by decide), if_pos rfl]
          refine ⟨34, s.flatMap quoteC ++ [34], rfl, by decide, by decide, ?_⟩
          rw [tokL, if_neg (by decide), if_neg (by decide), if_pos (by decide)]
          rw [show s.flatMap quoteC ++ [34] ++ x = s.flatMap quoteC ++ 34 :: x from by simp, words_quoted]
          simp
      · rw [if_neg k3] at h
        by_cases k4 : k = 4
        · subst k4
          rw [if_pos rfl] at h
          split at h
          · exact absurd h (by decide)
          · rename_i hno
            rw [if_neg (by decide), if_neg (by decide)]
            have hn : n = 0 := by omega
            have hl : s.length = 1 := by omega
            have hg : sgn (s.head?.getD 0) = true := by cases hq : sgn (s.head?.getD 0) with | true => rfl | false => exact absurd (Or.inr (Or.inr hq)) hno
            subst hn
            obtain ⟨c, rfl⟩ := List.length_eq_one_iff.1 hl
            simp only [List.head?_cons, Option.getD_some] at hg
            have key : ∀ d : UInt8, sgn d = true → wh d = false ∧ d.toNat ≠ 35 ∧ beg d = false ∧ (decide (d.toNat = 45) || dig d) = false ∧ d.toNat ≠ 34 := by
              intro d hd
              have hd : d ∈ ([123, 125, 40, 41, 58, 91, 93] : List UInt8) := List.contains_iff_mem.1 hd
              simp only [List.mem_cons, List.not_mem_nil, or_false] at hd
              rcases hd with rfl | rfl | rfl | rfl | rfl | rfl | rfl <;> decide
            obtain ⟨a1, a2, a3, a4, a5⟩ := key c hg
            refine ⟨c, [], rfl, a1, a2, ?_⟩
            rw [tokL, if_neg (by simp [a3]), if_neg (by simp [a4]), if_neg a5, if_pos hg]; rfl
        · rw [if_neg k4] at h
          exact absurd h (by decide)

theorem readF_print (l : List Tok) : ∀ (f m : Nat), checkF l = 0 → m + l.length ≤ 300 → (printF l).length < f → readF f (printF l) m = .ok l := by
  induction l with
  | nil => intro f m _ _ hf; cases f with | zero => simp [printF] at hf | succ f => rfl
  | cons t r ih =>
    intro f m hck hm hf
    rw [checkF] at hck
    have hw : wrongT t = 0 := by
      by_cases h : wrongT t = 0
      · exact h
      · rw [if_pos h] at hck; exact absurd hck h
    rw [if_neg (by simp [hw])] at hck
    obtain ⟨x, hpx, hx, hrx⟩ : ∃ x, printF (t :: r) = writtenT t ++ x ∧ (∀ c q, x = c :: q → c.toNat = 32) ∧ ((r = [] ∧ x = []) ∨ x = 32 :: printF r) := by
      cases r with
      | nil => exact ⟨[], by simp [printF], (fun c q e => nomatch e), .inl ⟨rfl, rfl⟩⟩
      | cons u r => exact ⟨32 :: printF (u :: r), by simp [printF], (fun c q e => by cases e; rfl), .inr rfl⟩
    obtain ⟨c, q, hc, hwh, h35, htok⟩ := tok_written hw hx
    rw [hpx, hc, List.cons_append] at hf ⊢
    cases f with
    | zero => omega
    | succ f =>
      rw [readF, skip_stop c _ hwh h35, List.drop_zero]
      simp only
      rw [htok]
      simp only
      rw [List.length_cons] at hm
      rw [if_neg (by simp [hw]), if_neg (by omega)]
      rw [show (c :: (q ++ x)).drop (c :: q).length = x from by rw [← List.cons_append, List.drop_left]]
      rw [List.length_cons, List.length_append] at hf
      rcases hrx with ⟨rfl, rfl⟩ | rfl
      · cases f <;> rfl
      · rw [List.length_cons] at hf
        cases f with
        | zero => omega
        | succ f =>
          have e := readF_ahead (f := f) (p := [32]) (l := printF r) (m := m + 1) (by
            rw [List.cons_append, List.nil_append, skipN, if_pos (by decide)]; simp only [List.length_cons, List.length_nil]; omega)
          rw [List.cons_append, List.nil_append] at e
          rw [e, ih (f + 1) (m + 1) hck (by omega) (by omega)]; rfl

/-- WHAT IS PRINTED IS READ AS IT WAS -/
theorem lexRead_print {l : List Tok} (h : lexCheck l = 0) (hl : (printF l).length ≤ 2000) : lexRead (printF l) = .ok l := by
  unfold lexCheck at h
  split at h
  · exact absurd h (by decide)
  · unfold lexRead
    rw [if_neg (by omega)]
    exact readF_print l _ 0 h (by omega) (by omega)

end Go.Proofs.YtidodjbmlbjchaaGreat
