/- What a text is read as: nothing ahead, nothing behind, two texts with a line's end between. No program is named here. -/
import Derived.Test.YtidodjbmlbjchaaGreatHistorystaysupto01
namespace Go.Proofs.YtidodjbmlbjchaaGreat

theorem words_pos (l : List UInt8) : ∀ (b : Bool) (x : List UInt8) (n : Nat), wordsL b l = some (x, n) → 0 < n ∧ n ≤ l.length := by
  induction l with
  | nil => intro b x n h; cases b <;> simp [wordsL] at h
  | cons c r ih =>
    intro b x n h
    have go : ∀ (b : Bool) (f : List UInt8 → List UInt8), (wordsL b r).map (fun y => (f y.1, y.2 + 1)) = some (x, n) → 0 < n ∧ n ≤ (c :: r).length := by
      intro b f h
      cases hw : wordsL b r with
      | none => rw [hw] at h; cases h
      | some y =>
        rw [hw] at h
        simp at h
        have := ih b y.1 y.2 hw
        simp; omega
    cases b with
    | true =>
      rw [wordsL] at h
      split at h
      · exact go false (fun y => c :: y) h
      · split at h
        · exact go false (fun y => 10 :: y) h
        · cases h
    | false =>
      rw [wordsL] at h
      split at h
      · simp at h; simp; omega
      · split at h
        · cases h
        · split at h
          · exact go true (fun y => y) h
          · exact go false (fun y => c :: y) h

/-- what stands behind a text's own end changes nothing of it -/
theorem words_app (l x : List UInt8) : ∀ (b : Bool) (y : List UInt8 × Nat), wordsL b l = some y → wordsL b (l ++ x) = some y := by
  induction l with
  | nil => intro b y h; cases b <;> simp [wordsL] at h
  | cons c r ih =>
    intro b y h
    have go : ∀ (b : Bool) (f : List UInt8 × Nat → List UInt8 × Nat), (wordsL b r).map f = some y → (wordsL b (r ++ x)).map f = some y := by
      intro b f h
      cases hw : wordsL b r with
      | none => rw [hw] at h; cases h
      | some z => rw [ih b z hw]; rw [hw] at h; exact h
    rw [List.cons_append]
    cases b with
    | true =>
      rw [wordsL] at h ⊢
      split at h
      · rw [if_pos (by assumption)]; exact go _ _ h
      · rw [if_neg (by assumption)]
        split at h
        · rw [if_pos (by assumption)]; exact go _ _ h
        · cases h
    | false =>
      rw [wordsL] at h ⊢
      split at h
      · rw [if_pos (by assumption)]; exact h
      · rw [if_neg (by assumption)]
        split at h
        · cases h
        · rw [if_neg (by assumption)]
          split at h
          · rw [if_pos (by assumption)]; exact go _ _ h
          · rw [if_neg (by assumption)]; exact go _ _ h

theorem takeWhile_app (p : UInt8 → Bool) (l x : List UInt8) (hx : ∀ c r, x = c :: r → p c = false) : (l ++ x).takeWhile p = l.takeWhile p := by
  induction l with
  | nil =>
    cases x with
    | nil => rfl
    | cons c r => rw [List.nil_append, List.takeWhile_cons, if_neg (by simp [hx c r rfl])]; rfl
  | cons c r ih =>
    rw [List.cons_append, List.takeWhile_cons, List.takeWhile_cons, ih]

theorem takeWhile_le (p : UInt8 → Bool) (l : List UInt8) : (l.takeWhile p).length ≤ l.length := List.IsPrefix.length_le (List.takeWhile_prefix p)

theorem isNum_pos {m : Bool} {l : List UInt8} (h : isNum m l = true) : 0 < l.length := by
  unfold isNum at h
  cases l with
  | nil => simp at h
  | cons c r => simp

theorem numL_of (l : List UInt8) (m : Bool) (hm : decide ((l.head?.getD 0).toNat = 45) = m) :
    numL l = if isNum m ((if m then l.tail else l).takeWhile dig) then .ok (⟨2, [], if m then -(valD ((if m then l.tail else l).takeWhile dig)) else valD ((if m then l.tail else l).takeWhile dig)⟩, ((if m then l.tail else l).takeWhile dig).length + if m then 1 else 0) else .error 1 := by
  subst hm; rfl

theorem num_pos {l : List UInt8} {t : Tok} {n : Nat} (hl : l ≠ []) (h : numL l = .ok (t, n)) : 0 < n ∧ n ≤ l.length := by
  obtain ⟨m, hm⟩ : ∃ m, decide ((l.head?.getD 0).toNat = 45) = m := ⟨_, rfl⟩
  rw [numL_of l m hm] at h
  cases hq : isNum m ((if m then l.tail else l).takeWhile dig) with
  | false => rw [hq] at h; cases h
  | true =>
    rw [hq, if_pos rfl] at h
    injection h with h
    have h2 := congrArg Prod.snd h
    simp only at h2
    have hp := isNum_pos hq
    cases l with
    | nil => exact absurd rfl hl
    | cons c r =>
      have h1 := takeWhile_le dig r
      have h3 := takeWhile_le dig (c :: r)
      cases m
      · simp only [Bool.false_eq_true, if_false, List.length_cons] at *; omega
      · simp only [if_true, List.tail_cons, List.length_cons] at *; omega

theorem tok_pos {l : List UInt8} {t : Tok} {n : Nat} (h : tokL l = .ok (t, n)) : 0 < n ∧ n ≤ l.length := by
  cases l with
  | nil => cases h
  | cons c r =>
    rw [tokL] at h
    split at h
    · rename_i hb
      injection h with h
      have h2 := congrArg Prod.snd h
      simp only at h2
      have h3 := takeWhile_le onn (c :: r)
      have h4 : ((c :: r).takeWhile onn).length = (r.takeWhile onn).length + 1 := by rw [List.takeWhile_cons, if_pos (by simp only [onn, hb, Bool.true_or])]; simp
      omega
    · split at h
      · exact num_pos (by simp) h
      · split at h
        · split at h
          · cases h
          · rename_i x hw
            injection h with h
            have h2 := congrArg Prod.snd h
            simp only at h2
            have := words_pos _ _ x.1 x.2 hw
            simp; omega
        · split at h
          · injection h with h
            have h2 := congrArg Prod.snd h
            simp only at h2
            simp; omega
          · cases h

/-- a token that stands whole ahead of a line's end is the same token -/
theorem tok_app {l x : List UInt8} {y : Tok × Nat} (h : tokL l = .ok y) (hx : ∀ c r, x = c :: r → c.toNat = 10) : tokL (l ++ x) = .ok y := by
  have hon : ∀ c r, x = c :: r → onn c = false := by intro c r e; have := hx c r e; simp [this]
  have hdg : ∀ c r, x = c :: r → dig c = false := by intro c r e; have := hx c r e; simp [this]
  cases l with
  | nil => cases h
  | cons c r =>
    rw [tokL] at h
    rw [List.cons_append, tokL]
    have e1 : (c :: (r ++ x)).takeWhile onn = (c :: r).takeWhile onn := takeWhile_app onn (c :: r) x hon
    have e2 : numL (c :: (r ++ x)) = numL (c :: r) := by
      obtain ⟨m, hm⟩ : ∃ m, decide (c.toNat = 45) = m := ⟨_, rfl⟩
      rw [numL_of (c :: (r ++ x)) m (by exact hm), numL_of (c :: r) m (by exact hm)]
      have a1 := takeWhile_app dig (c :: r) x hdg
      have a2 := takeWhile_app dig r x hdg
      rw [List.cons_append] at a1
      cases m
      · simp only [Bool.false_eq_true, if_false, a1]
      · simp only [if_true, List.tail_cons, a2]
    rw [e1, e2]
    split at h
    · rw [if_pos (by assumption)]; exact h
    · rw [if_neg (by assumption)]
      split at h
      · rw [if_pos (by assumption)]; exact h
      · rw [if_neg (by assumption)]
        split at h
        · rw [if_pos (by assumption)]
          split at h
          · cases h
          · rename_i z hw
            rw [words_app r x false z hw]; exact h
        · rw [if_neg (by assumption)]; exact h

/-- more rounds than bytes: how many does not matter -/
theorem readF_more (f : Nat) : ∀ (l : List UInt8) (m : Nat), l.length < f → readF (f + 1) l m = readF f l m := by
  induction f with
  | zero => intro l m h; omega
  | succ f ih =>
    intro l m h
    rw [readF]
    conv => rhs; rw [readF]
    have hd : (l.drop (skipN false l)).length ≤ l.length := by rw [List.length_drop]; omega
    cases hl : l.drop (skipN false l) with
    | nil => rfl
    | cons c r =>
      rw [hl] at hd
      simp only
      cases ht : tokL (c :: r) with
      | error e => rfl
      | ok y =>
        obtain ⟨t, n⟩ := y
        have hp := tok_pos ht
        simp only
        rw [ih _ _ (by rw [List.length_drop]; omega)]

theorem readF_any {f g : Nat} {l : List UInt8} {m : Nat} (hf : l.length < f) (hg : l.length < g) : readF f l m = readF g l m := by
  have key : ∀ d k, l.length < k → readF (k + d) l m = readF k l m := by
    intro d
    induction d with
    | zero => intro k _; rfl
    | succ d ih => intro k hk; rw [← Nat.add_assoc, readF_more _ _ _ (by omega), ih k hk]
  rcases Nat.le_total f g with h | h
  · have := key (g - f) f hf
    rw [show f + (g - f) = g from by omega] at this
    exact this.symm
  · have := key (f - g) g hg
    rw [show g + (f - g) = f from by omega] at this
    exact this

/-- what is nothing ahead changes nothing -/
theorem readF_ahead {f : Nat} {p l : List UInt8} {m : Nat} (hp : skipN false (p ++ l) = p.length + skipN false l) : readF (f + 1) (p ++ l) m = readF (f + 1) l m := by
  rw [readF]
  conv => rhs; rw [readF]
  rw [hp, ← List.drop_drop, List.drop_left]

theorem skip_app (l x : List UInt8) : ∀ b, (∀ c r, x = c :: r → c.toNat = 10) →
    (skipN b l = l.length ∧ skipN b (l ++ x) = l.length + skipN false x) ∨ (skipN b l < l.length ∧ skipN b (l ++ x) = skipN b l) := by
  intro b hx
  induction l generalizing b with
  | nil =>
    refine .inl ⟨by cases b <;> rfl, ?_⟩
    cases x with
    | nil => cases b <;> rfl
    | cons c r =>
      have := hx c r rfl
      cases b
      · simp
      · simp only [List.nil_append, List.length_nil, Nat.zero_add]
        have e1 : skipN true (c :: r) = skipN false r + 1 := by rw [skipN, if_pos this]
        have e2 : skipN false (c :: r) = skipN false r + 1 := by rw [skipN, if_pos (by simp [wh, this])]
        rw [e1, e2]
  | cons c r ih =>
    rw [List.cons_append]
    have lift : ∀ b' , ((skipN b' r = r.length ∧ skipN b' (r ++ x) = r.length + skipN false x) ∨ (skipN b' r < r.length ∧ skipN b' (r ++ x) = skipN b' r)) →
        (skipN b' r + 1 = (c :: r).length ∧ skipN b' (r ++ x) + 1 = (c :: r).length + skipN false x) ∨ (skipN b' r + 1 < (c :: r).length ∧ skipN b' (r ++ x) + 1 = skipN b' r + 1) := by
      intro b' h
      rcases h with ⟨h1, h2⟩ | ⟨h1, h2⟩
      · exact .inl ⟨by simp [h1], by rw [h2]; simp; omega⟩
      · exact .inr ⟨by simp; omega, by rw [h2]⟩
    cases b
    · rw [skipN, skipN]
      split
      · exact lift false (ih false)
      · split
        · exact lift true (ih true)
        · exact .inr ⟨by simp, rfl⟩
    · rw [skipN, skipN]
      split
      · exact lift false (ih false)
      · exact lift true (ih true)

/-- TWO TEXTS WITH A LINE's END BETWEEN -/
theorem readF_parts (f : Nat) : ∀ (s x : List UInt8) (m : Nat) (A : List Tok), (∀ c r, x = c :: r → c.toNat = 10) → s.length < f → readF f s m = .ok A →
    readF (f + x.length) (s ++ x) m = (readF (f + x.length) x (m + A.length)).map (A ++ ·) := by
  induction f with
  | zero => intro s x m A _ h; omega
  | succ f ih =>
    intro s x m A hx hs h
    rw [readF] at h
    rcases skip_app s x false hx with ⟨h1, h2⟩ | ⟨h1, h2⟩
    · rw [h1, List.drop_length] at h
      injection h with h
      subst h
      rw [show f + 1 + x.length = (f + x.length) + 1 from by omega]
      rw [readF_ahead (by rw [h2])]
      simp only [List.length_nil, Nat.add_zero]
      cases readF (f + x.length + 1) x m <;> simp [Except.map]
    · have hd : (s ++ x).drop (skipN false s) = s.drop (skipN false s) ++ x := by rw [List.drop_append_of_le_length (by omega)]
      rw [show f + 1 + x.length = (f + x.length) + 1 from by omega, readF, h2, hd]
      cases hl : s.drop (skipN false s) with
      | nil =>
        have := congrArg List.length hl
        rw [List.length_drop] at this
        simp at this
        omega
      | cons c r =>
        rw [hl] at h
        have hlen : (c :: r).length ≤ s.length := by rw [← hl, List.length_drop]; omega
        simp only at h
        rw [List.cons_append]
        simp only
        cases ht : tokL (c :: r) with
        | error e => rw [ht] at h; cases h
        | ok y =>
          obtain ⟨t, n⟩ := y
          have ht2 := tok_app ht hx
          rw [List.cons_append] at ht2
          have hp := tok_pos ht
          rw [ht] at h
          rw [ht2]
          simp only at h ⊢
          by_cases hw : wrongT t = 0
          · rw [if_neg (by simp [hw])] at h ⊢
            by_cases h300 : m = 300
            · rw [if_pos h300] at h; cases h
            · rw [if_neg h300] at h ⊢
              cases hr : readF f ((c :: r).drop n) (m + 1) with
              | error e => rw [hr] at h; cases h
              | ok B =>
                rw [hr] at h
                injection h with h
                subst h
                have hdr : (c :: (r ++ x)).drop n = (c :: r).drop n ++ x := by rw [← List.cons_append, List.drop_append_of_le_length (by omega)]
                rw [hdr, ih _ x (m + 1) B hx (by rw [List.length_drop]; omega) hr]
                rw [List.length_cons, show m + 1 + B.length = m + (B.length + 1) from by omega]
                have e3 : readF (f + x.length) x (m + (B.length + 1)) = readF (f + x.length + 1) x (m + (B.length + 1)) := by
                  cases f with
                  | zero => exfalso; rw [List.length_cons] at hlen; omega
                  | succ f => exact readF_any (by omega) (by omega)
                rw [e3]
                cases readF (f + x.length + 1) x (m + (B.length + 1)) <;> simp [Except.map]
          · rw [if_pos hw] at h; cases h

/-- fewer tokens ahead do no harm -/
theorem readF_count (f : Nat) : ∀ (l : List UInt8) (m k : Nat) (B : List Tok), readF f l m = .ok B → k + B.length ≤ 300 → readF f l k = .ok B := by
  induction f with
  | zero => intro l m k B h _; rw [readF] at h ⊢; exact h
  | succ f ih =>
    intro l m k B h hk
    rw [readF] at h ⊢
    cases hl : l.drop (skipN false l) with
    | nil => rw [hl] at h; exact h
    | cons c r =>
      rw [hl] at h
      simp only at h ⊢
      cases ht : tokL (c :: r) with
      | error e => rw [ht] at h; cases h
      | ok y =>
        obtain ⟨t, n⟩ := y
        rw [ht] at h
        simp only at h ⊢
        by_cases hw : wrongT t = 0
        · rw [if_neg (by simp [hw])] at h ⊢
          by_cases h300 : m = 300
          · rw [if_pos h300] at h; cases h
          · rw [if_neg h300] at h
            cases hr : readF f ((c :: r).drop n) (m + 1) with
            | error e => rw [hr] at h; cases h
            | ok B' =>
              rw [hr] at h
              injection h with h
              subst h
              rw [List.length_cons] at hk
              rw [if_neg (by omega), ih _ _ (k + 1) B' hr (by omega)]; rfl
        · rw [if_pos hw] at h; cases h

/-- no more tokens are read than MaxTokens -/
theorem readF_len (f : Nat) : ∀ (l : List UInt8) (m : Nat) (B : List Tok), readF f l m = .ok B → m ≤ 300 → m + B.length ≤ 300 := by
  induction f with
  | zero => intro l m B h hm; rw [readF] at h; injection h with h; subst h; simpa using hm
  | succ f ih =>
    intro l m B h hm
    rw [readF] at h
    cases hl : l.drop (skipN false l) with
    | nil => rw [hl] at h; injection h with h; subst h; simpa using hm
    | cons c r =>
      rw [hl] at h
      simp only at h
      cases ht : tokL (c :: r) with
      | error e => rw [ht] at h; cases h
      | ok y =>
        obtain ⟨t, n⟩ := y
        rw [ht] at h
        simp only at h
        by_cases hw : wrongT t = 0
        · rw [if_neg (by simp [hw])] at h
          by_cases h300 : m = 300
          · rw [if_pos h300] at h; cases h
          · rw [if_neg h300] at h
            cases hr : readF f ((c :: r).drop n) (m + 1) with
            | error e => rw [hr] at h; cases h
            | ok B' =>
              rw [hr] at h
              injection h with h
              subst h
              have := ih _ _ B' hr (by omega)
              rw [List.length_cons]; omega
        · rw [if_pos hw] at h; cases h

theorem lexRead_len {l : List UInt8} {T : List Tok} (h : lexRead l = .ok T) : T.length ≤ 300 := by
  unfold lexRead at h
  split at h
  · cases h
  · have := readF_len _ _ _ _ h (by omega)
    omega

/-- LexParts -/
theorem lexRead_parts {s t : List UInt8} {A B : List Tok} (ha : lexRead s = .ok A) (hb : lexRead t = .ok B) (hl : s.length + t.length + 1 ≤ 2000) (hn : A.length + B.length ≤ 300) :
    lexRead (s ++ 10 :: t) = .ok (A ++ B) := by
  unfold lexRead at *
  rw [if_neg (by omega)] at ha hb
  rw [if_neg (by rw [List.length_append, List.length_cons]; omega)]
  have h1 := readF_parts _ s (10 :: t) 0 A (by intro c r e; cases e; rfl) (by omega) ha
  rw [readF_any (g := s.length + 1 + (10 :: t).length) (by omega) (by rw [List.length_append]; omega), h1, Nat.zero_add]
  have h2 : readF (s.length + 1 + (10 :: t).length) (10 :: t) A.length = .ok B := by
    have e := readF_ahead (f := s.length + (10 :: t).length) (p := [10]) (l := t) (m := A.length) (by
      rw [List.cons_append, List.nil_append, skipN, if_pos (by simp [wh])]; simp only [List.length_cons, List.length_nil]; omega)
    rw [show s.length + 1 + (10 :: t).length = s.length + (10 :: t).length + 1 from by omega]
    rw [show [10] ++ t = 10 :: t from rfl] at e
    rw [e, readF_any (g := t.length + 1) (by simp; omega) (by omega)]
    exact readF_count _ _ _ _ _ hb hn
  rw [h2]; rfl

theorem skip_remark (c r : List UInt8) (hc : ∀ x ∈ c, x.toNat ≠ 10) : skipN true (c ++ 10 :: r) = c.length + 1 + skipN false r := by
  induction c with
  | nil => rw [List.nil_append, skipN, if_pos (by decide)]; simp only [List.length_nil]; omega
  | cons x c ih =>
    rw [List.cons_append, skipN, if_neg (hc x (by simp)), ih (fun y hy => hc y (by simp [hy]))]
    simp; omega
theorem skip_remark_end (c : List UInt8) (hc : ∀ x ∈ c, x.toNat ≠ 10) : skipN true c = c.length := by
  induction c with
  | nil => rfl
  | cons x c ih =>
    rw [skipN, if_neg (hc x (by simp)), ih (fun y hy => hc y (by simp [hy]))]
    simp

/-- LexBlank: ahead -/
theorem lexRead_ahead {s c : List UInt8} (hc : ∀ x ∈ c, x.toNat ≠ 10) (hl : s.length + c.length + 9 ≤ 2000) : lexRead ([44, 35, 32] ++ c ++ [10, 9] ++ s) = lexRead s := by
  unfold lexRead
  rw [if_neg (by simp; omega), if_neg (by omega)]
  have hp : skipN false (([44, 35, 32] ++ c ++ [10, 9]) ++ s) = ([44, 35, 32] ++ c ++ [10, 9]).length + skipN false s := by
    have e : ([44, 35, 32] ++ c ++ [10, 9]) ++ s = 44 :: 35 :: ((32 :: c) ++ 10 :: (9 :: s)) := by simp
    rw [e, skipN, if_pos (by simp [wh]), skipN, if_neg (by simp [wh]), if_pos (by rfl), skip_remark _ _ (by
      intro x hx
      rcases List.mem_cons.1 hx with rfl | h
      · decide
      · exact hc x h), skipN, if_pos (by simp [wh])]
    simp; omega
  rw [readF_ahead hp]
  exact readF_any (by simp; omega) (by omega)

/-- LexBlank: behind -/
theorem lexRead_behind {s c : List UInt8} {A : List Tok} (hc : ∀ x ∈ c, x.toNat ≠ 10) (hl : s.length + c.length + 9 ≤ 2000) (ha : lexRead s = .ok A) : lexRead (s ++ [10, 35] ++ c) = .ok A := by
  have hb : lexRead (35 :: c) = .ok [] := by
    unfold lexRead
    rw [if_neg (by simp; omega), readF, skipN, if_neg (by simp [wh]), if_pos (by rfl), skip_remark_end c hc]
    rw [show (35 :: c).drop (c.length + 1) = [] from List.drop_eq_nil_of_le (by simp)]
  have := lexRead_parts ha hb (by simp; omega) (by have := lexRead_len ha; simp; omega)
  simpa using this

end Go.Proofs.YtidodjbmlbjchaaGreat
