/- Batches as bytes, in plain Lean: what Check, Encode and Decode of chapter 10 answer. No program is named here. -/
import Derived.Test.YtillhpepfpldcaaDisktells01
namespace Go.Proofs.Ytillhpepfpldcaa

structure BatchT where
  number : Int
  events : List EventT
deriving DecidableEq

def rangeE (e : EventT) : Bool := isIx e.ty 5 && isIdT e.id && isIx e.field 6 && (decide (-999999999 ≤ e.n) && decide (e.n ≤ 999999999))
def wrongE (e : EventT) : Int := if shapeE e ≠ 0 then shapeE e else if rangeE e = false then 3 else if 40 < e.text.length then 2 else 0
def wrongEs : List EventT → Int
  | [] => 0
  | e :: r => if wrongE e ≠ 0 then wrongE e else wrongEs r
def checkBa (b : BatchT) : Int :=
  if b.number < 1 ∨ 65535 < b.number then 3 else if b.events.length = 0 then 1 else if 8 < b.events.length then 2 else wrongEs b.events

/-- a number in so many bytes, the greatest one first -/
def beN : Nat → Nat → List UInt8
  | 0, _ => []
  | k + 1, n => beN k (n / 256) ++ [UInt8.ofNat (n % 256)]
/-- a number of so many bytes, and what is left -/
def numF : Nat → Nat → List UInt8 → Option (Nat × List UInt8)
  | 0, a, l => some (a, l)
  | _ + 1, _, [] => none
  | k + 1, a, c :: r => numF k (a * 256 + c.toNat) r

def evB (e : EventT) : List UInt8 :=
  beN 1 e.kind.toNat ++ (beN 1 e.ty.toNat ++ (beN 2 e.id.toNat ++
    (if namesF e.kind then beN 1 e.field.toNat ++ (if namesT e.kind then beN 1 e.text.length ++ e.text else beN 4 (e.n + 999999999).toNat) else [])))
def innerB (b : BatchT) : List UInt8 := beN 2 b.number.toNat ++ (beN 1 b.events.length ++ b.events.flatMap evB)
def bytesB (b : BatchT) : List UInt8 := beN 2 (innerB b).length ++ innerB b

/-- what an event has behind its head: its field, its number or its text -/
def readTail (k ty id : Nat) (l : List UInt8) : Option (EventT × List UInt8) :=
  if namesF k = false then some (⟨k, ty, id, 0, 0, []⟩, l)
  else match numF 1 0 l with
    | none => none
    | some (f, l) =>
      if namesT k then (match numF 1 0 l with | none => none | some (m, l) => if l.length < m then none else some (⟨k, ty, id, f, 0, l.take m⟩, l.drop m))
      else (match numF 4 0 l with | none => none | some (n, l) => some (⟨k, ty, id, f, (n : Int) - 999999999, []⟩, l))
def readE (l : List UInt8) : Option (EventT × List UInt8) :=
  match numF 1 0 l with
  | none => none
  | some (k, l) => if evKind k = false then none else match numF 1 0 l with
    | none => none
    | some (ty, l) => match numF 2 0 l with
      | none => none
      | some (id, l) => readTail k ty id l
def readEs : Nat → List UInt8 → Option (List EventT × List UInt8)
  | 0, l => some ([], l)
  | n + 1, l => match readE l with
    | none => none
    | some (e, l) => match readEs n l with | none => none | some (es, l) => some (e :: es, l)
def readB (l : List UInt8) : Option BatchT :=
  match numF 2 0 l with
  | none => none
  | some (num, l) => match numF 1 0 l with
    | none => none
    | some (n, l) => match readEs n l with | none => none | some (es, l) => if l = [] then some ⟨num, es⟩ else none
def decodeB (s : List UInt8) : Except Int (BatchT × Nat) :=
  match numF 2 0 s with
  | none => .error 5
  | some (m, r) => if r.length < m then .error 5 else match readB (r.take m) with
    | none => .error 1
    | some b => if checkBa b ≠ 0 then .error (checkBa b) else .ok (b, m + 2)

theorem beN_len (k : Nat) : ∀ n, (beN k n).length = k := by
  induction k with
  | zero => intro n; rfl
  | succ k ih => intro n; rw [beN, List.length_append, ih]; rfl

/-- numbers: there and back -/
theorem numF_of (k : Nat) : ∀ (n a : Nat) (r : List UInt8), n < 256 ^ k → numF k a (beN k n ++ r) = some (a * 256 ^ k + n, r) := by
  induction k with
  | zero => intro n a r h; simp [beN, numF] at *; omega
  | succ k ih =>
    intro n a r h
    -- the last byte is read last
    have snoc : ∀ (k a : Nat) (l : List UInt8) (c : UInt8) (r : List UInt8), l.length = k → numF (k + 1) a (l ++ c :: r) = (numF k a l).bind fun x => some (x.1 * 256 + c.toNat, r) := by
      intro k
      induction k with
      | zero => intro a l c r hl; cases l with | nil => rfl | cons _ _ => simp at hl
      | succ k ih => intro a l c r hl; cases l with
        | nil => simp at hl
        | cons d l => rw [List.cons_append, numF, numF, ih _ l c r (by simpa using hl)]
    rw [beN, List.append_assoc, List.singleton_append, snoc k a _ _ r (beN_len k _)]
    have h1 : n / 256 < 256 ^ k := by rw [Nat.pow_succ] at h; omega
    have h2 := ih (n / 256) a [] h1
    rw [List.append_nil] at h2
    rw [h2]
    simp only [Option.bind_some, Option.some.injEq, Prod.mk.injEq, and_true]
    have h3 : (UInt8.ofNat (n % 256)).toNat = n % 256 := by simp
    rw [h3, Nat.pow_succ]
    have : a * (256 ^ k * 256) = a * 256 ^ k * 256 := by rw [Nat.mul_assoc]
    omega

theorem numF_inv (k : Nat) : ∀ (a n : Nat) (l r : List UInt8), numF k a l = some (n, r) → ∃ m, m < 256 ^ k ∧ n = a * 256 ^ k + m ∧ l = beN k m ++ r := by
  induction k with
  | zero => intro a n l r h; simp [numF] at h; obtain ⟨rfl, rfl⟩ := h; exact ⟨0, by simp, by simp, rfl⟩
  | succ k ih =>
    intro a n l r h
    cases l with
    | nil => simp [numF] at h
    | cons c l =>
      rw [numF] at h
      obtain ⟨m, h1, h2, h3⟩ := ih _ _ _ _ h
      have hc := c.toNat_lt
      have key : ∀ (k : Nat) (c : UInt8) (m : Nat), m < 256 ^ k → beN (k + 1) (c.toNat * 256 ^ k + m) = c :: beN k m := by
        intro k
        induction k with
        | zero =>
          intro c m hm
          have : m = 0 := by simp at hm; omega
          subst this
          have hc := c.toNat_lt
          simp [beN, Nat.mod_eq_of_lt hc]
        | succ k ih =>
          intro c m hm
          rw [beN]
          have e1 : (c.toNat * 256 ^ (k + 1) + m) / 256 = c.toNat * 256 ^ k + m / 256 := by
            rw [Nat.pow_succ, ← Nat.mul_assoc, Nat.add_comm, Nat.add_mul_div_right _ _ (by omega), Nat.add_comm]
          have e2 : (c.toNat * 256 ^ (k + 1) + m) % 256 = m % 256 := by
            rw [Nat.pow_succ, ← Nat.mul_assoc, Nat.add_comm, Nat.add_mul_mod_self_right]
          rw [e1, e2, ih c (m / 256) (by rw [Nat.pow_succ] at hm; omega)]
          rfl
      refine ⟨c.toNat * 256 ^ k + m, ?_, ?_, ?_⟩
      · rw [Nat.pow_succ]
        have : c.toNat * 256 ^ k + 256 ^ k ≤ 256 * 256 ^ k := by
          have := Nat.mul_le_mul_right (256 ^ k) (show c.toNat + 1 ≤ 256 by omega)
          rw [Nat.add_mul, Nat.one_mul] at this
          exact this
        rw [Nat.mul_comm (256 ^ k) 256]; omega
      · rw [h2, Nat.pow_succ, Nat.add_mul, Nat.mul_assoc, Nat.mul_comm 256 (256 ^ k)]; omega
      · rw [key k c m h1, h3]; rfl

theorem numF_of0 {k n : Nat} (r : List UInt8) (h : n < 256 ^ k) : numF k 0 (beN k n ++ r) = some (n, r) := by rw [numF_of k n 0 r h]; simp
theorem numF_inv0 {k n : Nat} {l r : List UInt8} (h : numF k 0 l = some (n, r)) : n < 256 ^ k ∧ l = beN k n ++ r := by
  obtain ⟨m, h1, h2, h3⟩ := numF_inv k 0 n l r h
  simp at h2
  subst h2
  exact ⟨h1, h3⟩
theorem numF_none {k : Nat} : ∀ {a : Nat} {l : List UInt8}, numF k a l = none ↔ l.length < k := by
  induction k with
  | zero => intro a l; simp [numF]
  | succ k ih =>
    intro a l
    cases l with
    | nil => simp [numF]
    | cons c r => rw [numF, ih]; simp

theorem wrongE_ok {e : EventT} (h : wrongE e = 0) : evKind e.kind = true ∧ (namesF e.kind = false → e.field = 0) ∧ (namesN e.kind = false → e.n = 0) ∧ (namesT e.kind = false → e.text = []) ∧ rangeE e = true ∧ e.text.length ≤ 40 := by
  unfold wrongE at h
  by_cases hs : shapeE e = 0
  · rw [if_neg (by simp [hs])] at h
    have hr : rangeE e = true := by
      cases hx : rangeE e with
      | true => rfl
      | false => rw [if_pos hx] at h; omega
    rw [if_neg (by simp [hr])] at h
    have ht : e.text.length ≤ 40 := by
      rcases Nat.lt_or_ge 40 e.text.length with hx | hx
      · rw [if_pos hx] at h; omega
      · exact hx
    unfold shapeE at hs
    have hk : evKind e.kind = true := by
      cases hx : evKind e.kind with
      | true => rfl
      | false => rw [if_pos hx] at hs; omega
    rw [if_neg (by simp [hk])] at hs
    have h1 : namesF e.kind = false → e.field = 0 := by
      intro hf
      rcases Decidable.em (e.field = 0) with hx | hx
      · exact hx
      · rw [if_pos ⟨hx, hf⟩] at hs; omega
    rw [if_neg (fun hx => hx.1 (h1 hx.2))] at hs
    have h2 : namesN e.kind = false → e.n = 0 := by
      intro hf
      rcases Decidable.em (e.n = 0) with hx | hx
      · exact hx
      · rw [if_pos ⟨hx, hf⟩] at hs; omega
    rw [if_neg (fun hx => hx.1 (h2 hx.2))] at hs
    have h3 : namesT e.kind = false → e.text = [] := by
      intro hf
      rcases Decidable.em (e.text = []) with hx | hx
      · exact hx
      · rw [if_pos ⟨hx, hf⟩] at hs; omega
    exact ⟨hk, h1, h2, h3, hr, ht⟩
  · rw [if_pos hs] at h; exact absurd h hs

theorem range_ok {e : EventT} (h : rangeE e = true) : 0 ≤ e.ty ∧ e.ty < 5 ∧ 1 ≤ e.id ∧ e.id ≤ 999 ∧ 0 ≤ e.field ∧ e.field < 6 ∧ -999999999 ≤ e.n ∧ e.n ≤ 999999999 := by
  unfold rangeE isIx isIdT at h
  simp at h
  omega

theorem kind_ok {k : Int} (h : evKind k = true) : 1 ≤ k ∧ k ≤ 6 := by unfold evKind at h; simpa using h

theorem readE_of {e : EventT} (h : wrongE e = 0) (r : List UInt8) : readE (evB e ++ r) = some (e, r) := by
  obtain ⟨hk, hf, hn, ht, hr, hl⟩ := wrongE_ok h
  obtain ⟨t1, t2, i1, i2, f1, f2, n1, n2⟩ := range_ok hr
  obtain ⟨k1, k2⟩ := kind_ok hk
  obtain ⟨k, hkn⟩ : ∃ k : Nat, e.kind = k := ⟨e.kind.toNat, by omega⟩
  obtain ⟨ty, hty⟩ : ∃ k : Nat, e.ty = k := ⟨e.ty.toNat, by omega⟩
  obtain ⟨i, hid⟩ : ∃ k : Nat, e.id = k := ⟨e.id.toNat, by omega⟩
  obtain ⟨f, hfi⟩ : ∃ k : Nat, e.field = k := ⟨e.field.toNat, by omega⟩
  obtain ⟨kk, ety, eid, ef, en, etx⟩ := e
  simp only at hkn hty hid hfi hk hf hn ht hl n1 n2 t1 t2 i1 i2 f1 f2 k1 k2
  subst hkn hty hid hfi
  unfold readE evB
  simp only [Int.toNat_natCast, List.append_assoc]
  rw [numF_of0 _ (by omega)]
  simp only [hk, Bool.true_eq_false, if_false]
  rw [numF_of0 _ (by omega)]
  simp only []
  rw [numF_of0 _ (by omega)]
  simp only []
  unfold readTail
  cases hF : namesF (k : Int) with
  | false =>
    have e1 := hf hF
    have hN : namesN (k : Int) = false := by unfold namesF at hF; simp at hF; exact hF.1
    have hT : namesT (k : Int) = false := by unfold namesF at hF; simp at hF; exact hF.2
    have e2 := hn hN
    have e3 := ht hT
    subst e2 e3
    simp only [if_true, Bool.false_eq_true, if_false, List.nil_append]
    rw [show ((f : Nat) : Int) = 0 from e1]
  | true =>
    simp only [Bool.true_eq_false, if_false, if_true, List.append_assoc]
    rw [numF_of0 _ (by omega)]
    simp only []
    cases hT : namesT (k : Int) with
    | true =>
      have hN : namesN (k : Int) = false := by unfold namesT at hT; unfold namesN; simp at hT ⊢; omega
      have e2 := hn hN
      subst e2
      simp only [if_true, List.append_assoc]
      rw [numF_of0 _ (by omega)]
      simp only []
      rw [if_neg (by simp)]
      simp
    | false =>
      have e3 := ht hT
      subst e3
      simp only [Bool.false_eq_true, if_false]
      rw [numF_of0 _ (by omega)]
      simp only [Option.some.injEq, Prod.mk.injEq, and_true, EventT.mk.injEq, true_and]
      omega

theorem wrongEs_ok {l : List EventT} (h : wrongEs l = 0) : ∀ e ∈ l, wrongE e = 0 := by
  induction l with
  | nil => intro e he; cases he
  | cons x r ih =>
    rw [wrongEs] at h
    by_cases hx : wrongE x = 0
    · rw [if_neg (by simp [hx])] at h
      intro e he
      rcases List.mem_cons.1 he with rfl | he
      · exact hx
      · exact ih h e he
    · rw [if_pos hx] at h; exact absurd h hx

theorem readEs_of {l : List EventT} (h : ∀ e ∈ l, wrongE e = 0) (r : List UInt8) : readEs l.length (l.flatMap evB ++ r) = some (l, r) := by
  induction l with
  | nil => rfl
  | cons x t ih =>
    rw [List.length_cons, readEs, List.flatMap_cons, List.append_assoc, readE_of (h x (by simp))]
    simp only []
    rw [ih (fun e he => h e (by simp [he]))]

theorem evB_len {e : EventT} (h : wrongE e = 0) : (evB e).length ≤ 46 := by
  obtain ⟨_, _, _, _, _, hl⟩ := wrongE_ok h
  unfold evB
  simp only [List.length_append, beN_len]
  split
  · split <;> simp only [List.length_append, beN_len] <;> omega
  · simp

theorem flat_len {l : List EventT} (h : ∀ e ∈ l, wrongE e = 0) : (l.flatMap evB).length ≤ 46 * l.length := by
  induction l with
  | nil => simp
  | cons x t ih =>
    have h1 := evB_len (h x (by simp))
    have h2 := ih (fun e he => h e (by simp [he]))
    rw [List.flatMap_cons, List.length_append, List.length_cons]
    omega

theorem checkBa_ok {b : BatchT} (h : checkBa b = 0) : 1 ≤ b.number ∧ b.number ≤ 65535 ∧ 0 < b.events.length ∧ b.events.length ≤ 8 ∧ ∀ e ∈ b.events, wrongE e = 0 := by
  unfold checkBa at h
  by_cases h1 : b.number < 1 ∨ 65535 < b.number
  · rw [if_pos h1] at h; omega
  · rw [if_neg h1] at h
    by_cases h2 : b.events.length = 0
    · rw [if_pos h2] at h; omega
    · rw [if_neg h2] at h
      by_cases h3 : 8 < b.events.length
      · rw [if_pos h3] at h; omega
      · rw [if_neg h3] at h
        exact ⟨by omega, by omega, by omega, by omega, wrongEs_ok h⟩

theorem inner_len {b : BatchT} (h : checkBa b = 0) : (innerB b).length ≤ 371 := by
  obtain ⟨_, _, _, h4, h5⟩ := checkBa_ok h
  have := flat_len h5
  unfold innerB
  simp only [List.length_append, beN_len]
  omega

theorem readB_of {b : BatchT} (h : checkBa b = 0) : readB (innerB b) = some b := by
  obtain ⟨h1, h2, h3, h4, h5⟩ := checkBa_ok h
  unfold readB innerB
  rw [numF_of0 _ (by omega)]
  simp only []
  rw [numF_of0 _ (by omega)]
  simp only []
  have e := readEs_of h5 []
  rw [List.append_nil] at e
  rw [e]
  simp only [if_true, Option.some.injEq]
  cases b
  simp only [BatchT.mk.injEq, and_true]
  simp only at h1
  omega

/-- what is encoded is decoded as it was, whatever stands behind -/
theorem decode_of {b : BatchT} (h : checkBa b = 0) (s : List UInt8) : decodeB (bytesB b ++ s) = .ok (b, (bytesB b).length) := by
  have hl := inner_len h
  unfold decodeB bytesB
  rw [List.append_assoc, numF_of0 _ (by omega)]
  simp only []
  rw [if_neg (by simp), List.take_left, readB_of h]
  simp only [h, ne_eq, not_true_eq_false, if_false, List.length_append, beN_len]
  rw [Nat.add_comm]

theorem readTail_inv {k ty id : Nat} {l r : List UInt8} {e : EventT} (h : readTail k ty id l = some (e, r)) :
    e.kind = k ∧ e.ty = ty ∧ e.id = id ∧ l = (if namesF e.kind then beN 1 e.field.toNat ++ (if namesT e.kind then beN 1 e.text.length ++ e.text else beN 4 (e.n + 999999999).toNat) else []) ++ r := by
  unfold readTail at h
  cases hF : namesF (k : Int) with
  | false =>
    rw [if_pos hF] at h
    simp at h
    obtain ⟨rfl, rfl⟩ := h
    refine ⟨rfl, rfl, rfl, ?_⟩
    simp [hF]
  | true =>
    rw [if_neg (by simp [hF])] at h
    cases h1 : numF 1 0 l with
    | none => rw [h1] at h; cases h
    | some x =>
      obtain ⟨f, l1⟩ := x
      rw [h1] at h
      simp only [] at h
      obtain ⟨_, rfl⟩ := numF_inv0 h1
      cases hT : namesT (k : Int) with
      | true =>
        rw [if_pos hT] at h
        cases h2 : numF 1 0 l1 with
        | none => rw [h2] at h; cases h
        | some y =>
          obtain ⟨m, l2⟩ := y
          rw [h2] at h
          simp only [] at h
          obtain ⟨_, rfl⟩ := numF_inv0 h2
          split at h
          · cases h
          · rename_i hm
            simp at h
            obtain ⟨rfl, rfl⟩ := h
            refine ⟨rfl, rfl, rfl, ?_⟩
            simp only [hF, hT, if_true, Int.toNat_natCast, List.length_take, List.append_assoc]
            rw [Nat.min_eq_left (by omega), List.take_append_drop]
      | false =>
        rw [if_neg (by simp [hT])] at h
        cases h2 : numF 4 0 l1 with
        | none => rw [h2] at h; cases h
        | some y =>
          obtain ⟨n, l2⟩ := y
          rw [h2] at h
          simp only [] at h
          obtain ⟨_, rfl⟩ := numF_inv0 h2
          simp at h
          obtain ⟨rfl, rfl⟩ := h
          refine ⟨rfl, rfl, rfl, ?_⟩
          simp only [hF, hT, if_true, Bool.false_eq_true, if_false, Int.toNat_natCast, List.append_assoc]
          rw [show ((n : Int) - 999999999 + 999999999).toNat = n by omega]

theorem readE_inv {l r : List UInt8} {e : EventT} (h : readE l = some (e, r)) : l = evB e ++ r := by
  unfold readE at h
  cases h1 : numF 1 0 l with
  | none => rw [h1] at h; cases h
  | some x =>
    obtain ⟨k, l1⟩ := x
    rw [h1] at h
    simp only [] at h
    obtain ⟨_, rfl⟩ := numF_inv0 h1
    split at h
    · cases h
    · cases h2 : numF 1 0 l1 with
      | none => rw [h2] at h; cases h
      | some y =>
        obtain ⟨ty, l2⟩ := y
        rw [h2] at h
        simp only [] at h
        obtain ⟨_, rfl⟩ := numF_inv0 h2
        cases h3 : numF 2 0 l2 with
        | none => rw [h3] at h; cases h
        | some z =>
          obtain ⟨i, l3⟩ := z
          rw [h3] at h
          simp only [] at h
          obtain ⟨_, rfl⟩ := numF_inv0 h3
          obtain ⟨a1, a2, a3, a4⟩ := readTail_inv h
          rw [a4, evB, a1, a2, a3]
          simp only [Int.toNat_natCast, List.append_assoc]

theorem readEs_inv : ∀ {n : Nat} {l r : List UInt8} {es : List EventT}, readEs n l = some (es, r) → es.length = n ∧ l = es.flatMap evB ++ r := by
  intro n
  induction n with
  | zero => intro l r es h; simp [readEs] at h; obtain ⟨rfl, rfl⟩ := h; simp
  | succ n ih =>
    intro l r es h
    rw [readEs] at h
    cases h1 : readE l with
    | none => rw [h1] at h; cases h
    | some x =>
      obtain ⟨e, l1⟩ := x
      rw [h1] at h
      simp only [] at h
      cases h2 : readEs n l1 with
      | none => rw [h2] at h; cases h
      | some y =>
        obtain ⟨es1, l2⟩ := y
        rw [h2] at h
        simp at h
        obtain ⟨rfl, rfl⟩ := h
        obtain ⟨e1, e2⟩ := ih h2
        rw [readE_inv h1, e2]
        simp [e1]

theorem readB_inv {l : List UInt8} {b : BatchT} (h : readB l = some b) : l = innerB b := by
  unfold readB at h
  cases h1 : numF 2 0 l with
  | none => rw [h1] at h; cases h
  | some x =>
    obtain ⟨num, l1⟩ := x
    rw [h1] at h
    simp only [] at h
    obtain ⟨_, rfl⟩ := numF_inv0 h1
    cases h2 : numF 1 0 l1 with
    | none => rw [h2] at h; cases h
    | some y =>
      obtain ⟨n, l2⟩ := y
      rw [h2] at h
      simp only [] at h
      obtain ⟨_, rfl⟩ := numF_inv0 h2
      cases h3 : readEs n l2 with
      | none => rw [h3] at h; cases h
      | some z =>
        obtain ⟨es, l3⟩ := z
        rw [h3] at h
        simp only [] at h
        obtain ⟨e1, e2⟩ := readEs_inv h3
        split at h
        · rename_i hl
          cases h
          subst hl
          rw [innerB, e2, e1]
          simp
        · cases h

/-- what is decoded is right, and its bytes are those that were there -/
theorem decode_inv {s : List UInt8} {b : BatchT} {n : Nat} (h : decodeB s = .ok (b, n)) : checkBa b = 0 ∧ n ≤ s.length ∧ bytesB b = s.take n ∧ 2 ≤ n := by
  unfold decodeB at h
  cases h1 : numF 2 0 s with
  | none => rw [h1] at h; cases h
  | some x =>
    obtain ⟨m, r⟩ := x
    rw [h1] at h
    simp only [] at h
    obtain ⟨hm, rfl⟩ := numF_inv0 h1
    split at h
    · cases h
    · rename_i hl
      cases h2 : readB (r.take m) with
      | none => rw [h2] at h; cases h
      | some b' =>
        rw [h2] at h
        simp only [] at h
        split at h
        · cases h
        · rename_i hc
          cases h
          have e := readB_inv h2
          have hlen : (innerB b).length = m := by rw [← e, List.length_take]; omega
          refine ⟨by simpa using hc, by rw [List.length_append, beN_len]; omega, ?_, by omega⟩
          rw [bytesB, hlen, ← e, Nat.add_comm, List.take_append]
          rw [beN_len]
          simp
          rw [List.take_of_length_le (by rw [beN_len]; omega)]

/-- no bytes of one are the beginning of another one's -/
theorem bytes_apart {a b : BatchT} (ha : checkBa a = 0) (hb : checkBa b = 0) (r : List UInt8) (h : bytesB b = bytesB a ++ r) : a = b := by
  have h1 := decode_of ha r
  have h2 := decode_of hb []
  rw [List.append_nil, h, h1] at h2
  simp only [Except.ok.injEq, Prod.mk.injEq] at h2
  exact h2.1

end Go.Proofs.Ytillhpepfpldcaa
