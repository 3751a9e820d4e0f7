/- Schemas off tokens, by places: for the reference's SchemaOf. -/
import Derived.Test.YtkkjchfhgjfclabGreatDoorSchematells36
import Derived.Test.YtkkjchfhgjfclabGreatDoorSchematells21
namespace Go.Proofs.YtkkjchfhgjfclabGreatDoor

theorem pField_n1 {T : List Tok} {k : Nat} (h : isN (T.drop k) = false) : pField (T.drop k) = none := by
  cases hd : T.drop k with
  | nil => rfl
  | cons a r =>
    rw [hd, isN_cons] at h
    cases r with
    | nil => rfl
    | cons b r => rw [pField, if_neg (fun e => of_decide_eq_false h e.1)]
theorem pField_n2 {T : List Tok} {k : Nat} (h : isS 58 (T.drop (k + 1)) = false) : pField (T.drop k) = none := by
  by_cases hk : k < T.length
  · rw [drop_cons hk]
    cases hd : T.drop (k + 1) with
    | nil => rfl
    | cons b r =>
      rw [hd, isS_cons] at h
      rw [pField, if_neg]
      rintro ⟨_, e1, e2⟩
      rw [decide_eq_true e1, decide_eq_true e2] at h
      cases h
  · rw [List.drop_eq_nil_of_le (by omega)]; rfl
theorem pField_at {T : List Tok} {k : Nat} (h1 : isN (T.drop k) = true) (h2 : isS 58 (T.drop (k + 1)) = true) :
    pField (T.drop k) = (pKind (T.drop (k + 2))).map (fun x => (⟨(T[k]'(isN_lt h1)).s, x.1.1, x.1.2⟩, x.2)) := by
  have l1 := isN_lt h1
  have l2 := isS_lt h2
  rw [drop_cons l1, isN_cons] at h1
  rw [drop_cons l2, isS_cons] at h2
  simp only [Bool.and_eq_true, decide_eq_true_eq] at h1 h2
  rw [drop_cons l1, drop_cons l2, pField, if_pos ⟨h1, h2⟩]

def kBr : List Tok → Option ((Int × List UInt8) × List Tok)
  | b :: c :: r2 => if b.k = 1 ∧ (c.k = 4 ∧ c.s = [93]) then some ((4, b.s), r2) else none
  | _ => none
theorem pKind_cons (a : Tok) (r : List Tok) : pKind (a :: r) = if isS 91 (a :: r) then kBr r else if a.k = 1 then some ((if a.s = bNumber then (1, []) else if a.s = bText then (2, []) else (3, a.s)), r) else none := by
  match r with
  | [] => rfl
  | [_] => rfl
  | b :: c :: r => rfl
theorem pKind_brs {T : List Tok} {k : Nat} (h : isS 91 (T.drop k) = true) : pKind (T.drop k) = kBr (T.drop (k + 1)) := by
  have l0 := isS_lt h
  rw [drop_cons l0] at h ⊢
  rw [pKind_cons, if_pos h]
theorem pKind_br {T : List Tok} {k : Nat} (h : isS 91 (T.drop k) = true) (h1 : isN (T.drop (k + 1)) = true) (h2 : isS 93 (T.drop (k + 2)) = true) :
    pKind (T.drop k) = some ((4, (T[k + 1]'(isN_lt h1)).s), T.drop (k + 3)) := by
  have l1 := isN_lt h1
  have l2 := isS_lt h2
  rw [pKind_brs h]
  rw [drop_cons l1, isN_cons] at h1
  rw [drop_cons l2, isS_cons] at h2
  simp only [Bool.and_eq_true, decide_eq_true_eq] at h1 h2
  rw [drop_cons l1, drop_cons l2, kBr, if_pos ⟨h1, h2⟩]
theorem pKind_n1 {T : List Tok} {k : Nat} (h : isS 91 (T.drop k) = true) (h1 : isN (T.drop (k + 1)) = false) : pKind (T.drop k) = none := by
  rw [pKind_brs h]
  match hd : T.drop (k + 1) with
  | [] => rfl
  | [_] => rfl
  | b :: c :: r =>
    rw [hd, isN_cons] at h1
    rw [kBr, if_neg (fun e => of_decide_eq_false h1 e.1)]
theorem pKind_n2 {T : List Tok} {k : Nat} (h : isS 91 (T.drop k) = true) (h2 : isS 93 (T.drop (k + 2)) = false) : pKind (T.drop k) = none := by
  rw [pKind_brs h]
  by_cases l1 : k + 1 < T.length
  · rw [drop_cons l1]
    match hd : T.drop (k + 1 + 1) with
    | [] => rfl
    | c :: r =>
      rw [show T.drop (k + 2) = c :: r from hd, isS_cons] at h2
      rw [kBr, if_neg]
      rintro ⟨_, e1, e2⟩
      rw [decide_eq_true e1, decide_eq_true e2] at h2
      cases h2
  · rw [List.drop_eq_nil_of_le (by omega)]
    rfl
theorem pKind_word {T : List Tok} {k : Nat} (h1 : isN (T.drop k) = true) :
    pKind (T.drop k) = some ((if (T[k]'(isN_lt h1)).s = bNumber then (1, []) else if (T[k]'(isN_lt h1)).s = bText then (2, []) else (3, (T[k]'(isN_lt h1)).s)), T.drop (k + 1)) := by
  have l1 := isN_lt h1
  have h0 : isS 91 (T.drop k) = false := by
    cases hh : isS 91 (T.drop k) with
    | false => rfl
    | true => rw [isS_notN hh] at h1; cases h1
  rw [drop_cons l1] at h0
  rw [drop_cons l1, isN_cons] at h1
  simp only [decide_eq_true_eq] at h1
  rw [drop_cons l1, pKind_cons, if_neg (by rw [h0]; simp), if_pos h1]
theorem pKind_none {T : List Tok} {k : Nat} (h0 : isS 91 (T.drop k) = false) (h1 : isN (T.drop k) = false) : pKind (T.drop k) = none := by
  cases hd : T.drop k with
  | nil => rfl
  | cons a r =>
    rw [hd] at h0
    rw [hd, isN_cons] at h1
    rw [pKind_cons, if_neg (by rw [h0]; simp), if_neg (of_decide_eq_false h1)]

theorem pType_at {T : List Tok} {k : Nat} (h1 : isN (T.drop k) = true) (hs : (T[k]'(isN_lt h1)).s = bType) (h2 : isN (T.drop (k + 1)) = true) (h3 : isS 123 (T.drop (k + 2)) = true) :
    pType (T.drop k) = (pFields (T.drop (k + 3)).length (T.drop (k + 3))).map (fun x => (⟨(T[k + 1]'(isN_lt h2)).s, x.1⟩, x.2)) := by
  have l1 := isN_lt h1
  have l2 := isN_lt h2
  have l3 := isS_lt h3
  rw [drop_cons l1, isN_cons] at h1
  rw [drop_cons l2, isN_cons] at h2
  rw [drop_cons l3, isS_cons] at h3
  simp only [Bool.and_eq_true, decide_eq_true_eq] at h1 h2 h3
  rw [drop_cons l1, drop_cons l2, drop_cons l3, pType, if_pos ⟨⟨h1, hs⟩, h2, h3⟩]
theorem pType_n1 {T : List Tok} {k : Nat} (h : isN (T.drop k) = false) : pType (T.drop k) = none := by
  cases hd : T.drop k with
  | nil => rfl
  | cons a r =>
    rw [hd, isN_cons] at h
    match r with
    | [] => rfl
    | [_] => rfl
    | b :: c :: r => rw [pType, if_neg (fun e => of_decide_eq_false h e.1.1)]
theorem pType_n2 {T : List Tok} {k : Nat} (hk : k < T.length) (h : T[k].s ≠ bType) : pType (T.drop k) = none := by
  rw [drop_cons hk]
  match T.drop (k + 1) with
  | [] => rfl
  | [_] => rfl
  | b :: c :: r => rw [pType, if_neg (fun e => h e.1.2)]
theorem pType_n3 {T : List Tok} {k : Nat} (hk : k < T.length) (h : isN (T.drop (k + 1)) = false) : pType (T.drop k) = none := by
  rw [drop_cons hk]
  match hd : T.drop (k + 1) with
  | [] => rfl
  | [_] => rfl
  | b :: c :: r =>
    rw [hd, isN_cons] at h
    rw [pType, if_neg (fun e => of_decide_eq_false h e.2.1)]
theorem pType_n4 {T : List Tok} {k : Nat} (hk : k + 1 < T.length) (h : isS 123 (T.drop (k + 2)) = false) : pType (T.drop k) = none := by
  rw [drop_cons (show k < T.length by omega), drop_cons hk]
  match hd : T.drop (k + 1 + 1) with
  | [] => rfl
  | c :: r =>
    rw [show T.drop (k + 2) = c :: r from hd, isS_cons] at h
    rw [pType, if_neg]
    rintro ⟨_, _, e1, e2⟩
    rw [decide_eq_true e1, decide_eq_true e2] at h
    cases h

/-- the outer loop's -/
def oRel (T : List Tok) (fst : Bool) (m k : Nat) (acc : List TypeT) : Prop :=
  (fst = false ∧ T.length ≤ k ∧ pTypes T.length T = some acc) ∨ ((fst = true ∨ k < T.length) ∧ tyRel T m (T.drop k) acc)
theorem oRel.start (T : List Tok) : oRel T true T.length 0 [] := .inr ⟨.inl rfl, tyRel.start T⟩
theorem oRel.more {T : List Tok} {m k : Nat} {acc : List TypeT} (h : oRel T true m k acc) : tyRel T m (T.drop k) acc := h.elim (fun h => by cases h.1) (fun h => h.2)
theorem oRel.more2 {T : List Tok} {m k : Nat} {acc : List TypeT} (h : oRel T false m k acc) (hk : k < T.length) : tyRel T m (T.drop k) acc := h.elim (fun h => by omega) (fun h => h.2)
theorem oRel.done {T : List Tok} {m k : Nat} {acc : List TypeT} (h : oRel T false m k acc) (hk : T.length ≤ k) : pTypes T.length T = some acc := h.elim (fun h => h.2.2) (fun h => by rcases h.1 with e | e <;> first | cases e | omega)
theorem oRel.next {T : List Tok} {m k k2 : Nat} {acc : List TypeT} {t : TypeT} (h : tyRel T (m + 1) (T.drop k) acc) (hp : pType (T.drop k) = some (t, T.drop k2)) : oRel T false m k2 (acc ++ [t]) := by
  by_cases hk : k2 < T.length
  · exact .inr ⟨.inr hk, h.step hp (by rw [drop_cons hk]; exact List.cons_ne_nil _ _)⟩
  · rw [show T.drop k2 = [] from List.drop_eq_nil_of_le (by omega)] at hp
    exact .inl ⟨rfl, by omega, h.last hp⟩

/-- the inner loop's -/
def iRel (T : List Tok) (r3 : List Tok) (one : Bool) (m k : Nat) (acc : List FieldT) : Prop :=
  (one = false ∧ isS 125 (T.drop k) = true ∧ pFields r3.length r3 = some (acc, T.drop (k + 1))) ∨ ((one = true ∨ isS 125 (T.drop k) = false) ∧ fRel r3 m (T.drop k) acc)
theorem iRel.start (T : List Tok) (k : Nat) : iRel T (T.drop k) true (T.drop k).length k [] := .inr ⟨.inl rfl, fRel.start _⟩
theorem iRel.more {T r3 : List Tok} {m k : Nat} {acc : List FieldT} (h : iRel T r3 true m k acc) : fRel r3 m (T.drop k) acc := h.elim (fun h => by cases h.1) (fun h => h.2)
theorem iRel.more2 {T r3 : List Tok} {m k : Nat} {acc : List FieldT} (h : iRel T r3 false m k acc) (hk : isS 125 (T.drop k) = false) : fRel r3 m (T.drop k) acc := h.elim (fun h => by rw [hk] at h; cases h.2.1) (fun h => h.2)
theorem iRel.done {T r3 : List Tok} {m k : Nat} {acc : List FieldT} (h : iRel T r3 false m k acc) (hk : isS 125 (T.drop k) = true) : pFields r3.length r3 = some (acc, T.drop (k + 1)) := h.elim (fun h => h.2.2) (fun h => by rcases h.1 with e | e <;> first | cases e | (rw [hk] at e; cases e))
theorem iRel.next {T r3 : List Tok} {m k k2 : Nat} {acc : List FieldT} {f : FieldT} (h : fRel r3 (m + 1) (T.drop k) acc) (hp : pField (T.drop k) = some (f, T.drop k2)) : iRel T r3 false m k2 (acc ++ [f]) := by
  cases hs : isS 125 (T.drop k2) with
  | true =>
    have h1 := h.last hp hs
    rw [List.tail_drop] at h1
    exact .inl ⟨rfl, hs, h1⟩
  | false => exact .inr ⟨.inr hs, h.step hp hs⟩

end Go.Proofs.YtkkjchfhgjfclabGreatDoor
