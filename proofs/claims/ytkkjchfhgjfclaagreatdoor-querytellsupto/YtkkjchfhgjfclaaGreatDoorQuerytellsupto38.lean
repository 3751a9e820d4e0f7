import Derived.Test.YtkkjchfhgjfclaaGreatDoorQuerytellsupto35
import Derived.Test.YtkkjchfhgjfclaaGreatDoorQuerytellsupto37
import Derived.Test.YtkkjchfhgjfclaaGreatDoorQuerytellsupto36
import Derived.Test.YtkkjchfhgjfclaaGreatDoorQuerytellsupto33
import Derived.Test.YtkkjchfhgjfclaaGreatDoorQuerytellsupto01
import Derived.Test.YtkkjchfhgjfclaaGreatDoorQuerytellsupto07
import Derived.Test.YtkkjchfhgjfclaaGreatDoorQuerytellsupto24
import Derived.Test.YtkkjchfhgjfclaaGreatDoorQuerytellsupto05
/- The reference's CheckQuery. -/
namespace Go.Proofs.YtkkjchfhgjfclaaGreatDoor
open Go.RowKit

theorem checkQ_e {s : Sels} (h : s.len = 0) : checkQ s = 5 := by rw [checkQ, if_pos h]
theorem checkQ_m {s : Sels} (h : s.len ≠ 0) (h2 : 40 < s.len + kidsQ s 1 ∨ 5 < mostQ s 1) : checkQ s = 2 := by rw [checkQ, if_neg h, if_pos ((fits_ref s).2 h2)]
theorem checkQ_w {s : Sels} (h : s.len ≠ 0) (h2 : ¬ (40 < s.len + kidsQ s 1 ∨ 5 < mostQ s 1)) : checkQ s = wrongQ [] s := by rw [checkQ, if_neg h, if_neg (fun e => h2 ((fits_ref s).1 e))]

set_option maxRecDepth 20000 in
set_option maxHeartbeats 1600000 in
theorem rCheckQ_any (w : World) (v : Value) (f : Sels) (h : SelSl w v f) (hs : f.size' ≤ 4000000) :
    Calls Tryz.prog 10 #[v] w fun e w' => e = .returned (.int .i64 (checkQ f)) ∧ Same w w' := by
  obtain ⟨ao, cap, rfl, _, _⟩ := id h
  by_cases hz : f.len = 0
  · have HZ := hide (checkQ_e hz)
    rw [hz]
    clear h hs hz
    go_enter Tryz.func10, Tryz.ntmps10
    go_wp2_with fail
    go_ret
    exact ⟨ret_int HZ.out.symm, Kept.refl _ _⟩
  · have hz' : ((f.len : Int) == 0) = false := beq_eq_false_iff_ne.2 (by omega)
    have HC := hide (count_any f w _ hs h)
    have HW := hide (rcheck_any f w _ h)
    have HZ := hide hz
    have hA : f.len + kidsQ f 1 ≤ 4000000 := Nat.le_trans (kidsQ_le f 1) hs
    have hB : mostQ f 1 ≤ 6 := mostQ_le f 1 (by omega)
    have HM := hide (checkQ_m (s := f) hz)
    have HN := hide (checkQ_w (s := f) hz)
    obtain ⟨a, ha⟩ : ∃ a, a = f.len + kidsQ f 1 := ⟨_, rfl⟩
    obtain ⟨b, hb⟩ : ∃ b, b = mostQ f 1 := ⟨_, rfl⟩
    rw [← ha, ← hb] at HC HM HN
    rw [← ha] at hA
    rw [← hb] at hB
    clear h hs hz ha hb
    by_cases h1 : 40 < a
    · have HE := hide (HM.out (.inl h1))
      go_enter Tryz.func10, Tryz.ntmps10
      go_wp2_with fail
      refine HC.out.mono ?_
      rintro e w1 ⟨rfl, hw1⟩
      rw [hw1]
      clear hw1
      go_wp2_with fail
      go_ret
      exact ⟨ret_int HE.out.symm, Kept.refl _ _⟩
    · by_cases h2 : 5 < b
      · have HE := hide (HM.out (.inr h2))
        go_enter Tryz.func10, Tryz.ntmps10
        go_wp2_with fail
        refine HC.out.mono ?_
        rintro e w1 ⟨rfl, hw1⟩
        rw [hw1]
        clear hw1
        go_wp2_with fail
        go_ret
        exact ⟨ret_int HE.out.symm, Kept.refl _ _⟩
      · have HE := hide (HN.out (by omega))
        go_enter Tryz.func10, Tryz.ntmps10
        go_wp2_with fail
        refine HC.out.mono ?_
        rintro e w1 ⟨rfl, hw1⟩
        rw [hw1]
        clear hw1
        go_wp2_with fail
        refine HW.out.mono ?_
        rintro e w2 ⟨rfl, hK2⟩
        go_wp2_with fail
        go_ret
        exact ⟨ret_int HE.out.symm, hK2⟩

end Go.Proofs.YtkkjchfhgjfclaaGreatDoor

/- The reference's isTok, isWord. -/
namespace Go.Proofs.YtkkjchfhgjfclaaGreatDoor
open Go.RowKit

/-- is a name at the head? -/
def isN : List Tok → Bool
  | t :: _ => decide (t.k = 1)
  | [] => false

theorem isS_at {T : List Tok} {i : Nat} (c : UInt8) (h : i < T.length) : isS c (T.drop i) = (decide (T[i].k = 4) && decide (T[i].s = [c])) := by rw [List.drop_eq_getElem_cons h]; rfl
theorem isS_out {T : List Tok} {i : Nat} (c : UInt8) (h : T.length ≤ i) : isS c (T.drop i) = false := by rw [List.drop_eq_nil_of_le h]; rfl
theorem isN_at {T : List Tok} {i : Nat} (h : i < T.length) : isN (T.drop i) = decide (T[i].k = 1) := by rw [List.drop_eq_getElem_cons h]; rfl
theorem isN_out {T : List Tok} {i : Nat} (h : T.length ≤ i) : isN (T.drop i) = false := by rw [List.drop_eq_nil_of_le h]; rfl

set_option maxRecDepth 20000 in
theorem isTok_is (w : World) (v : Value) (T : List Tok) (h : TokSl w v T) (i : Nat) (c : UInt8) (q : Bool) (hq : isS c (T.drop i) = q) :
    Calls Tryz.prog 52 #[v, .int .i64 i, .string ⟨#[c]⟩] w fun e w' => e = .returned (.bool q) ∧ w' = w := by
  obtain ⟨ao, cap, rfl, _, _⟩ := id h
  by_cases hi : i < T.length
  · rw [isS_at c hi] at hq
    obtain ⟨b, off, rfl, c0, c1, c2⟩ := h.at i hi
    obtain ⟨t, ht⟩ : ∃ t, t = T[i] := ⟨_, rfl⟩
    rw [← ht] at hq c0 c1 c2
    clear ht h
    by_cases hk : t.k = 4
    · have hkb : (t.k == 4) = true := by simp [hk]
      have HQ := hide (show decide (t.s = [c]) = q by rw [← hq, decide_eq_true hk, Bool.true_and])
      clear hq hk
      go_enter Tryz.func52, Tryz.ntmps52
      go_wp2_with fail
      go_ret
      exact ⟨ret_bool (by rw [← HQ.out, Bool.eq_iff_iff]; simp), rfl⟩
    · have hkb : (t.k == 4) = false := by simp [hk]
      have HQ := hide (show false = q by rw [← hq, decide_eq_false hk, Bool.false_and])
      clear hq hk
      go_enter Tryz.func52, Tryz.ntmps52
      go_wp2_with fail
      go_ret
      exact ⟨ret_bool HQ.out, rfl⟩
  · have HQ := hide (show false = q by rw [← hq, isS_out c (by omega)])
    clear hq h
    go_enter Tryz.func52, Tryz.ntmps52
    go_wp2_with fail
    go_ret
    exact ⟨ret_bool HQ.out, rfl⟩

set_option maxRecDepth 20000 in
theorem isWord_is (w : World) (v : Value) (T : List Tok) (h : TokSl w v T) (i : Nat) (q : Bool) (hq : isN (T.drop i) = q) :
    Calls Tryz.prog 53 #[v, .int .i64 i] w fun e w' => e = .returned (.bool q) ∧ w' = w := by
  obtain ⟨ao, cap, rfl, _, _⟩ := id h
  by_cases hi : i < T.length
  · rw [isN_at hi] at hq
    obtain ⟨b, off, rfl, c0, c1, c2⟩ := h.at i hi
    obtain ⟨t, ht⟩ : ∃ t, t = T[i] := ⟨_, rfl⟩
    rw [← ht] at hq c0 c1 c2
    clear ht h
    have HQ := hide hq
    clear hq
    go_enter Tryz.func53, Tryz.ntmps53
    go_wp2_with fail
    go_ret
    exact ⟨ret_bool (by rw [← HQ.out, Bool.eq_iff_iff]; simp), rfl⟩
  · have HQ := hide (show false = q by rw [← hq, isN_out (by omega)])
    clear hq h
    go_enter Tryz.func53, Tryz.ntmps53
    go_wp2_with fail
    go_ret
    exact ⟨ret_bool HQ.out, rfl⟩

end Go.Proofs.YtkkjchfhgjfclaaGreatDoor

/- Tokens by places. -/
namespace Go.Proofs.YtkkjchfhgjfclaaGreatDoor

theorem isN_lt {T : List Tok} {k : Nat} (h : isN (T.drop k) = true) : k < T.length := by
  by_cases hk : k < T.length
  · exact hk
  · rw [isN_out (by omega)] at h; cases h
theorem isS_lt {T : List Tok} {k : Nat} {c : UInt8} (h : isS c (T.drop k) = true) : k < T.length := by
  by_cases hk : k < T.length
  · exact hk
  · rw [isS_out c (by omega)] at h; cases h

theorem drop_cons {T : List Tok} {k : Nat} (h : k < T.length) : T.drop k = T[k] :: T.drop (k + 1) := List.drop_eq_getElem_cons h

theorem isN_cons {a : Tok} {r : List Tok} : isN (a :: r) = decide (a.k = 1) := rfl
theorem isS_cons {c : UInt8} {a : Tok} {r : List Tok} : isS c (a :: r) = (decide (a.k = 4) && decide (a.s = [c])) := rfl

theorem isS_notN {r : List Tok} {c : UInt8} (h : isS c r = true) : isN r = false := by
  cases r with
  | nil => rfl
  | cons a r =>
    rw [isS_cons] at h
    simp only [Bool.and_eq_true, decide_eq_true_eq] at h
    rw [isN_cons, h.1]
    rfl
end Go.Proofs.YtkkjchfhgjfclaaGreatDoor

/- Selects off tokens, by places: for the reference's selectsAt. -/
namespace Go.Proofs.YtkkjchfhgjfclaaGreatDoor

theorem pName_w1 {T : List Tok} {k : Nat} (h : isN (T.drop k) = false) : pName (T.drop k) = none := by
  cases hd : T.drop k with
  | nil => rfl
  | cons a r =>
    rw [hd, isN_cons] at h
    rw [pName, if_neg (of_decide_eq_false h)]
theorem pName_w2 {T : List Tok} {k : Nat} (h1 : isN (T.drop k) = true) (h2 : isS 58 (T.drop (k + 1)) = false) : pName (T.drop k) = some (([], (T[k]'(isN_lt h1)).s), T.drop (k + 1)) := by
  have l1 := isN_lt h1
  rw [drop_cons l1, isN_cons] at h1
  rw [drop_cons l1, pName_plain (of_decide_eq_true h1) h2]
theorem pName_w3 {T : List Tok} {k : Nat} (h1 : isN (T.drop k) = true) (h2 : isS 58 (T.drop (k + 1)) = true) (h3 : isN (T.drop (k + 2)) = false) : pName (T.drop k) = none := by
  have l1 := isN_lt h1
  have l2 := isS_lt h2
  rw [drop_cons l1, isN_cons] at h1
  rw [drop_cons l1, pName_n2 (of_decide_eq_true h1) h2]
  intro t r' ht
  rw [List.tail_drop] at ht
  rw [ht, isN_cons] at h3
  exact of_decide_eq_false h3
theorem pName_w4 {T : List Tok} {k : Nat} (h1 : isN (T.drop k) = true) (h2 : isS 58 (T.drop (k + 1)) = true) (h3 : isN (T.drop (k + 2)) = true) : pName (T.drop k) = some (((T[k]'(isN_lt h1)).s, (T[k + 2]'(isN_lt h3)).s), T.drop (k + 3)) := by
  have l1 := isN_lt h1
  have l3 := isN_lt h3
  rw [drop_cons l1, isN_cons] at h1
  rw [drop_cons l3, isN_cons] at h3
  rw [drop_cons l1]
  exact pName_alias (of_decide_eq_true h1) h2 (by rw [List.tail_drop]; exact drop_cons l3) (of_decide_eq_true h3)

theorem pOpt_w1 {T : List Tok} {k : Nat} (h : isS 40 (T.drop k) = false) : pOpt (T.drop k) = some ([], T.drop k) := by rw [pOpt, if_neg (by rw [h]; simp)]
theorem pOpt_w2 {T : List Tok} {k : Nat} (h : isS 40 (T.drop k) = true) : pOpt (T.drop k) = pArgs (T.drop (k + 1)).length (T.drop (k + 1)) := by rw [pOpt, if_pos h, List.tail_drop]

theorem pArg_w1 {T : List Tok} {k : Nat} (h : isN (T.drop k) = false) : pArg (T.drop k) = none := pArg_n1 (fun t r' e => by rw [e, isN_cons] at h; exact of_decide_eq_false h)
theorem pArg_w2 {T : List Tok} {k : Nat} (h : isS 58 (T.drop (k + 1)) = false) : pArg (T.drop k) = none := by
  by_cases hk : k < T.length
  · rw [drop_cons hk]; exact pArg_n2 h
  · rw [List.drop_eq_nil_of_le (by omega)]; rfl
theorem pArg_w3 {T : List Tok} {k : Nat} (h : T.length ≤ k + 2) : pArg (T.drop k) = none := by
  have hl : (T.drop k).length ≤ 2 := by rw [List.length_drop]; omega
  match hd : T.drop k with
  | [] => rfl
  | [_] => rfl
  | [_, _] => rfl
  | a :: b :: c :: r => rw [hd] at hl; simp at hl
theorem pArg_w4 {T : List Tok} {k : Nat} (h : k + 2 < T.length) (h2 : T[k + 2].k ≠ 2) (h3 : T[k + 2].k ≠ 3) : pArg (T.drop k) = none := by
  rw [drop_cons (show k < T.length by omega), drop_cons (show k + 1 < T.length by omega)]
  refine pArg_n3 (fun t r' e => ?_)
  rw [drop_cons h] at e
  cases e
  simp [h2, h3]
theorem pArg_w5 {T : List Tok} {k : Nat} (h1 : isN (T.drop k) = true) (h2 : isS 58 (T.drop (k + 1)) = true) (h : k + 2 < T.length) (h3 : T[k + 2].k = 2 ∨ T[k + 2].k = 3) :
    pArg (T.drop k) = some (⟨(T[k]'(isN_lt h1)).s, decide (T[k + 2].k = 3), T[k + 2].s, T[k + 2].n⟩, T.drop (k + 3)) := by
  have l1 := isN_lt h1
  have l2 := isS_lt h2
  rw [drop_cons l1, isN_cons] at h1
  rw [drop_cons l2, drop_cons h] at h2
  rw [drop_cons l1, drop_cons l2, drop_cons h]
  exact pArg_some (of_decide_eq_true h1) h2 (by rcases h3 with h3 | h3 <;> simp [h3])

/-- the loop over the arguments -/
def jRel (T r3 : List Tok) (one : Bool) (m k : Nat) (acc : List ArgT) : Prop :=
  (one = false ∧ isS 41 (T.drop k) = true ∧ pArgs r3.length r3 = some (acc, T.drop (k + 1))) ∨ ((one = true ∨ isS 41 (T.drop k) = false) ∧ aRel r3 m (T.drop k) acc)
theorem jRel.start (T : List Tok) (k : Nat) : jRel T (T.drop k) true (T.drop k).length k [] := .inr ⟨.inl rfl, aRel.start _⟩
theorem jRel.more {T r3 : List Tok} {m k : Nat} {acc : List ArgT} (h : jRel T r3 true m k acc) : aRel r3 m (T.drop k) acc := h.elim (fun h => by cases h.1) (fun h => h.2)
theorem jRel.more2 {T r3 : List Tok} {m k : Nat} {acc : List ArgT} (h : jRel T r3 false m k acc) (hk : isS 41 (T.drop k) = false) : aRel r3 m (T.drop k) acc := h.elim (fun h => by rw [hk] at h; cases h.2.1) (fun h => h.2)
theorem jRel.done {T r3 : List Tok} {m k : Nat} {acc : List ArgT} (h : jRel T r3 false m k acc) (hk : isS 41 (T.drop k) = true) : pArgs r3.length r3 = some (acc, T.drop (k + 1)) := h.elim (fun h => h.2.2) (fun h => by rcases h.1 with e | e <;> first | cases e | (rw [hk] at e; cases e))
theorem jRel.next {T r3 : List Tok} {m k k2 : Nat} {acc : List ArgT} {f : ArgT} (h : aRel r3 (m + 1) (T.drop k) acc) (hp : pArg (T.drop k) = some (f, T.drop k2)) : jRel T r3 false m k2 (acc ++ [f]) := by
  cases hs : isS 41 (T.drop k2) with
  | true =>
    have h1 := h.last hp hs
    rw [List.tail_drop] at h1
    exact .inl ⟨rfl, hs, h1⟩
  | false => exact .inr ⟨.inr hs, h.step hp hs⟩

/-- the loop over the selects -/
def xRel (T : List Tok) (f : Nat) (r0 : List Tok) (fst : Bool) (m k : Nat) (acc : List SelC) : Prop :=
  (fst = false ∧ isS 125 (T.drop k) = true ∧ pSels f r0 = some (selsOf acc, T.drop (k + 1))) ∨ ((fst = true ∨ isS 125 (T.drop k) = false) ∧ sRel f r0 m (T.drop k) acc)
theorem xRel.start (T : List Tok) (f k : Nat) : xRel T f (T.drop k) true f k [] := .inr ⟨.inl rfl, sRel.start _ _⟩
theorem xRel.more {T r0 : List Tok} {f m k : Nat} {acc : List SelC} (h : xRel T f r0 true m k acc) : sRel f r0 m (T.drop k) acc := h.elim (fun h => by cases h.1) (fun h => h.2)
theorem xRel.more2 {T r0 : List Tok} {f m k : Nat} {acc : List SelC} (h : xRel T f r0 false m k acc) (hk : isS 125 (T.drop k) = false) : sRel f r0 m (T.drop k) acc := h.elim (fun h => by rw [hk] at h; cases h.2.1) (fun h => h.2)
theorem xRel.done {T r0 : List Tok} {f m k : Nat} {acc : List SelC} (h : xRel T f r0 false m k acc) (hk : isS 125 (T.drop k) = true) : pSels f r0 = some (selsOf acc, T.drop (k + 1)) := h.elim (fun h => h.2.2) (fun h => by rcases h.1 with e | e <;> first | cases e | (rw [hk] at e; cases e))
theorem xRel.next {T r0 : List Tok} {f m k k2 : Nat} {acc : List SelC} {p : SelC} (h : sRel f r0 (m + 1) (T.drop k) acc) (hp : pSel1 m (T.drop k) = some ((p.al, p.nm, p.args, p.k), T.drop k2)) : xRel T f r0 false m k2 (acc ++ [p]) := by
  cases hs : isS 125 (T.drop k2) with
  | true =>
    have h1 := h.last hp hs
    rw [List.tail_drop] at h1
    exact .inl ⟨rfl, hs, h1⟩
  | false => exact .inr ⟨.inr hs, h.step hp hs⟩

theorem pSel1_w1 {f : Nat} {r : List Tok} (h : pName r = none) : pSel1 f r = none := by rw [pSel1, h]
theorem pSel1_w2 {f : Nat} {r r1 : List Tok} {an : List UInt8 × List UInt8} (h : pName r = some (an, r1)) (h2 : pOpt r1 = none) : pSel1 f r = none := by rw [pSel1, h]; simp only [h2]
theorem pSel1_w3 {f : Nat} {T r r1 : List Tok} {k : Nat} {an : List UInt8 × List UInt8} {args : List ArgT} (h : pName r = some (an, r1)) (h2 : pOpt r1 = some (args, T.drop k)) (h3 : isS 123 (T.drop k) = true) (h4 : pSels f (T.drop (k + 1)) = none) : pSel1 f r = none := by
  rw [pSel1, h]; simp only [h2]; rw [if_pos h3, List.tail_drop, h4]; rfl
theorem pSel1_w4 {f : Nat} {T r r1 : List Tok} {k k2 : Nat} {an : List UInt8 × List UInt8} {args : List ArgT} {s : Sels} (h : pName r = some (an, r1)) (h2 : pOpt r1 = some (args, T.drop k)) (h3 : isS 123 (T.drop k) = true) (h4 : pSels f (T.drop (k + 1)) = some (s, T.drop k2)) : pSel1 f r = some ((an.1, an.2, args, s), T.drop k2) := by
  rw [pSel1, h]; simp only [h2]; rw [if_pos h3, List.tail_drop, h4]; rfl
theorem pSel1_w5 {f : Nat} {T r r1 : List Tok} {k : Nat} {an : List UInt8 × List UInt8} {args : List ArgT} (h : pName r = some (an, r1)) (h2 : pOpt r1 = some (args, T.drop k)) (h3 : isS 123 (T.drop k) = false) : pSel1 f r = some ((an.1, an.2, args, .nil), T.drop k) := by
  rw [pSel1, h]; simp only [h2]; rw [if_neg (by rw [h3]; simp)]; rfl

theorem sRel_bad {f m : Nat} {r0 rj : List Tok} {acc : List SelC} (h : sRel f r0 m rj acc) (hp : ∀ x, pSel1 x rj = none) : pSels f r0 = none := h.bad (hp _)

end Go.Proofs.YtkkjchfhgjfclaaGreatDoor

/- How far a text has been read, in plain Lean: for the document's own reader. -/
namespace Go.Proofs.YtkkjchfhgjfclaaGreatDoor

/-- T is read, k is next -/
def tRel (s : ByteArray) (k : Nat) (T : List Tok) : Prop :=
  lexRead s.data.toList = (readF (s.size + 1) (s.data.toList.drop k) T.length).map (T ++ ·)

theorem list_size (s : ByteArray) : s.data.toList.length = s.size := by simp

theorem tRel.start (s : ByteArray) (hs : s.size ≤ 2000) : tRel s 0 [] := by
  unfold tRel lexRead
  rw [if_neg (by rw [list_size]; omega), list_size]
  simp only [List.drop_zero, List.length_nil]
  cases readF (s.size + 1) s.data.toList 0 <;> simp [Except.map]

theorem tRel.move {s : ByteArray} {k n : Nat} {T : List Tok} (h : tRel s k T) (hk : k + n ≤ s.size) (hsk : skipN false (s.data.toList.drop k) = n + skipN false (s.data.toList.drop (k + n))) : tRel s (k + n) T := by
  unfold tRel at *
  rw [h]
  have e : s.data.toList.drop k = (s.data.toList.drop k).take n ++ s.data.toList.drop (k + n) := by
    rw [← List.drop_drop, List.take_append_drop]
  have hl : ((s.data.toList.drop k).take n).length = n := by rw [List.length_take, List.length_drop, list_size]; omega
  have e2 := readF_ahead (f := s.size) (p := (s.data.toList.drop k).take n) (l := s.data.toList.drop (k + n)) (m := T.length) (by rw [← e, hl]; exact hsk)
  rw [← e] at e2
  rw [e2]

theorem tRel.blank {s : ByteArray} {k : Nat} {T : List Tok} (h : tRel s k T) (hk : k < s.size) (hc : wh s[k] = true) : tRel s (k + 1) T := by
  refine h.move (by omega) ?_
  rw [drop_at hk, skipN, if_pos hc]; omega

theorem tRel.hash {s : ByteArray} {k : Nat} {T : List Tok} (h : tRel s k T) (hk : k < s.size) (hc : s[k].toNat = 35) : tRel s (k + run nn s k) T := by
  refine h.move (run_le nn s k (by omega)) ?_
  have := skip_hash s[k] (s.data.toList.drop (k + 1)) hc
  rw [← drop_at hk, List.drop_drop] at this
  exact this

theorem tRel.at {s : ByteArray} {k : Nat} {T : List Tok} (h : tRel s k T) (hk : k < s.size) (h1 : wh s[k] = false) (h2 : s[k].toNat ≠ 35) :
    lexRead s.data.toList = (match tokL (s.data.toList.drop k) with
      | .error e => .error e
      | .ok (t, n) => if wrongT t ≠ 0 then .error (wrongT t) else if T.length = 300 then .error 2 else (readF s.size (s.data.toList.drop (k + n)) (T.length + 1)).map (t :: ·) : Except Int (List Tok)).map (T ++ ·) := by
  unfold tRel at h
  rw [h, readF, drop_at hk, skip_stop _ _ h1 h2, List.drop_zero]
  simp only
  rw [← drop_at hk]
  cases ht : tokL (s.data.toList.drop k) with
  | error e => rfl
  | ok y =>
    obtain ⟨t, n⟩ := y
    simp only
    rw [List.drop_drop]

theorem tRel.bad {s : ByteArray} {k : Nat} {T : List Tok} (h : tRel s k T) (hk : k < s.size) (h1 : wh s[k] = false) (h2 : s[k].toNat ≠ 35) (ht : tokL (s.data.toList.drop k) = .error 1) : lexRead s.data.toList = .error 1 := by
  rw [h.at hk h1 h2, ht]; rfl
theorem tRel.wrong {s : ByteArray} {k : Nat} {T : List Tok} {t : Tok} {n : Nat} (h : tRel s k T) (hk : k < s.size) (h1 : wh s[k] = false) (h2 : s[k].toNat ≠ 35) (ht : tokL (s.data.toList.drop k) = .ok (t, n)) (hw : wrongT t ≠ 0) :
    lexRead s.data.toList = .error (wrongT t) := by
  rw [h.at hk h1 h2, ht]
  simp only
  rw [if_pos hw]; rfl
theorem tRel.full {s : ByteArray} {k : Nat} {T : List Tok} {t : Tok} {n : Nat} (h : tRel s k T) (hk : k < s.size) (h1 : wh s[k] = false) (h2 : s[k].toNat ≠ 35) (ht : tokL (s.data.toList.drop k) = .ok (t, n)) (hw : wrongT t = 0) (hT : 300 ≤ T.length) (hT2 : T.length ≤ 300) :
    lexRead s.data.toList = .error 2 := by
  rw [h.at hk h1 h2, ht]
  simp only
  rw [if_neg (by simp [hw]), if_pos (by omega)]; rfl
theorem tRel.step {s : ByteArray} {k : Nat} {T : List Tok} {t : Tok} {n : Nat} (h : tRel s k T) (hk : k < s.size) (h1 : wh s[k] = false) (h2 : s[k].toNat ≠ 35) (ht : tokL (s.data.toList.drop k) = .ok (t, n)) (hw : wrongT t = 0) (hT : T.length < 300) :
    tRel s (k + n) (T ++ [t]) := by
  have hp := tok_pos ht
  have he := h.at hk h1 h2
  rw [ht] at he
  simp only at he
  rw [if_neg (by simp [hw]), if_neg (by omega)] at he
  unfold tRel
  rw [he, List.length_append]
  have hl : (s.data.toList.drop (k + n)).length < s.size := by rw [List.length_drop, list_size]; omega
  rw [readF_any (g := s.size + 1) hl (by omega)]
  simp only [List.length_cons, List.length_nil, Nat.zero_add]
  cases readF (s.size + 1) (s.data.toList.drop (k + n)) (T.length + 1) <;> simp [Except.map]
theorem tRel.ended {s : ByteArray} {k : Nat} {T : List Tok} (h : tRel s k T) (hk : s.size ≤ k) : lexRead s.data.toList = .ok T := by
  unfold tRel at h
  rw [h, drop_end hk]
  simp [readF, skipN, Except.map]

end Go.Proofs.YtkkjchfhgjfclaaGreatDoor
