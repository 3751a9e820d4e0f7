/- Queries read off tokens, in plain Lean; what is printed is read as it was. No program is named here. -/
import Derived.Test.YtidodjbmlbjchaaGreatHistorystaysupto01
import Derived.Test.YtidodjbmlbjchaaGreatHistorystaysupto03
namespace Go.Proofs.YtidodjbmlbjchaaGreat

/-- does this sign stand first? -/
def isS (c : UInt8) : List Tok → Bool
  | t :: _ => decide (t.k = 4) && decide (t.s = [c])
  | [] => false

def pArg : List Tok → Option (ArgT × List Tok)
  | a :: b :: c :: r => if a.k = 1 ∧ (b.k = 4 ∧ b.s = [58]) ∧ (c.k = 2 ∨ c.k = 3) then some (⟨a.s, decide (c.k = 3), c.s, c.n⟩, r) else none
  | _ => none

def pArgs : Nat → List Tok → Option (List ArgT × List Tok)
  | 0, _ => none
  | f + 1, r => match pArg r with
    | none => none
    | some (a, r1) => if isS 41 r1 then some ([a], r1.tail) else (pArgs f r1).map (fun x => (a :: x.1, x.2))

/-- a select's alias and name -/
def pName : List Tok → Option ((List UInt8 × List UInt8) × List Tok)
  | [] => none
  | a :: r => if a.k = 1 then (if isS 58 r then (match r.tail with | [] => none | b :: r2 => if b.k = 1 then some ((a.s, b.s), r2) else none) else some (([], a.s), r)) else none

/-- its arguments, if it has some -/
def pOpt (r : List Tok) : Option (List ArgT × List Tok) := if isS 40 r then pArgs r.tail.length r.tail else some ([], r)

def pSels : Nat → List Tok → Option (Sels × List Tok)
  | 0, _ => none
  | f + 1, r => match pName r with
    | none => none
    | some (an, r1) => match pOpt r1 with
      | none => none
      | some (args, r2) => match (if isS 123 r2 then pSels f r2.tail else some (.nil, r2)) with
        | none => none
        | some (k, r3) => if isS 125 r3 then some (.cons an.1 an.2 args k .nil, r3.tail) else (pSels f r3).map (fun x => (.cons an.1 an.2 args k x.1, x.2))

def pQuery (T : List Tok) : Option Sels := if isS 123 T then (match pSels T.tail.length T.tail with | some (s, []) => some s | _ => none) else none

def checkQ (s : Sels) : Int := if s.len = 0 then 5 else if fitsQ s 1 40 = none then 2 else wrongQ [] s

def readQ (l : List UInt8) : Except Int Sels :=
  match lexRead l with
  | .error e => .error e
  | .ok T => match pQuery T with
    | none => .error 1
    | some s => if checkQ s ≠ 0 then .error (checkQ s) else .ok s

def toksQ (s : Sels) : List Tok := signT [123] :: (selToks s ++ [signT [125]])
def printQ (s : Sels) : List UInt8 := printF (toksQ s)

theorem isS_sign (c d : UInt8) (r : List Tok) : isS c (signT [d] :: r) = decide (d = c) := by simp [isS, signT]
theorem isS_name (c : UInt8) (s : List UInt8) (r : List Tok) : isS c (nameT s :: r) = false := by simp [isS, nameT]

theorem pArg_put (a : ArgT) (r : List Tok) : pArg (nameT a.name :: signT [58] :: valueT a :: r) = some (a, r) := by
  obtain ⟨nm, t, x, n⟩ := a
  cases t <;> simp [pArg, nameT, signT, valueT]

theorem pArgs_put (l : List ArgT) : ∀ (f : Nat) (r : List Tok), l ≠ [] → l.length ≤ f → pArgs f (argToks l ++ signT [41] :: r) = some (l, r) := by
  induction l with
  | nil => intro f r h; exact absurd rfl h
  | cons a l ih =>
    intro f r _ hf
    obtain ⟨f, rfl⟩ : ∃ g, f = g + 1 := ⟨f - 1, by simp at hf; omega⟩
    simp only [List.length_cons] at hf
    rw [pArgs, argToks, List.cons_append, List.cons_append, List.cons_append, pArg_put]
    cases l with
    | nil => simp [argToks, isS_sign]
    | cons b l =>
      have h := ih f r (by simp) (by omega)
      have hs : isS 41 (argToks (b :: l) ++ signT [41] :: r) = false := by rw [argToks, List.cons_append, isS_name]
      simp only [hs, h]
      rfl

theorem argToks_len (l : List ArgT) : (argToks l).length = 3 * l.length := by
  induction l with
  | nil => rfl
  | cons a l ih => simp [argToks, ih]; omega

/-- what stands first behind a select: no colon, no bracket of arguments -/
def endS (r : List Tok) : Prop := isS 58 r = false ∧ isS 40 r = false ∧ isS 123 r = false

theorem selToks_first (al nm : List UInt8) (args : List ArgT) (k r : Sels) : ∃ s x, selToks (.cons al nm args k r) = nameT s :: x := by
  rw [selToks]
  by_cases h : al = []
  · exact ⟨nm, _, by rw [if_pos h]; rfl⟩
  · exact ⟨al, _, by rw [if_neg h]; rfl⟩

def Sels.size' : Sels → Nat
  | .nil => 0
  | .cons _ _ _ k r => k.size' + r.size' + 1

theorem pSels_put (s : Sels) : ∀ (f : Nat) (x : List Tok), s ≠ .nil → s.size' ≤ f → pSels f (selToks s ++ signT [125] :: x) = some (s, x) := by
  induction s with
  | nil => intro f x h; exact absurd rfl h
  | cons al nm args k r ihk ihr =>
    intro f x _ hf
    obtain ⟨f, rfl⟩ : ∃ g, f = g + 1 := ⟨f - 1, by simp [Sels.size'] at hf; omega⟩
    simp only [Sels.size'] at hf
    obtain ⟨R, hR⟩ : ∃ R, R = selToks r ++ signT [125] :: x := ⟨_, rfl⟩
    have hend : endS R := by
      rw [hR]
      cases r with
      | nil => simp [selToks, endS, isS_sign]
      | cons a b c d e =>
        obtain ⟨s, y, h⟩ := selToks_first a b c d e
        rw [h]
        simp [endS, isS_name]
    obtain ⟨K, hK⟩ : ∃ K, K = (if k.len = 0 then [] else signT [123] :: (selToks k ++ [signT [125]])) ++ R := ⟨_, rfl⟩
    have hK2 : isS 58 K = false ∧ isS 40 K = false ∧ (if isS 123 K then pSels f K.tail else some (.nil, K)) = some (k, R) := by
      rw [hK]
      cases k with
      | nil => rw [if_pos (show Sels.nil.len = 0 from rfl)]; exact ⟨hend.1, hend.2.1, by rw [List.nil_append, if_neg (by rw [hend.2.2]; simp)]⟩
      | cons a b c d e =>
        rw [if_neg (show ¬ (Sels.cons a b c d e).len = 0 by simp [Sels.len])]
        refine ⟨by simp [isS_sign], by simp [isS_sign], ?_⟩
        rw [if_pos (by simp [isS_sign])]
        have := ihk f R (by simp) (by omega)
        simpa using this
    obtain ⟨A, hA⟩ : ∃ A, A = (if args = [] then [] else signT [40] :: (argToks args ++ [signT [41]])) ++ K := ⟨_, rfl⟩
    have hA2 : isS 58 A = false ∧ pOpt A = some (args, K) := by
      rw [hA]
      by_cases h : args = []
      · rw [if_pos h, List.nil_append, h]
        exact ⟨hK2.1, by rw [pOpt, if_neg (by rw [hK2.2.1]; simp)]⟩
      · rw [if_neg h]
        refine ⟨by simp [isS_sign], ?_⟩
        rw [pOpt, if_pos (by simp [isS_sign])]
        have := pArgs_put args ((argToks args ++ signT [41] :: K).length) K h (by simp [argToks_len]; omega)
        simpa using this
    have hN : pName ((if al = [] then [] else [nameT al, signT [58]]) ++ [nameT nm] ++ A) = some ((al, nm), A) := by
      by_cases h : al = []
      · rw [if_pos h, List.nil_append, h]
        simp [pName, nameT, hA2.1]
      · rw [if_neg h]
        simp [pName, nameT, isS, signT]
    have hsplit : selToks (.cons al nm args k r) ++ signT [125] :: x = (if al = [] then [] else [nameT al, signT [58]]) ++ [nameT nm] ++ A := by
      rw [selToks, hA, hK, hR]
      simp only [List.append_assoc]
    rw [hsplit, pSels, hN]
    simp only [hA2.2, hK2.2.2]
    cases r with
    | nil =>
      rw [hR, selToks, List.nil_append, if_pos (by simp [isS_sign])]
      rfl
    | cons a b c d e =>
      obtain ⟨s, y, h⟩ := selToks_first a b c d e
      rw [if_neg (by rw [hR, h, List.cons_append, isS_name]; simp), hR, ihr f x (by simp) (by omega)]
      rfl

theorem size_toks (s : Sels) : s.size' ≤ (selToks s).length := by
  induction s with
  | nil => simp [Sels.size']
  | cons al nm args k r ihk ihr =>
    rw [Sels.size', selToks]
    simp only [List.length_append, List.length_cons, List.length_nil]
    cases k with
    | nil => simp [Sels.size']; omega
    | cons a b c d e => rw [if_neg (show ¬ (Sels.cons a b c d e).len = 0 by simp [Sels.len])]; simp only [List.length_cons, List.length_append, List.length_nil]; omega

theorem pQuery_put (s : Sels) (h : s ≠ .nil) : pQuery (toksQ s) = some s := by
  rw [pQuery, toksQ, if_pos (by simp [isS_sign])]
  have := pSels_put s (selToks s ++ [signT [125]]).length [] h (by have := size_toks s; simp; omega)
  rw [List.tail_cons, this]

/-- all tokens of a right query are right -/
def okT (l : List Tok) : Prop := ∀ t ∈ l, wrongT t = 0
theorem okT_check {l : List Tok} (h : okT l) : checkF l = 0 := by
  induction l with
  | nil => rfl
  | cons t l ih =>
    rw [checkF, if_neg (by rw [h t (by simp)]; simp)]
    exact ih (fun u hu => h u (by simp [hu]))

theorem okT_app {a b : List Tok} (ha : okT a) (hb : okT b) : okT (a ++ b) := by
  intro t ht
  rcases List.mem_append.1 ht with h | h
  · exact ha t h
  · exact hb t h
theorem okT_nil : okT [] := fun t h => by cases h
theorem okT_cons {t : Tok} {l : List Tok} (h : wrongT t = 0) (hl : okT l) : okT (t :: l) := by
  intro u hu
  rcases List.mem_cons.1 hu with rfl | h'
  · exact h
  · exact hl u h'

theorem okT_args (l : List ArgT) : ∀ seen, wrongA seen l = 0 → okT (argToks l) := by
  induction l with
  | nil => intro seen _; exact okT_nil
  | cons a l ih =>
    intro seen h
    rw [wrongA] at h
    by_cases h1 : wrongT (nameT a.name) = 0
    · rw [if_neg (by simp [h1])] at h
      by_cases h2 : seen.contains a.name = true
      · rw [if_pos h2] at h; cases h
      · rw [if_neg h2] at h
        by_cases h3 : wrongT (valueT a) = 0
        · rw [if_neg (by simp [h3])] at h
          exact okT_cons h1 (okT_cons (by simp [wrongT, signT, sgn]) (okT_cons h3 (ih _ h)))
        · rw [if_pos h3] at h; exact absurd h h3
    · rw [if_pos h1] at h; exact absurd h h1

theorem wrongS_ok {al nm : List UInt8} {args : List ArgT} (h : wrongS al nm args = 0) : wrongT (nameT nm) = 0 ∧ (al = [] ∨ wrongT (nameT al) = 0) ∧ args.length ≤ 5 ∧ wrongA [] args = 0 := by
  rw [wrongS] at h
  by_cases h1 : wrongT (nameT nm) = 0
  · rw [if_neg (by simp [h1])] at h
    by_cases h2 : al ≠ [] ∧ wrongT (nameT al) ≠ 0
    · rw [if_pos h2] at h; exact absurd h h2.2
    · rw [if_neg h2] at h
      by_cases h3 : 5 < args.length
      · rw [if_pos h3] at h; cases h
      · rw [if_neg h3] at h
        refine ⟨h1, ?_, by omega, h⟩
        by_cases e : al = []
        · exact .inl e
        · exact .inr (Classical.byContradiction fun x => h2 ⟨e, x⟩)
  · rw [if_pos h1] at h; exact absurd h h1

theorem wrongQ_ok {seen : List (List UInt8)} {al nm : List UInt8} {args : List ArgT} {k r : Sels} (h : wrongQ seen (.cons al nm args k r) = 0) :
    wrongS al nm args = 0 ∧ seen.contains (calledQ al nm) = false ∧ wrongQ [] k = 0 ∧ wrongQ (seen ++ [calledQ al nm]) r = 0 := by
  rw [wrongQ] at h
  by_cases h1 : wrongS al nm args = 0
  · rw [if_neg (by simp [h1])] at h
    by_cases h2 : seen.contains (calledQ al nm) = true
    · rw [if_pos h2] at h; cases h
    · rw [if_neg h2] at h
      by_cases h3 : wrongQ [] k = 0
      · rw [if_neg (by simp [h3])] at h
        exact ⟨h1, by simpa using h2, h3, h⟩
      · rw [if_pos h3] at h; exact absurd h h3
  · rw [if_pos h1] at h; exact absurd h h1

theorem wrongQ_mk {seen : List (List UInt8)} {al nm : List UInt8} {args : List ArgT} {k r : Sels} (h1 : wrongS al nm args = 0) (h2 : seen.contains (calledQ al nm) = false) (h3 : wrongQ [] k = 0) (h4 : wrongQ (seen ++ [calledQ al nm]) r = 0) :
    wrongQ seen (.cons al nm args k r) = 0 := by
  rw [wrongQ, if_neg (by simp [h1]), if_neg (by rw [h2]; simp), if_neg (by simp [h3]), h4]

theorem sign_ok (c : UInt8) (h : sgn c = true) : wrongT (signT [c]) = 0 := by
  unfold wrongT
  rw [if_neg (by simp [signT]), if_neg (by simp [signT]), if_neg (by simp [signT]), if_pos (show (signT [c]).k = 4 from rfl), if_neg]
  simp only [signT, List.head?_cons, Option.getD_some, h]
  simp

theorem okT_sels (s : Sels) : ∀ seen, wrongQ seen s = 0 → okT (selToks s) := by
  induction s with
  | nil => intro seen _; exact okT_nil
  | cons al nm args k r ihk ihr =>
    intro seen h
    obtain ⟨h1, _, h3, h4⟩ := wrongQ_ok h
    obtain ⟨g1, g2, _, g4⟩ := wrongS_ok h1
    rw [selToks]
    refine okT_app (okT_app (okT_app (okT_app ?_ (okT_cons g1 okT_nil)) ?_) ?_) (ihr _ h4)
    · by_cases e : al = []
      · rw [if_pos e]; exact okT_nil
      · rw [if_neg e]
        exact okT_cons (g2.resolve_left e) (okT_cons (sign_ok _ (by decide)) okT_nil)
    · by_cases e : args = []
      · rw [if_pos e]; exact okT_nil
      · rw [if_neg e]
        exact okT_cons (sign_ok _ (by decide)) (okT_app (okT_args _ _ g4) (okT_cons (sign_ok _ (by decide)) okT_nil))
    · cases k with
      | nil => exact okT_nil
      | cons a b c d e => rw [if_neg (show ¬ (Sels.cons a b c d e).len = 0 by simp [Sels.len])]; exact okT_cons (sign_ok _ (by decide)) (okT_app (ihk _ h3) (okT_cons (sign_ok _ (by decide)) okT_nil))

theorem checkQ_ok {s : Sels} (h : checkQ s = 0) : s ≠ .nil ∧ fitsQ s 1 40 ≠ none ∧ wrongQ [] s = 0 := by
  rw [checkQ] at h
  by_cases h1 : s.len = 0
  · rw [if_pos h1] at h; cases h
  · rw [if_neg h1] at h
    by_cases h2 : fitsQ s 1 40 = none
    · rw [if_pos h2] at h; cases h
    · rw [if_neg h2] at h
      exact ⟨fun e => h1 (by rw [e]; rfl), h2, h⟩

theorem okT_query {s : Sels} (h : checkQ s = 0) : okT (toksQ s) :=
  okT_cons (sign_ok _ (by decide)) (okT_app (okT_sels s [] (checkQ_ok h).2.2) (okT_cons (sign_ok _ (by decide)) okT_nil))

/-- WHAT IS PRINTED IS READ AS IT WAS, if it is short enough -/
theorem readQ_print {s : Sels} (h : checkQ s = 0) (h1 : (printQ s).length ≤ 2000) (h2 : (toksQ s).length ≤ 300) : readQ (printQ s) = .ok s := by
  have hl : lexCheck (toksQ s) = 0 := by rw [lexCheck, if_neg (by omega), okT_check (okT_query h)]
  have hr := lexRead_print hl h1
  rw [readQ, printQ, hr]
  simp only [pQuery_put s (checkQ_ok h).1, h]
  rfl

end Go.Proofs.YtidodjbmlbjchaaGreat
