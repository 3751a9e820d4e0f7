import Derived.Lib.ItoaNum
import Derived.Lib.Atoi
/- Tokens, in plain Lean: what Read, Check and Print of chapter 1 answer. No program is named here. -/
namespace Go.Proofs.YtidodjbmlbjchaaGreat

/-- A token: its kind, its text, its number. -/
structure Tok where
  k : Int
  s : List UInt8
  n : Int

abbrev dig (c : UInt8) : Bool := decide (48 ≤ c.toNat) && decide (c.toNat ≤ 57)
abbrev beg (c : UInt8) : Bool := (decide (97 ≤ c.toNat) && decide (c.toNat ≤ 122)) || (decide (65 ≤ c.toNat) && decide (c.toNat ≤ 90)) || decide (c.toNat = 95)
abbrev onn (c : UInt8) : Bool := beg c || dig c
abbrev wh (c : UInt8) : Bool := decide (c.toNat = 9) || decide (c.toNat = 10) || decide (c.toNat = 13) || decide (c.toNat = 32) || decide (c.toNat = 44)
abbrev sgn (c : UInt8) : Bool := [123, 125, 40, 41, 58, 91, 93].contains c

/-- how many bytes stand there that are nothing (true: within a remark) -/
def skipN : Bool → List UInt8 → Nat
  | _, [] => 0
  | false, c :: r => if wh c then skipN false r + 1 else if c.toNat = 35 then skipN true r + 1 else 0
  | true, c :: r => if c.toNat = 10 then skipN false r + 1 else skipN true r + 1

/-- what a text tells, behind its first sign, and how many bytes it takes (true: behind a backslash) -/
def wordsL : Bool → List UInt8 → Option (List UInt8 × Nat)
  | _, [] => none
  | true, d :: r => if d.toNat = 34 ∨ d.toNat = 92 then (wordsL false r).map (fun x => (d :: x.1, x.2 + 1)) else if d.toNat = 110 then (wordsL false r).map (fun x => (10 :: x.1, x.2 + 1)) else none
  | false, c :: r => if c.toNat = 34 then some ([], 1) else if c.toNat = 10 then none else if c.toNat = 92 then (wordsL true r).map (fun x => (x.1, x.2 + 1)) else (wordsL false r).map (fun x => (c :: x.1, x.2 + 1))

def valD (l : List UInt8) : Int := l.foldl (fun a c => 10 * a + ((c.toNat : Int) - 48)) 0

def isNum (minus : Bool) (ds : List UInt8) : Bool :=
  !(ds.isEmpty || decide (9 < ds.length)) && (decide ((ds.head?.getD 0).toNat ≠ 48) || (decide (ds = [48]) && !minus))

def numL (l : List UInt8) : Except Int (Tok × Nat) :=
  let minus : Bool := decide ((l.head?.getD 0).toNat = 45)
  let ds := (if minus then l.tail else l).takeWhile dig
  if isNum minus ds then .ok (⟨2, [], if minus then -(valD ds) else valD ds⟩, ds.length + if minus then 1 else 0) else .error 1

/-- the token that stands at a list's head, and how many bytes it takes -/
def tokL (l : List UInt8) : Except Int (Tok × Nat) :=
  match l with
  | [] => .error 1
  | c :: r =>
    if beg c then .ok (⟨1, l.takeWhile onn, 0⟩, (l.takeWhile onn).length)
    else if decide (c.toNat = 45) || dig c then numL l
    else if c.toNat = 34 then match wordsL false r with | none => .error 1 | some x => .ok (⟨3, x.1, 0⟩, x.2 + 1)
    else if sgn c then .ok (⟨4, [c], 0⟩, 1)
    else .error 1

def nameOk (s : List UInt8) : Bool := s.all onn && (!s.isEmpty && beg (s.head?.getD 0))

/-- what is wrong with a token -/
def wrongT (t : Tok) : Int :=
  if t.k = 1 then (if t.n ≠ 0 then 1 else if 12 < t.s.length then 2 else if nameOk t.s then 0 else 1)
  else if t.k = 2 then (if t.s ≠ [] then 1 else if t.n < -999999999 ∨ 999999999 < t.n then 3 else 0)
  else if t.k = 3 then (if t.n ≠ 0 then 1 else if 40 < t.s.length then 2 else 0)
  else if t.k = 4 then (if t.n ≠ 0 ∨ t.s.length ≠ 1 ∨ sgn (t.s.head?.getD 0) = false then 1 else 0)
  else 7

/-- tokens one by one, m of them there already -/
def readF : Nat → List UInt8 → Nat → Except Int (List Tok)
  | 0, _, _ => .ok []
  | f + 1, l, m =>
    match l.drop (skipN false l) with
    | [] => .ok []
    | c :: r =>
      match tokL (c :: r) with
      | .error e => .error e
      | .ok (t, n) => if wrongT t ≠ 0 then .error (wrongT t) else if m = 300 then .error 2 else (readF f ((c :: r).drop n) (m + 1)).map (t :: ·)

def lexRead (l : List UInt8) : Except Int (List Tok) := if 2000 < l.length then .error 2 else readF (l.length + 1) l 0

def checkF : List Tok → Int
  | [] => 0
  | t :: r => if wrongT t ≠ 0 then wrongT t else checkF r
def lexCheck (l : List Tok) : Int := if 300 < l.length then 2 else checkF l

def quoteC (c : UInt8) : List UInt8 := if c.toNat = 34 ∨ c.toNat = 92 then [92, c] else if c.toNat = 10 then [92, 110] else [c]
def quoteL (s : List UInt8) : List UInt8 := 34 :: (s.flatMap quoteC ++ [34])
def writtenT (t : Tok) : List UInt8 := if t.k = 2 then Lib.itoa t.n else if t.k = 3 then quoteL t.s else t.s
def printF : List Tok → List UInt8
  | [] => []
  | [t] => writtenT t
  | t :: r => writtenT t ++ 32 :: printF r

end Go.Proofs.YtidodjbmlbjchaaGreat

/- Queries, in plain Lean: what Check and Print of chapter 2 answer. No program is named here. -/
namespace Go.Proofs.YtidodjbmlbjchaaGreat

/-- An argument: its name, whether it is a text, the text, the number. -/
structure ArgT where
  name : List UInt8
  isText : Bool
  text : List UInt8
  n : Int

/-- Selects beside one another: the first one's alias, name, arguments and what is selected of it; then the others. -/
inductive Sels where
  | nil : Sels
  | cons (al nm : List UInt8) (args : List ArgT) (kids rest : Sels) : Sels

def Sels.len : Sels → Nat
  | .nil => 0
  | .cons _ _ _ _ r => r.len + 1

/-- how many more may come behind these, of left; none: too many, or too deep -/
def fitsQ : Sels → Nat → Nat → Option Nat
  | .nil, _, left => some left
  | .cons _ _ _ k r, d, left => if left = 0 ∨ 5 < d then none else (fitsQ k (d + 1) (left - 1)).bind (fun m => fitsQ r d m)

def calledQ (al nm : List UInt8) : List UInt8 := if al = [] then nm else al

def valueT (a : ArgT) : Tok := ⟨if a.isText then 3 else 2, a.text, a.n⟩
def nameT (s : List UInt8) : Tok := ⟨1, s, 0⟩
def signT (s : List UInt8) : Tok := ⟨4, s, 0⟩

/-- what is wrong with arguments, those ahead given by name -/
def wrongA : List (List UInt8) → List ArgT → Int
  | _, [] => 0
  | seen, a :: r => if wrongT (nameT a.name) ≠ 0 then wrongT (nameT a.name) else if seen.contains a.name then 6 else if wrongT (valueT a) ≠ 0 then wrongT (valueT a) else wrongA (seen ++ [a.name]) r

/-- what is wrong with a select by itself -/
def wrongS (al nm : List UInt8) (args : List ArgT) : Int :=
  if wrongT (nameT nm) ≠ 0 then wrongT (nameT nm) else if al ≠ [] ∧ wrongT (nameT al) ≠ 0 then wrongT (nameT al) else if 5 < args.length then 2 else wrongA [] args

/-- what is wrong with selects, those ahead given by what they are called -/
def wrongQ : List (List UInt8) → Sels → Int
  | _, .nil => 0
  | seen, .cons al nm args k r =>
    if wrongS al nm args ≠ 0 then wrongS al nm args else if seen.contains (calledQ al nm) then 6 else if wrongQ [] k ≠ 0 then wrongQ [] k else wrongQ (seen ++ [calledQ al nm]) r

def argToks : List ArgT → List Tok
  | [] => []
  | a :: r => nameT a.name :: signT [58] :: valueT a :: argToks r

/-- the tokens of selects, without the brackets round them -/
def selToks : Sels → List Tok
  | .nil => []
  | .cons al nm args k r =>
    (if al = [] then [] else [nameT al, signT [58]]) ++ [nameT nm] ++ (if args = [] then [] else signT [40] :: (argToks args ++ [signT [41]])) ++
      (if k.len = 0 then [] else signT [123] :: (selToks k ++ [signT [125]])) ++ selToks r

end Go.Proofs.YtidodjbmlbjchaaGreat

/- Lists of bytes: what the readers' loops need. No program is named here. -/
namespace Go.Proofs.YtidodjbmlbjchaaGreat

abbrev nn (c : UInt8) : Bool := decide (c.toNat ≠ 10)
abbrev plain (c : UInt8) : Bool := decide (c.toNat ≠ 34) && decide (c.toNat ≠ 92) && decide (c.toNat ≠ 10)

theorem skip_white (l : List UInt8) : skipN false l = (l.takeWhile wh).length + skipN false (l.drop (l.takeWhile wh).length) := by
  induction l with
  | nil => simp [skipN]
  | cons c r ih =>
    by_cases h : wh c = true
    · rw [List.takeWhile_cons, if_pos h, skipN, if_pos h, ih]; simp; omega
    · rw [List.takeWhile_cons, if_neg h]; simp

theorem skip_note (l : List UInt8) : skipN true l = (l.takeWhile nn).length + skipN false (l.drop (l.takeWhile nn).length) := by
  induction l with
  | nil => simp [skipN]
  | cons c r ih =>
    by_cases h : c.toNat = 10
    · rw [List.takeWhile_cons, if_neg (by simp [nn, h]), skipN, if_pos h]
      simp only [List.length_nil, List.drop_zero, Nat.zero_add]
      rw [skipN, if_pos (by simp [wh, h])]
    · rw [List.takeWhile_cons, if_pos (by simp [nn, h]), skipN, if_neg h, ih]; simp; omega

theorem skip_hash (c : UInt8) (r : List UInt8) (h : c.toNat = 35) : skipN false (c :: r) = ((c :: r).takeWhile nn).length + skipN false ((c :: r).drop ((c :: r).takeWhile nn).length) := by
  rw [List.takeWhile_cons, if_pos (by simp [nn, h]), skipN, if_neg (by simp [wh, h]), if_pos h, skip_note]; simp; omega

theorem skip_stop (c : UInt8) (r : List UInt8) (h1 : wh c = false) (h2 : c.toNat ≠ 35) : skipN false (c :: r) = 0 := by
  rw [skipN, if_neg (by simp [h1]), if_neg h2]

theorem skip_le (b : Bool) (l : List UInt8) : skipN b l ≤ l.length := by
  induction l generalizing b with
  | nil => cases b <;> simp [skipN]
  | cons c r ih => cases b <;> rw [skipN] <;> have h1 := ih true <;> have h2 := ih false <;> (split <;> simp <;> (try split) <;> omega)

theorem stop_at (p : UInt8 → Bool) (l : List UInt8) (c : UInt8) (r : List UInt8) (h : l.drop (l.takeWhile p).length = c :: r) : p c = false := by
  induction l with
  | nil => simp at h
  | cons d l ih =>
    by_cases hd : p d = true
    · rw [List.takeWhile_cons, if_pos hd] at h
      exact ih (by simpa using h)
    · rw [List.takeWhile_cons, if_neg hd] at h
      simp at h
      rw [← h.1]; simpa using hd

/-- so many bytes from place k on are passed -/
def run (p : UInt8 → Bool) (s : ByteArray) (k : Nat) : Nat := ((s.data.toList.drop k).takeWhile p).length

theorem drop_at {s : ByteArray} {k : Nat} (h : k < s.size) : s.data.toList.drop k = s[k] :: s.data.toList.drop (k + 1) := by
  have hk : k < s.data.toList.length := by simpa using h
  rw [List.drop_eq_getElem_cons hk]; rfl
theorem drop_end {s : ByteArray} {k : Nat} (h : s.size ≤ k) : s.data.toList.drop k = [] := List.drop_eq_nil_of_le (by simpa using h)

theorem run_step {p : UInt8 → Bool} {s : ByteArray} {k : Nat} (h : k < s.size) (hp : p s[k] = true) : run p s k = run p s (k + 1) + 1 := by
  unfold run
  rw [drop_at h, List.takeWhile_cons, if_pos hp]
  simp
theorem run_stop {p : UInt8 → Bool} {s : ByteArray} {k : Nat} (h : k < s.size) (hp : p s[k] = false) : run p s k = 0 := by
  unfold run
  rw [drop_at h, List.takeWhile_cons, if_neg (by simp [hp])]
  simp
theorem run_end {p : UInt8 → Bool} {s : ByteArray} {k : Nat} (h : s.size ≤ k) : run p s k = 0 := by
  unfold run
  rw [drop_end h]
  simp
theorem run_le (p : UInt8 → Bool) (s : ByteArray) (k : Nat) (hk : k ≤ s.size) : k + run p s k ≤ s.size := by
  unfold run
  have h1 := List.IsPrefix.length_le (List.takeWhile_prefix p (l := s.data.toList.drop k))
  simp at h1
  have : s.data.size = s.size := rfl
  omega
theorem run_at {p : UInt8 → Bool} {s : ByteArray} {k : Nat} (h : k + run p s k < s.size) : p s[k + run p s k] = false := by
  by_cases hk : k < s.size
  · have h2 : (s.data.toList.drop k).drop (run p s k) = s[k + run p s k] :: s.data.toList.drop (k + run p s k + 1) := by rw [List.drop_drop]; exact drop_at h
    exact stop_at p _ _ _ h2
  · omega

/-- the place behind all that is nothing -/
def blank (s : ByteArray) (k : Nat) : Nat := k + skipN false (s.data.toList.drop k)
theorem blank_le {s : ByteArray} {k : Nat} (h : k ≤ s.size) : blank s k ≤ s.size := by
  unfold blank
  have := skip_le false (s.data.toList.drop k)
  simp at this
  have : s.data.size = s.size := rfl
  omega
theorem blank_white (s : ByteArray) (k : Nat) : blank s k = blank s (k + run wh s k) := by
  unfold blank run
  conv => lhs; rw [skip_white]
  rw [List.drop_drop]; omega
theorem blank_hash {s : ByteArray} {k : Nat} (h : k < s.size) (hc : s[k].toNat = 35) : blank s k = blank s (k + run nn s k) := by
  unfold blank run
  have e := skip_hash s[k] (s.data.toList.drop (k + 1)) hc
  rw [← drop_at h] at e
  conv => lhs; rw [e]
  rw [List.drop_drop]; omega
theorem blank_stop {s : ByteArray} {k : Nat} (h : k < s.size) (h1 : wh s[k] = false) (h2 : s[k].toNat ≠ 35) : blank s k = k := by
  unfold blank
  rw [drop_at h, skip_stop _ _ h1 h2]; rfl
theorem blank_end {s : ByteArray} {k : Nat} (h : s.size ≤ k) : blank s k = k := by
  unfold blank
  rw [drop_end h]; rfl


theorem extract_run (p : UInt8 → Bool) (s : ByteArray) (k : Nat) : s.extract k (k + run p s k) = ⟨((s.data.toList.drop k).takeWhile p).toArray⟩ := by
  apply ByteArray.ext
  apply Array.ext'
  show (s.extract k (k + run p s k)).data.toList = (s.data.toList.drop k).takeWhile p
  rw [ByteArray.data_extract, Array.toList_extract, List.extract_eq_take_drop]
  simp only [Nat.add_sub_cancel_left]
  unfold run
  exact (List.prefix_iff_eq_take.1 (List.takeWhile_prefix p)).symm

theorem digitVal_of {c : UInt8} (h : dig c = true) : Lib.digitVal c = some (c.toNat - 48) := by
  simp at h
  unfold Lib.digitVal
  rw [if_pos h]

theorem decFrom_of (l : List UInt8) (h : l.all dig = true) : ∀ acc : Nat, ∃ n : Nat, Lib.decFrom acc l = some n ∧ (n : Int) = l.foldl (fun a c => 10 * a + ((c.toNat : Int) - 48)) (acc : Int) := by
  induction l with
  | nil => intro acc; exact ⟨acc, rfl, rfl⟩
  | cons c r ih =>
    intro acc
    simp only [List.all_cons, Bool.and_eq_true] at h
    obtain ⟨n, h1, h2⟩ := ih h.2 (acc * 10 + (c.toNat - 48))
    refine ⟨n, ?_, ?_⟩
    · rw [Lib.decFrom, digitVal_of (by simpa using h.1)]; exact h1
    · rw [h2, List.foldl_cons]
      congr 1
      have := h.1
      simp at this
      omega

theorem atoi_of (l : List UInt8) (h : l.all dig = true) (h0 : l ≠ []) : Lib.atoi l = some (valD l) := by
  cases l with
  | nil => exact absurd rfl h0
  | cons c r =>
    obtain ⟨n, h1, h2⟩ := decFrom_of (c :: r) h 0
    have hc : dig c = true := by simp only [List.all_cons, Bool.and_eq_true] at h; simpa using h.1
    simp at hc
    have e1 : (c == 45) = false := by simp; intro e; subst e; simp at hc
    have e2 : (c == 43) = false := by simp; intro e; subst e; simp at hc
    show (if (c == 45) = true then _ else if (c == 43) = true then _ else _) = _
    rw [e1, e2]
    simp only [Bool.false_eq_true, if_false]
    unfold Lib.decNat
    simp only [List.isEmpty_cons, Bool.false_eq_true, if_false, h1, Option.map_some]
    exact congrArg some h2

end Go.Proofs.YtidodjbmlbjchaaGreat
