/- Tokens, in plain Lean: what Read, Check and Print of chapter 1 answer. No program is named here. -/
import Derived.Lib.ItoaNum
namespace Go.Proofs.YthbnhnnafkkpkaaDoor

/-- A token: its kind, its text, its number. -/
structure Tok where
  k : Int
  s : List UInt8
  n : Int

abbrev dig (c : UInt8) : Bool := decide (48 ≤ c.toNat) && decide (c.toNat ≤ 57)
abbrev beg (c : UInt8) : Bool := (decide (97 ≤ c.toNat) && decide (c.toNat ≤ 122)) || (decide (65 ≤ c.toNat) && decide (c.toNat ≤ 90)) || decide (c.toNat = 95)
abbrev onn (c : UInt8) : Bool := beg c || dig c
abbrev wh (c : UInt8) : Bool := decide (c.toNat = 9) || decide (c.toNat = 10) || decide (c.toNat = 13) || decide (c.toNat = 32) || decide (c.toNat = 44)
abbrev sgn (c : UInt8) : Bool := [123, 125, 40, 41, 58, 91, 93].contains c

/-- how many bytes stand there that are nothing (true: within a remark) -/
def skipN : Bool → List UInt8 → Nat
  | _, [] => 0
  | false, c :: r => if wh c then skipN false r + 1 else if c.toNat = 35 then skipN true r + 1 else 0
  | true, c :: r => if c.toNat = 10 then skipN false r + 1 else skipN true r + 1

/-- what a text tells, behind its first sign, and how many bytes it takes (true: behind a backslash) -/
def wordsL : Bool → List UInt8 → Option (List UInt8 × Nat)
  | _, [] => none
  | true, d :: r => if d.toNat = 34 ∨ d.toNat = 92 then (wordsL false r).map (fun x => (d :: x.1, x.2 + 1)) else if d.toNat = 110 then (wordsL false r).map (fun x => (10 :: x.1, x.2 + 1)) else none
  | false, c :: r => if c.toNat = 34 then some ([], 1) else if c.toNat = 10 then none else if c.toNat = 92 then (wordsL true r).map (fun x => (x.1, x.2 + 1)) else (wordsL false r).map (fun x => (c :: x.1, x.2 + 1))

def valD (l : List UInt8) : Int := l.foldl (fun a c => 10 * a + ((c.toNat : Int) - 48)) 0

def isNum (minus : Bool) (ds : List UInt8) : Bool :=
  !(ds.isEmpty || decide (9 < ds.length)) && (decide ((ds.head?.getD 0).toNat ≠ 48) || (decide (ds = [48]) && !minus))

def numL (l : List UInt8) : Except Int (Tok × Nat) :=
  let minus : Bool := decide ((l.head?.getD 0).toNat = 45)
  let ds := (if minus then l.tail else l).takeWhile dig
  if isNum minus ds then .ok (⟨2, [], if minus then -(valD ds) else valD ds⟩, ds.length + if minus then 1 else 0) else .error 1

/-- the token that stands at a list's head, and how many bytes it takes -/
def tokL (l : List UInt8) : Except Int (Tok × Nat) :=
  match l with
  | [] => .error 1
  | c :: r =>
    if beg c then .ok (⟨1, l.takeWhile onn, 0⟩, (l.takeWhile onn).length)
    else if decide (c.toNat = 45) || dig c then numL l
    else if c.toNat = 34 then match wordsL false r with | none => .error 1 | some x => .ok (⟨3, x.1, 0⟩, x.2 + 1)
    else if sgn c then .ok (⟨4, [c], 0⟩, 1)
    else .error 1

def nameOk (s : List UInt8) : Bool := s.all onn && (!s.isEmpty && beg (s.head?.getD 0))

/-- what is wrong with a token -/
def wrongT (t : Tok) : Int :=
  if t.k = 1 then (if t.n ≠ 0 then 1 else if 12 < t.s.length then 2 else if nameOk t.s then 0 else 1)
  else if t.k = 2 then (if t.s ≠ [] then 1 else if t.n < -999999999 ∨ 999999999 < t.n then 3 else 0)
  else if t.k = 3 then (if t.n ≠ 0 then 1 else if 40 < t.s.length then 2 else 0)
  else if t.k = 4 then (if t.n ≠ 0 ∨ t.s.length ≠ 1 ∨ sgn (t.s.head?.getD 0) = false then 1 else 0)
  else 7

/-- tokens one by one, m of them there already -/
def readF : Nat → List UInt8 → Nat → Except Int (List Tok)
  | 0, _, _ => .ok []
  | f + 1, l, m =>
    match l.drop (skipN false l) with
    | [] => .ok []
    | c :: r =>
      match tokL (c :: r) with
      | .error e => .error e
      | .ok (t, n) => if wrongT t ≠ 0 then .error (wrongT t) else if m = 300 then .error 2 else (readF f ((c :: r).drop n) (m + 1)).map (t :: ·)

def lexRead (l : List UInt8) : Except Int (List Tok) := if 2000 < l.length then .error 2 else readF (l.length + 1) l 0

def checkF : List Tok → Int
  | [] => 0
  | t :: r => if wrongT t ≠ 0 then wrongT t else checkF r
def lexCheck (l : List Tok) : Int := if 300 < l.length then 2 else checkF l

def quoteC (c : UInt8) : List UInt8 := if c.toNat = 34 ∨ c.toNat = 92 then [92, c] else if c.toNat = 10 then [92, 110] else [c]
def quoteL (s : List UInt8) : List UInt8 := 34 :: (s.flatMap quoteC ++ [34])
def writtenT (t : Tok) : List UInt8 := if t.k = 2 then Lib.itoa t.n else if t.k = 3 then quoteL t.s else t.s
def printF : List Tok → List UInt8
  | [] => []
  | [t] => writtenT t
  | t :: r => writtenT t ++ 32 :: printF r

end Go.Proofs.YthbnhnnafkkpkaaDoor
