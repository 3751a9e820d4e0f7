import Derived.WalkKit
import Derived.WalkSpells
import Derived.WalkLawsBesides
import Derived.Deep.QuietTactic
import Derived.BigQuiet
import Derived.Deep.LoopGhost
import Derived.Deep.RegionLaw
import Derived.Laws.OwnMore
import Derived.Lib.ItoaNum
import Derived.Lib.Atoi
/- World relations and small closers, over any program. -/
namespace Go.Proofs.YthiagmhijebbgaaDoor
open Go.RowKit

theorem hide {p : Prop} (h : p) : Hid p := h

theorem ret_bool {a b : Bool} (h : a = b) : Ending.returned (.bool a) = .returned (.bool b) := by rw [h]
theorem ret_int {k : IntKind} {a b : Int} (h : a = b) : Ending.returned (.int k a) = .returned (.int k b) := by rw [h]
theorem ret_str {a b : ByteArray} (h : a = b) : Ending.returned (.string a) = .returned (.string b) := by rw [h]

/-- All blocks of w but those of X stand in w' as they stood. -/
structure Kept (X : Nat → Prop) (w w' : World) : Prop where
  os : w'.os = w.os
  tape : w'.tape = w.tape
  output : w'.output = w.output
  size : w.heap.size ≤ w'.heap.size
  block : ∀ k, k < w.heap.size → ¬ X k → w'.heap[k]? = w.heap[k]?

abbrev Same (w w' : World) : Prop := Kept (fun _ => False) w w'

theorem Kept.refl (X : Nat → Prop) (w : World) : Kept X w w := ⟨rfl, rfl, rfl, Nat.le_refl _, fun _ _ _ => rfl⟩

theorem Kept.trans {X Y : Nat → Prop} {a b c : World} (h : Kept X a b) (k : Kept Y b c) (hY : ∀ i, i < a.heap.size → Y i → X i) : Kept X a c :=
  ⟨k.os.trans h.os, k.tape.trans h.tape, k.output.trans h.output, Nat.le_trans h.size k.size,
    fun i hi hx => (k.block i (Nat.lt_of_lt_of_le hi h.size) (fun y => hx (hY i hi y))).trans (h.block i hi hx)⟩

theorem Kept.mono {X Y : Nat → Prop} {w w' : World} (h : Kept X w w') (hY : ∀ i, i < w.heap.size → X i → Y i) : Kept Y w w' :=
  ⟨h.os, h.tape, h.output, h.size, fun k hk hx => h.block k hk (fun x => hx (hY k hk x))⟩

theorem Same.to {X : Nat → Prop} {w w' : World} (h : Same w w') : Kept X w w' := h.mono (fun _ _ f => f.elim)

theorem Kept.drew {X : Nat → Prop} {a w : World} (h : Kept X a w) : Kept X a w.drew := ⟨h.os, h.tape, h.output, h.size, h.block⟩
theorem Kept.drewN {X : Nat → Prop} {a w : World} (h : Kept X a w) (n : Nat) : Kept X a (w.drewN n) := ⟨h.os, h.tape, h.output, h.size, h.block⟩

theorem Kept.unN {X : Nat → Prop} {w w' : World} {n : Nat} (h : Kept X (w.drewN n) w') : Kept X w w' := ⟨h.os, h.tape, h.output, h.size, h.block⟩
theorem Kept.unD {X : Nat → Prop} {w w' : World} (h : Kept X w.drew w') : Kept X w w' := ⟨h.os, h.tape, h.output, h.size, h.block⟩

theorem Kept.alloc {X : Nat → Prop} {a w : World} (h : Kept X a w) (o : Obj) : Kept X a (w.alloc o) :=
  ⟨h.os, h.tape, h.output, by have := h.size; simp; omega, fun k hk hx => (Below.heap_alloc _ _ _ (Nat.lt_of_lt_of_le hk h.size)).trans (h.block k hk hx)⟩

theorem Kept.unA {X : Nat → Prop} {w w' : World} {o : Obj} (h : Kept X (w.alloc o) w') : Kept X w w' := ((Kept.refl X w).alloc o).trans h (fun _ _ x => x)

theorem Kept.setCell {X : Nat → Prop} {a w : World} (h : Kept X a w) {p : Addr} (hp : p.block < a.heap.size → X p.block) (u : Value) : Kept X a (w.setCell p u) :=
  ⟨h.os, h.tape, h.output, by have := h.size; simpa [World.setCell] using this, fun k hk hx => (Below.heap_setCell _ _ _ _ (fun e => hx (by subst e; exact hp hk))).trans (h.block k hk hx)⟩

theorem Kept.setB {b : Nat} {a w : World} (h : Kept (· = b) a w) (o : Nat) (u : Value) : Kept (· = b) a (w.setCell ⟨b, o, none⟩ u) := h.setCell (fun _ => rfl) u

theorem Kept.grown {X : Nat → Prop} {a w w' : World} {row : Option Nat} (h : Kept X a w) (hg : w.grownBy w' row) (hr : ∀ k, row = some k → k < a.heap.size → X k) : Kept X a w' :=
  ⟨hg.os.trans h.os, hg.tape.trans h.tape, hg.output.trans h.output, Nat.le_trans h.size hg.size,
    fun k hk hx => (hg.block k (Nat.lt_of_lt_of_le hk h.size) (fun e => hx (hr k e.symm hk))).trans (h.block k hk hx)⟩

theorem Kept.cell {X : Nat → Prop} {w w' : World} (h : Kept X w w') {p : Addr} {v : Value} (hv : w.cell? p = some v) (hp : ¬ X p.block) : w'.cell? p = some v :=
  (World.cell?_of_block (w := w) (h.block p.block (World.block_lt_of_cell? w p hv) hp)).trans hv

theorem Kept.below {w w' : World} (h : Same w w') : Below w.heap.size w w' := ⟨h.os, h.tape, h.output, h.size, fun k hk => h.block k hk (fun f => f)⟩
theorem Kept.of_below {w w' : World} (h : Below w.heap.size w w') : Same w w' := ⟨h.os, h.tape, h.output, h.size, fun k hk _ => h.block k hk⟩


theorem own_kept {w w' : World} {base : Nat} {e : TypeId} {size : Nat} {v : Value} {n : Nat} {xs : List Value} (h : w.ownsRow base e size v n xs) {X : Nat → Prop} (hk : Kept X w w') (hX : ∀ g, base ≤ g → ¬ X g) : w'.ownsRow base e size v n xs := by
  obtain ⟨h1, h2⟩ := h
  refine ⟨h1, ?_⟩
  rcases h2 with h2 | ⟨g, cap, cur, hv, hg, hh, r⟩
  · exact Or.inl h2
  · have hlt : g < w.heap.size := (Array.getElem?_eq_some_iff.1 hh).1
    exact Or.inr ⟨g, cap, cur, hv, hg, by rw [hk.block g hlt (hX g hg)]; exact hh, r⟩

theorem own_row {w : World} {base : Nat} {e : TypeId} {size : Nat} {v : Value} {n : Nat} {xs : List Value} (h : w.ownsRow base e size v n xs) : ∀ k, v.ownBlock = some k → base ≤ k := fun k hk => (h.lt k hk).1


/-- append onto a row that the call owns, as one step of a region that draws. -/
theorem step_append_own {P : Program} {ops : Array Oper} {o : Oper} {a : Act} {w : World} {K : Act → World → Prop} {Q : Exit → Act → World → Prop} {E : Prop}
    (hg : o.guard = none) (s x : Operand) (t : TypeId) (hop : o.op = Op.call { callee := Callee.builtin Builtin.append, args := #[s, x], argTypes := #[t, t] })
    (base : Nat) (e : TypeId) (i : TypeInfo) (z : Value) (size bytes : Nat) (h1 : P.underlying t = some (.slice e)) (h2 : P.info? e = some i) (h3 : i.zero = some z) (h4 : i.size = size) (h5 : i.bytes = bytes) (h6 : z.cells.size = size) (h7 : 0 < size)
    (v : Value) (n : Nat) (xs : List Value) (hs : a.eval s = v) (hown : w.ownsRow base e size v n xs)
    (ad : Addr) (m c : Nat) (news : List Value) (hx : a.eval x = .slice (some ad) m c) (hn : news.length = m * size) (hc : ∀ j u, news[j]? = some u → w.cell? (ad.add j) = some u) (h1c : ∀ u ∈ news, u.oneCell' = true)
    (b1 : n + m ≤ maxLen) (b2 : (n + m) * bytes ≤ 140737488355328) (hb : base ≤ w.heap.size)
    (hK : ∀ v' w', w'.ownsRow base e size v' (n + m) (xs ++ news) → w.grownBy w' v.ownBlock → (v' = .slice none 0 0 ↔ v = .slice none 0 0 ∧ m = 0) → K (a.put o.dst v') w') :
    if Region.wanted o (yielded ops a.tmps) = true then Oper.wp P o a w K Q else E := by
  have hw : Region.wanted o (yielded ops a.tmps) = true := by simp [Region.wanted, hg]
  rw [if_pos hw]
  obtain ⟨v', w', hrun, r1, r2, r3⟩ := run_append_own (P := P) w base t o.type e i z size bytes h1 h2 h3 h4 h5 h6 h7 v n xs hown ad m c news hn hc h1c b1 b2 hb
  unfold Oper.wp
  simp [execOp, hop, resolve, invoke, builtin, hs, hx, hrun, Result.andThen]
  exact hK v' w' r1 r2 r3

/-- A row that holds something has its address. -/
theorem own_form {w : World} {base : Nat} {e : TypeId} {size : Nat} {v : Value} {n : Nat} {xs : List Value} (h : w.ownsRow base e size v n xs) (hn : 0 < n) : ∃ g cap, v = .slice (some ⟨g, 0, none⟩) n cap := by
  rcases h.2 with ⟨_, h0⟩ | ⟨g, cap, cur, hv, _⟩
  · omega
  · exact ⟨g, cap, hv⟩

/-- A new block stands behind whatever keeps it. -/
theorem new_kept {w w1 : World} {o : Obj} {X : Nat → Prop} (h : Kept X (w.alloc o) w1) (hX : ¬ X w.heap.size) : w1.heap[w.heap.size]? = some o := by
  rw [h.block w.heap.size (by simp) hX]
  exact heap_alloc_new w o


/-- append from a slice, nil or not, onto a row that the call owns; the operation guarded or not. -/
theorem wpList_append_all {P : Program} {w : World} {ops : Array Oper} {rest : List Oper} {o : Oper} {a : Act} {Q : Exit → Act → World → Prop} (hw : Region.wanted o (yielded ops a.tmps) = true) (s x : Operand) (t : TypeId)
    (ho : o.op = .call { callee := .builtin .append, args := #[s, x], argTypes := #[t, t] })
    (base : Nat) (e : TypeId) (i : TypeInfo) (z : Value) (size bytes : Nat) (ht : P.underlying t = some (.slice e)) (hi : P.info? e = some i) (hz : i.zero = some z)
    (hsize : i.size = size) (hby : i.bytes = bytes) (hzs : z.cells.size = size) (hsz : 0 < size)
    (v : Value) (n : Nat) (xs : List Value) (hs : a.eval s = v) (hown : w.ownsRow base e size v n xs)
    (ao : Option Addr) (m c : Nat) (news : List Value) (hx : a.eval x = .slice ao m c) (hnone : ao = none → m = 0 ∧ c = 0) (hl : news.length = m * size) (hnews : ∀ ad, ao = some ad → ∀ j u, news[j]? = some u → w.cell? (ad.add j) = some u) (h1 : ∀ u ∈ news, u.oneCell' = true)
    (h63 : n + m ≤ maxLen) (hbytes : (n + m) * bytes ≤ 140737488355328) (hbase : base ≤ w.heap.size)
    (h : ∀ v' w', w'.ownsRow base e size v' (n + m) (xs ++ news) → w.grownBy w' v.ownBlock → wpList P ops Q rest (a.put o.dst v') w') : wpList P ops Q (o :: rest) a w := by
  refine BigFrame.wpList_want hw fun K hK => ?_
  cases ao with
  | some ad => exact wp_append_own w s x t ho base e i z size bytes ht hi hz hsize hby hzs hsz v n xs hs hown ad m c news hx hl (hnews ad rfl) h1 h63 hbytes hbase fun v' w' h2 h3 _ => hK _ _ (h v' w' h2 h3)
  | none =>
    obtain ⟨rfl, rfl⟩ := hnone rfl
    obtain rfl : news = [] := List.length_eq_zero_iff.1 (by simpa using hl)
    have hrun := run_append_owned_none (P := P) (w := w) base t o.type e i size ht hi v n xs hown
    unfold Oper.wp
    simp only [execOp, ho, resolve, invoke, builtin, Sem.run_bind, Sem.run_pure, Result.andThen_ok, List.map_toArray, List.map_cons, List.map_nil, hs, hx, hrun]
    exact hK _ _ (h v w (by simpa using hown) ⟨rfl, rfl, rfl, Nat.le_refl _, fun _ _ _ => rfl⟩)

end Go.Proofs.YthiagmhijebbgaaDoor

/- Tokens, in plain Lean: what Read, Check and Print of chapter 1 answer. No program is named here. -/
namespace Go.Proofs.YthiagmhijebbgaaDoor

/-- A token: its kind, its text, its number. -/
structure Tok where
  k : Int
  s : List UInt8
  n : Int

abbrev dig (c : UInt8) : Bool := decide (48 ≤ c.toNat) && decide (c.toNat ≤ 57)
abbrev beg (c : UInt8) : Bool := (decide (97 ≤ c.toNat) && decide (c.toNat ≤ 122)) || (decide (65 ≤ c.toNat) && decide (c.toNat ≤ 90)) || decide (c.toNat = 95)
abbrev onn (c : UInt8) : Bool := beg c || dig c
abbrev wh (c : UInt8) : Bool := decide (c.toNat = 9) || decide (c.toNat = 10) || decide (c.toNat = 13) || decide (c.toNat = 32) || decide (c.toNat = 44)
abbrev sgn (c : UInt8) : Bool := [123, 125, 40, 41, 58, 91, 93].contains c

/-- how many bytes stand there that are nothing (true: within a remark) -/
def skipN : Bool → List UInt8 → Nat
  | _, [] => 0
  | false, c :: r => if wh c then skipN false r + 1 else if c.toNat = 35 then skipN true r + 1 else 0
  | true, c :: r => if c.toNat = 10 then skipN false r + 1 else skipN true r + 1

/-- what a text tells, behind its first sign, and how many bytes it takes (true: behind a backslash) -/
def wordsL : Bool → List UInt8 → Option (List UInt8 × Nat)
  | _, [] => none
  | true, d :: r => if d.toNat = 34 ∨ d.toNat = 92 then (wordsL false r).map (fun x => (d :: x.1, x.2 + 1)) else if d.toNat = 110 then (wordsL false r).map (fun x => (10 :: x.1, x.2 + 1)) else none
  | false, c :: r => if c.toNat = 34 then some ([], 1) else if c.toNat = 10 then none else if c.toNat = 92 then (wordsL true r).map (fun x => (x.1, x.2 + 1)) else (wordsL false r).map (fun x => (c :: x.1, x.2 + 1))

def valD (l : List UInt8) : Int := l.foldl (fun a c => 10 * a + ((c.toNat : Int) - 48)) 0

def isNum (minus : Bool) (ds : List UInt8) : Bool :=
  !(ds.isEmpty || decide (9 < ds.length)) && (decide ((ds.head?.getD 0).toNat ≠ 48) || (decide (ds = [48]) && !minus))

def numL (l : List UInt8) : Except Int (Tok × Nat) :=
  let minus : Bool := decide ((l.head?.getD 0).toNat = 45)
  let ds := (if minus then l.tail else l).takeWhile dig
  if isNum minus ds then .ok (⟨2, [], if minus then -(valD ds) else valD ds⟩, ds.length + if minus then 1 else 0) else .error 1

/-- the token that stands at a list's head, and how many bytes it takes -/
def tokL (l : List UInt8) : Except Int (Tok × Nat) :=
  match l with
  | [] => .error 1
  | c :: r =>
    if beg c then .ok (⟨1, l.takeWhile onn, 0⟩, (l.takeWhile onn).length)
    else if decide (c.toNat = 45) || dig c then numL l
    else if c.toNat = 34 then match wordsL false r with | none => .error 1 | some x => .ok (⟨3, x.1, 0⟩, x.2 + 1)
    else if sgn c then .ok (⟨4, [c], 0⟩, 1)
    else .error 1

def nameOk (s : List UInt8) : Bool := s.all onn && (!s.isEmpty && beg (s.head?.getD 0))

/-- what is wrong with a token -/
def wrongT (t : Tok) : Int :=
  if t.k = 1 then (if t.n ≠ 0 then 1 else if 12 < t.s.length then 2 else if nameOk t.s then 0 else 1)
  else if t.k = 2 then (if t.s ≠ [] then 1 else if t.n < -999999999 ∨ 999999999 < t.n then 3 else 0)
  else if t.k = 3 then (if t.n ≠ 0 then 1 else if 40 < t.s.length then 2 else 0)
  else if t.k = 4 then (if t.n ≠ 0 ∨ t.s.length ≠ 1 ∨ sgn (t.s.head?.getD 0) = false then 1 else 0)
  else 7

/-- tokens one by one, m of them there already -/
def readF : Nat → List UInt8 → Nat → Except Int (List Tok)
  | 0, _, _ => .ok []
  | f + 1, l, m =>
    match l.drop (skipN false l) with
    | [] => .ok []
    | c :: r =>
      match tokL (c :: r) with
      | .error e => .error e
      | .ok (t, n) => if wrongT t ≠ 0 then .error (wrongT t) else if m = 300 then .error 2 else (readF f ((c :: r).drop n) (m + 1)).map (t :: ·)

def lexRead (l : List UInt8) : Except Int (List Tok) := if 2000 < l.length then .error 2 else readF (l.length + 1) l 0

def checkF : List Tok → Int
  | [] => 0
  | t :: r => if wrongT t ≠ 0 then wrongT t else checkF r
def lexCheck (l : List Tok) : Int := if 300 < l.length then 2 else checkF l

def quoteC (c : UInt8) : List UInt8 := if c.toNat = 34 ∨ c.toNat = 92 then [92, c] else if c.toNat = 10 then [92, 110] else [c]
def quoteL (s : List UInt8) : List UInt8 := 34 :: (s.flatMap quoteC ++ [34])
def writtenT (t : Tok) : List UInt8 := if t.k = 2 then Lib.itoa t.n else if t.k = 3 then quoteL t.s else t.s
def printF : List Tok → List UInt8
  | [] => []
  | [t] => writtenT t
  | t :: r => writtenT t ++ 32 :: printF r

end Go.Proofs.YthiagmhijebbgaaDoor

/- Lists of bytes: what the readers' loops need. No program is named here. -/
namespace Go.Proofs.YthiagmhijebbgaaDoor

abbrev nn (c : UInt8) : Bool := decide (c.toNat ≠ 10)
abbrev plain (c : UInt8) : Bool := decide (c.toNat ≠ 34) && decide (c.toNat ≠ 92) && decide (c.toNat ≠ 10)

theorem skip_white (l : List UInt8) : skipN false l = (l.takeWhile wh).length + skipN false (l.drop (l.takeWhile wh).length) := by
  induction l with
  | nil => simp [skipN]
  | cons c r ih =>
    by_cases h : wh c = true
    · rw [List.takeWhile_cons, if_pos h, skipN, if_pos h, ih]; simp; omega
    · rw [List.takeWhile_cons, if_neg h]; simp

theorem skip_note (l : List UInt8) : skipN true l = (l.takeWhile nn).length + skipN false (l.drop (l.takeWhile nn).length) := by
  induction l with
  | nil => simp [skipN]
  | cons c r ih =>
    by_cases h : c.toNat = 10
    · rw [List.takeWhile_cons, if_neg (by simp [nn, h]), skipN, if_pos h]
      simp only [List.length_nil, List.drop_zero, Nat.zero_add]
      rw [skipN, if_pos (by simp [wh, h])]
    · rw [List.takeWhile_cons, if_pos (by simp [nn, h]), skipN, if_neg h, ih]; simp; omega

theorem skip_hash (c : UInt8) (r : List UInt8) (h : c.toNat = 35) : skipN false (c :: r) = ((c :: r).takeWhile nn).length + skipN false ((c :: r).drop ((c :: r).takeWhile nn).length) := by
  rw [List.takeWhile_cons, if_pos (by simp [nn, h]), skipN, if_neg (by simp [wh, h]), if_pos h, skip_note]; simp; omega

theorem skip_stop (c : UInt8) (r : List UInt8) (h1 : wh c = false) (h2 : c.toNat ≠ 35) : skipN false (c :: r) = 0 := by
  rw [skipN, if_neg (by simp [h1]), if_neg h2]

theorem skip_le (b : Bool) (l : List UInt8) : skipN b l ≤ l.length := by
  induction l generalizing b with
  | nil => cases b <;> simp [skipN]
  | cons c r ih => cases b <;> rw [skipN] <;> have h1 := ih true <;> have h2 := ih false <;> (split <;> simp <;> (try split) <;> omega)

theorem stop_at (p : UInt8 → Bool) (l : List UInt8) (c : UInt8) (r : List UInt8) (h : l.drop (l.takeWhile p).length = c :: r) : p c = false := by
  induction l with
  | nil => simp at h
  | cons d l ih =>
    by_cases hd : p d = true
    · rw [List.takeWhile_cons, if_pos hd] at h
      exact ih (by simpa using h)
    · rw [List.takeWhile_cons, if_neg hd] at h
      simp at h
      rw [← h.1]; simpa using hd

/-- so many bytes from place k on are passed -/
def run (p : UInt8 → Bool) (s : ByteArray) (k : Nat) : Nat := ((s.data.toList.drop k).takeWhile p).length

theorem drop_at {s : ByteArray} {k : Nat} (h : k < s.size) : s.data.toList.drop k = s[k] :: s.data.toList.drop (k + 1) := by
  have hk : k < s.data.toList.length := by simpa using h
  rw [List.drop_eq_getElem_cons hk]; rfl
theorem drop_end {s : ByteArray} {k : Nat} (h : s.size ≤ k) : s.data.toList.drop k = [] := List.drop_eq_nil_of_le (by simpa using h)

theorem run_step {p : UInt8 → Bool} {s : ByteArray} {k : Nat} (h : k < s.size) (hp : p s[k] = true) : run p s k = run p s (k + 1) + 1 := by
  unfold run
  rw [drop_at h, List.takeWhile_cons, if_pos hp]
  simp
theorem run_stop {p : UInt8 → Bool} {s : ByteArray} {k : Nat} (h : k < s.size) (hp : p s[k] = false) : run p s k = 0 := by
  unfold run
  rw [drop_at h, List.takeWhile_cons, if_neg (by simp [hp])]
  simp
theorem run_end {p : UInt8 → Bool} {s : ByteArray} {k : Nat} (h : s.size ≤ k) : run p s k = 0 := by
  unfold run
  rw [drop_end h]
  simp
theorem run_le (p : UInt8 → Bool) (s : ByteArray) (k : Nat) (hk : k ≤ s.size) : k + run p s k ≤ s.size := by
  unfold run
  have h1 := List.IsPrefix.length_le (List.takeWhile_prefix p (l := s.data.toList.drop k))
  simp at h1
  have : s.data.size = s.size := rfl
  omega
theorem run_at {p : UInt8 → Bool} {s : ByteArray} {k : Nat} (h : k + run p s k < s.size) : p s[k + run p s k] = false := by
  by_cases hk : k < s.size
  · have h2 : (s.data.toList.drop k).drop (run p s k) = s[k + run p s k] :: s.data.toList.drop (k + run p s k + 1) := by rw [List.drop_drop]; exact drop_at h
    exact stop_at p _ _ _ h2
  · omega

/-- the place behind all that is nothing -/
def blank (s : ByteArray) (k : Nat) : Nat := k + skipN false (s.data.toList.drop k)
theorem blank_le {s : ByteArray} {k : Nat} (h : k ≤ s.size) : blank s k ≤ s.size := by
  unfold blank
  have := skip_le false (s.data.toList.drop k)
  simp at this
  have : s.data.size = s.size := rfl
  omega
theorem blank_white (s : ByteArray) (k : Nat) : blank s k = blank s (k + run wh s k) := by
  unfold blank run
  conv => lhs; rw [skip_white]
  rw [List.drop_drop]; omega
theorem blank_hash {s : ByteArray} {k : Nat} (h : k < s.size) (hc : s[k].toNat = 35) : blank s k = blank s (k + run nn s k) := by
  unfold blank run
  have e := skip_hash s[k] (s.data.toList.drop (k + 1)) hc
  rw [← drop_at h] at e
  conv => lhs; rw [e]
  rw [List.drop_drop]; omega
theorem blank_stop {s : ByteArray} {k : Nat} (h : k < s.size) (h1 : wh s[k] = false) (h2 : s[k].toNat ≠ 35) : blank s k = k := by
  unfold blank
  rw [drop_at h, skip_stop _ _ h1 h2]; rfl
theorem blank_end {s : ByteArray} {k : Nat} (h : s.size ≤ k) : blank s k = k := by
  unfold blank
  rw [drop_end h]; rfl


theorem extract_run (p : UInt8 → Bool) (s : ByteArray) (k : Nat) : s.extract k (k + run p s k) = ⟨((s.data.toList.drop k).takeWhile p).toArray⟩ := by
  apply ByteArray.ext
  apply Array.ext'
  show (s.extract k (k + run p s k)).data.toList = (s.data.toList.drop k).takeWhile p
  rw [ByteArray.data_extract, Array.toList_extract, List.extract_eq_take_drop]
  simp only [Nat.add_sub_cancel_left]
  unfold run
  exact (List.prefix_iff_eq_take.1 (List.takeWhile_prefix p)).symm

theorem digitVal_of {c : UInt8} (h : dig c = true) : Lib.digitVal c = some (c.toNat - 48) := by
  simp at h
  unfold Lib.digitVal
  rw [if_pos h]

theorem decFrom_of (l : List UInt8) (h : l.all dig = true) : ∀ acc : Nat, ∃ n : Nat, Lib.decFrom acc l = some n ∧ (n : Int) = l.foldl (fun a c => 10 * a + ((c.toNat : Int) - 48)) (acc : Int) := by
  induction l with
  | nil => intro acc; exact ⟨acc, rfl, rfl⟩
  | cons c r ih =>
    intro acc
    simp only [List.all_cons, Bool.and_eq_true] at h
    obtain ⟨n, h1, h2⟩ := ih h.2 (acc * 10 + (c.toNat - 48))
    refine ⟨n, ?_, ?_⟩
    · rw [Lib.decFrom, digitVal_of (by simpa using h.1)]; exact h1
    · rw [h2, List.foldl_cons]
      congr 1
      have := h.1
      simp at this
      omega

theorem atoi_of (l : List UInt8) (h : l.all dig = true) (h0 : l ≠ []) : Lib.atoi l = some (valD l) := by
  cases l with
  | nil => exact absurd rfl h0
  | cons c r =>
    obtain ⟨n, h1, h2⟩ := decFrom_of (c :: r) h 0
    have hc : dig c = true := by simp only [List.all_cons, Bool.and_eq_true] at h; simpa using h.1
    simp at hc
    have e1 : (c == 45) = false := by simp; intro e; subst e; simp at hc
    have e2 : (c == 43) = false := by simp; intro e; subst e; simp at hc
    show (if (c == 45) = true then _ else if (c == 43) = true then _ else _) = _
    rw [e1, e2]
    simp only [Bool.false_eq_true, if_false]
    unfold Lib.decNat
    simp only [List.isEmpty_cons, Bool.false_eq_true, if_false, h1, Option.map_some]
    exact congrArg some h2

end Go.Proofs.YthiagmhijebbgaaDoor
