import Derived.Test.YtidodjbmlbjchaaGreatHistorystaysupto10
import Derived.WalkKit
import Derived.WalkSpells
import Derived.WalkLawsBesides
import Derived.Deep.QuietTactic
import Derived.BigQuiet
import Derived.Deep.LoopGhost
import Derived.Deep.RegionLaw
import Derived.Laws.OwnMore
import Derived.Test.YtidodjbmlbjchaaGreatChecked
import Derived.Test.YtidodjbmlbjchaaGreatHistorystaysupto01
import Derived.Laws.StructEq
/- History, in plain Lean: what All, At, Group and Back of chapter 5 answer; a group and what undoes it are nothing. No program is named here. -/
namespace Go.Proofs.YtidodjbmlbjchaaGreat

/-- events, one by one -/
def allS : StateT → List EventT → Except Int StateT
  | s, [] => .ok s
  | s, e :: r => match doSt s e with | .error m => .error m | .ok s' => allS s' r
/-- the ways back, of the first k events, the last one first -/
def backN (s : StateT) (l : List EventT) : Nat → List EventT → Except Int (List EventT)
  | 0, acc => .ok acc
  | k + 1, acc => match allS s (l.take k) with
    | .error m => .error m
    | .ok a => match l[k]? with
      | none => .error 0
      | some e => match undoSt a e with | .error m => .error m | .ok u => backN s l k (acc ++ [u])
def groupS (s : StateT) (l : List EventT) : Except Int StateT := if checkSt s ≠ 0 then .error (checkSt s) else if 8 < l.length then .error 2 else allS s l
def backS (s : StateT) (l : List EventT) : Except Int (List EventT) := match groupS s l with | .error m => .error m | .ok _ => backN s l l.length []
def atS (types : List TypeT) (l : List EventT) (n : Int) : Except Int StateT :=
  if checkSc types ≠ 0 then .error (checkSc types) else if n < 0 ∨ (l.length : Int) < n then .error 3 else allS ⟨types, []⟩ (l.take n.toNat)

theorem allS_app (s : StateT) (a b : List EventT) : allS s (a ++ b) = match allS s a with | .error m => .error m | .ok s' => allS s' b := by
  induction a generalizing s with
  | nil => rfl
  | cons e r ih =>
    rw [List.cons_append, allS, allS]
    cases doSt s e with
    | error m => rfl
    | ok s' => exact ih s'
theorem allS_one (s : StateT) (e : EventT) : allS s [e] = doSt s e := by
  rw [allS]
  cases doSt s e <;> rfl
theorem allS_right {s a : StateT} {l : List EventT} (h : allS s l = .ok a) (hs : Right s) : Right a ∧ a.types = s.types := by
  induction l generalizing s with
  | nil => cases h; exact ⟨hs, rfl⟩
  | cons e r ih =>
    rw [allS] at h
    cases hd : doSt s e with
    | error m => rw [hd] at h; cases h
    | ok s' =>
      rw [hd] at h
      obtain ⟨h1, h2⟩ := do_right hd
      obtain ⟨h3, h4⟩ := ih h h1
      exact ⟨h3, h4.trans h2⟩
/-- where all are done, the first are, and the next one is -/
theorem allS_take {s a : StateT} {l : List EventT} (h : allS s l = .ok a) (k : Nat) : ∃ b, allS s (l.take k) = .ok b := by
  have h1 := allS_app s (l.take k) (l.drop k)
  rw [List.take_append_drop, h] at h1
  cases hb : allS s (l.take k) with
  | error m => rw [hb] at h1; cases h1
  | ok b => exact ⟨b, rfl⟩
theorem allS_next {s a b : StateT} {l : List EventT} {e : EventT} {k : Nat} (h : allS s l = .ok a) (hb : allS s (l.take k) = .ok b) (he : l[k]? = some e) : ∃ c, doSt b e = .ok c ∧ allS s (l.take (k + 1)) = .ok c := by
  obtain ⟨c, hc⟩ := allS_take h (k + 1)
  have h1 := hc
  rw [List.take_add_one, he, Option.toList_some, allS_app, hb] at h1
  simp only at h1
  rw [allS_one] at h1
  exact ⟨c, h1, hc⟩

theorem backN_len {s : StateT} {l : List EventT} : ∀ {k : Nat} {acc r : List EventT}, backN s l k acc = .ok r → r.length = acc.length + k := by
  intro k
  induction k with
  | zero => intro acc r h; cases h; rfl
  | succ k ih =>
    intro acc r h
    rw [backN] at h
    cases ha : allS s (l.take k) with
    | error m => rw [ha] at h; cases h
    | ok a =>
      rw [ha] at h
      simp only at h
      cases he : l[k]? with
      | none => rw [he] at h; cases h
      | some e =>
        rw [he] at h
        simp only at h
        cases hu : undoSt a e with
        | error m => rw [hu] at h; cases h
        | ok u =>
          rw [hu] at h
          have := ih h
          rw [this, List.length_append, List.length_singleton]
          omega

/-- back through what was done -/
theorem backN_undoes {s z : StateT} {l : List EventT} (hz : allS s l = .ok z) : ∀ {k : Nat} {acc r : List EventT} {b : StateT}, k ≤ l.length → backN s l k acc = .ok r → allS s (l.take k) = .ok b → allS z acc = .ok b → allS z r = .ok s := by
  intro k
  induction k with
  | zero =>
    intro acc r b _ h hb hacc
    cases h
    rw [List.take_zero] at hb
    cases hb
    exact hacc
  | succ k ih =>
    intro acc r b hk h hb hacc
    rw [backN] at h
    obtain ⟨a, ha⟩ := allS_take hz k
    rw [ha] at h
    simp only at h
    have hlt : k < l.length := by omega
    have he : l[k]? = some l[k] := List.getElem?_eq_getElem hlt
    rw [he] at h
    simp only at h
    obtain ⟨c, hc, hc2⟩ := allS_next hz ha he
    rw [hb] at hc2
    cases hc2
    cases hu : undoSt a l[k] with
    | error m => rw [hu] at h; cases h
    | ok u =>
      rw [hu] at h
      refine ih (by omega) h ha ?_
      rw [allS_app, hacc]
      simp only
      rw [allS_one]
      exact undone hc hu

theorem backN_err {s z : StateT} {l : List EventT} (hz : allS s l = .ok z) : ∀ {k : Nat} {acc : List EventT} {m : Int}, k ≤ l.length → backN s l k acc = .error m → m = 4 := by
  intro k
  induction k with
  | zero => intro acc m _ h; cases h
  | succ k ih =>
    intro acc m hk h
    rw [backN] at h
    obtain ⟨a, ha⟩ := allS_take hz k
    rw [ha] at h
    simp only at h
    have hlt : k < l.length := by omega
    have he : l[k]? = some l[k] := List.getElem?_eq_getElem hlt
    rw [he] at h
    simp only at h
    obtain ⟨c, hc, _⟩ := allS_next hz ha he
    cases hu : undoSt a l[k] with
    | error m' =>
      rw [hu] at h
      cases h
      exact (undo_err hc hu).1
    | ok u =>
      rw [hu] at h
      exact ih (by omega) h

theorem groupS_ok {s a : StateT} {l : List EventT} (h : groupS s l = .ok a) : Right s ∧ l.length ≤ 8 ∧ allS s l = .ok a := by
  unfold groupS at h
  split at h
  · cases h
  · rename_i h1
    split at h
    · cases h
    · rename_i h2
      exact ⟨(checkSt_iff s).1 (Decidable.of_not_not h1), by omega, h⟩

/-- E2: a group and what undoes it are nothing -/
theorem group_back {s a : StateT} {l back : List EventT} (h : groupS s l = .ok a) (hb : backS s l = .ok back) : groupS a back = .ok s := by
  obtain ⟨h1, h2, h3⟩ := groupS_ok h
  unfold backS at hb
  rw [h] at hb
  simp only at hb
  have hl := backN_len hb
  have hu := backN_undoes h3 (Nat.le_refl _) hb (by rw [List.take_length]; exact h3) rfl
  unfold groupS
  rw [if_neg (not_not_intro ((checkSt_iff a).2 (allS_right h3 h1).1)), if_neg (by rw [hl]; simp; omega), hu]
theorem back_err {s a : StateT} {l : List EventT} {m : Int} (h : groupS s l = .ok a) (hb : backS s l = .error m) : m = 4 := by
  obtain ⟨_, _, h3⟩ := groupS_ok h
  unfold backS at hb
  rw [h] at hb
  exact backN_err h3 (Nat.le_refl _) hb

theorem atS_len (types : List TypeT) (l : List EventT) : atS types l l.length = if checkSc types ≠ 0 then .error (checkSc types) else allS ⟨types, []⟩ l := by
  unfold atS
  split
  · rfl
  · rw [if_neg (by omega), Int.toNat_natCast, List.take_length]
/-- E2: what was at a time is for good -/
theorem atS_stays (types : List TypeT) (l m : List EventT) (n : Int) (h0 : 0 ≤ n) (h1 : n ≤ l.length) : atS types (l ++ m) n = atS types l n := by
  unfold atS
  split
  · rfl
  · rw [if_neg (by rw [List.length_append]; omega), if_neg (by omega), List.take_append_of_le_length (by omega)]

theorem right_empty {types : List TypeT} (h : checkSc types = 0) : Right ⟨types, []⟩ := by
  refine (checkSt_iff _).1 ?_
  unfold checkSt
  simp only
  rw [if_neg (not_not_intro h), if_neg (by simp)]
  rfl

end Go.Proofs.YtidodjbmlbjchaaGreat

/- World relations and small closers, over any program. -/
namespace Go.Proofs.YtidodjbmlbjchaaGreat
open Go.RowKit

theorem hide {p : Prop} (h : p) : Hid p := h

theorem ret_bool {a b : Bool} (h : a = b) : Ending.returned (.bool a) = .returned (.bool b) := by rw [h]
theorem ret_int {k : IntKind} {a b : Int} (h : a = b) : Ending.returned (.int k a) = .returned (.int k b) := by rw [h]
theorem ret_str {a b : ByteArray} (h : a = b) : Ending.returned (.string a) = .returned (.string b) := by rw [h]

/-- All blocks of w but those of X stand in w' as they stood. -/
structure Kept (X : Nat → Prop) (w w' : World) : Prop where
  os : w'.os = w.os
  tape : w'.tape = w.tape
  output : w'.output = w.output
  size : w.heap.size ≤ w'.heap.size
  block : ∀ k, k < w.heap.size → ¬ X k → w'.heap[k]? = w.heap[k]?

abbrev Same (w w' : World) : Prop := Kept (fun _ => False) w w'

theorem Kept.refl (X : Nat → Prop) (w : World) : Kept X w w := ⟨rfl, rfl, rfl, Nat.le_refl _, fun _ _ _ => rfl⟩

theorem Kept.trans {X Y : Nat → Prop} {a b c : World} (h : Kept X a b) (k : Kept Y b c) (hY : ∀ i, i < a.heap.size → Y i → X i) : Kept X a c :=
  ⟨k.os.trans h.os, k.tape.trans h.tape, k.output.trans h.output, Nat.le_trans h.size k.size,
    fun i hi hx => (k.block i (Nat.lt_of_lt_of_le hi h.size) (fun y => hx (hY i hi y))).trans (h.block i hi hx)⟩

theorem Kept.mono {X Y : Nat → Prop} {w w' : World} (h : Kept X w w') (hY : ∀ i, i < w.heap.size → X i → Y i) : Kept Y w w' :=
  ⟨h.os, h.tape, h.output, h.size, fun k hk hx => h.block k hk (fun x => hx (hY k hk x))⟩

theorem Same.to {X : Nat → Prop} {w w' : World} (h : Same w w') : Kept X w w' := h.mono (fun _ _ f => f.elim)

theorem Kept.drew {X : Nat → Prop} {a w : World} (h : Kept X a w) : Kept X a w.drew := ⟨h.os, h.tape, h.output, h.size, h.block⟩
theorem Kept.drewN {X : Nat → Prop} {a w : World} (h : Kept X a w) (n : Nat) : Kept X a (w.drewN n) := ⟨h.os, h.tape, h.output, h.size, h.block⟩

theorem Kept.unN {X : Nat → Prop} {w w' : World} {n : Nat} (h : Kept X (w.drewN n) w') : Kept X w w' := ⟨h.os, h.tape, h.output, h.size, h.block⟩
theorem Kept.unD {X : Nat → Prop} {w w' : World} (h : Kept X w.drew w') : Kept X w w' := ⟨h.os, h.tape, h.output, h.size, h.block⟩

theorem Kept.alloc {X : Nat → Prop} {a w : World} (h : Kept X a w) (o : Obj) : Kept X a (w.alloc o) :=
  ⟨h.os, h.tape, h.output, by have := h.size; simp; omega, fun k hk hx => (Below.heap_alloc _ _ _ (Nat.lt_of_lt_of_le hk h.size)).trans (h.block k hk hx)⟩

theorem Kept.unA {X : Nat → Prop} {w w' : World} {o : Obj} (h : Kept X (w.alloc o) w') : Kept X w w' := ((Kept.refl X w).alloc o).trans h (fun _ _ x => x)

theorem Kept.setCell {X : Nat → Prop} {a w : World} (h : Kept X a w) {p : Addr} (hp : p.block < a.heap.size → X p.block) (u : Value) : Kept X a (w.setCell p u) :=
  ⟨h.os, h.tape, h.output, by have := h.size; simpa [World.setCell] using this, fun k hk hx => (Below.heap_setCell _ _ _ _ (fun e => hx (by subst e; exact hp hk))).trans (h.block k hk hx)⟩

theorem Kept.setB {b : Nat} {a w : World} (h : Kept (· = b) a w) (o : Nat) (u : Value) : Kept (· = b) a (w.setCell ⟨b, o, none⟩ u) := h.setCell (fun _ => rfl) u

theorem Kept.grown {X : Nat → Prop} {a w w' : World} {row : Option Nat} (h : Kept X a w) (hg : w.grownBy w' row) (hr : ∀ k, row = some k → k < a.heap.size → X k) : Kept X a w' :=
  ⟨hg.os.trans h.os, hg.tape.trans h.tape, hg.output.trans h.output, Nat.le_trans h.size hg.size,
    fun k hk hx => (hg.block k (Nat.lt_of_lt_of_le hk h.size) (fun e => hx (hr k e.symm hk))).trans (h.block k hk hx)⟩

theorem Kept.cell {X : Nat → Prop} {w w' : World} (h : Kept X w w') {p : Addr} {v : Value} (hv : w.cell? p = some v) (hp : ¬ X p.block) : w'.cell? p = some v :=
  (World.cell?_of_block (w := w) (h.block p.block (World.block_lt_of_cell? w p hv) hp)).trans hv

theorem Kept.below {w w' : World} (h : Same w w') : Below w.heap.size w w' := ⟨h.os, h.tape, h.output, h.size, fun k hk => h.block k hk (fun f => f)⟩
theorem Kept.of_below {w w' : World} (h : Below w.heap.size w w') : Same w w' := ⟨h.os, h.tape, h.output, h.size, fun k hk _ => h.block k hk⟩


theorem own_kept {w w' : World} {base : Nat} {e : TypeId} {size : Nat} {v : Value} {n : Nat} {xs : List Value} (h : w.ownsRow base e size v n xs) {X : Nat → Prop} (hk : Kept X w w') (hX : ∀ g, base ≤ g → ¬ X g) : w'.ownsRow base e size v n xs := by
  obtain ⟨h1, h2⟩ := h
  refine ⟨h1, ?_⟩
  rcases h2 with h2 | ⟨g, cap, cur, hv, hg, hh, r⟩
  · exact Or.inl h2
  · have hlt : g < w.heap.size := (Array.getElem?_eq_some_iff.1 hh).1
    exact Or.inr ⟨g, cap, cur, hv, hg, by rw [hk.block g hlt (hX g hg)]; exact hh, r⟩

theorem own_row {w : World} {base : Nat} {e : TypeId} {size : Nat} {v : Value} {n : Nat} {xs : List Value} (h : w.ownsRow base e size v n xs) : ∀ k, v.ownBlock = some k → base ≤ k := fun k hk => (h.lt k hk).1


/-- append onto a row that the call owns, as one step of a region that draws. -/
theorem step_append_own {P : Program} {ops : Array Oper} {o : Oper} {a : Act} {w : World} {K : Act → World → Prop} {Q : Exit → Act → World → Prop} {E : Prop}
    (hg : o.guard = none) (s x : Operand) (t : TypeId) (hop : o.op = Op.call { callee := Callee.builtin Builtin.append, args := #[s, x], argTypes := #[t, t] })
    (base : Nat) (e : TypeId) (i : TypeInfo) (z : Value) (size bytes : Nat) (h1 : P.underlying t = some (.slice e)) (h2 : P.info? e = some i) (h3 : i.zero = some z) (h4 : i.size = size) (h5 : i.bytes = bytes) (h6 : z.cells.size = size) (h7 : 0 < size)
    (v : Value) (n : Nat) (xs : List Value) (hs : a.eval s = v) (hown : w.ownsRow base e size v n xs)
    (ad : Addr) (m c : Nat) (news : List Value) (hx : a.eval x = .slice (some ad) m c) (hn : news.length = m * size) (hc : ∀ j u, news[j]? = some u → w.cell? (ad.add j) = some u) (h1c : ∀ u ∈ news, u.oneCell' = true)
    (b1 : n + m ≤ maxLen) (b2 : (n + m) * bytes ≤ 140737488355328) (hb : base ≤ w.heap.size)
    (hK : ∀ v' w', w'.ownsRow base e size v' (n + m) (xs ++ news) → w.grownBy w' v.ownBlock → (v' = .slice none 0 0 ↔ v = .slice none 0 0 ∧ m = 0) → K (a.put o.dst v') w') :
    if Region.wanted o (yielded ops a.tmps) = true then Oper.wp P o a w K Q else E := by
  have hw : Region.wanted o (yielded ops a.tmps) = true := by simp [Region.wanted, hg]
  rw [if_pos hw]
  obtain ⟨v', w', hrun, r1, r2, r3⟩ := run_append_own (P := P) w base t o.type e i z size bytes h1 h2 h3 h4 h5 h6 h7 v n xs hown ad m c news hn hc h1c b1 b2 hb
  unfold Oper.wp
  simp [execOp, hop, resolve, invoke, builtin, hs, hx, hrun, Result.andThen]
  exact hK v' w' r1 r2 r3

/-- A row that holds something has its address. -/
theorem own_form {w : World} {base : Nat} {e : TypeId} {size : Nat} {v : Value} {n : Nat} {xs : List Value} (h : w.ownsRow base e size v n xs) (hn : 0 < n) : ∃ g cap, v = .slice (some ⟨g, 0, none⟩) n cap := by
  rcases h.2 with ⟨_, h0⟩ | ⟨g, cap, cur, hv, _⟩
  · omega
  · exact ⟨g, cap, hv⟩

/-- A new block stands behind whatever keeps it. -/
theorem new_kept {w w1 : World} {o : Obj} {X : Nat → Prop} (h : Kept X (w.alloc o) w1) (hX : ¬ X w.heap.size) : w1.heap[w.heap.size]? = some o := by
  rw [h.block w.heap.size (by simp) hX]
  exact heap_alloc_new w o


/-- append from a slice, nil or not, onto a row that the call owns; the operation guarded or not. -/
theorem wpList_append_all {P : Program} {w : World} {ops : Array Oper} {rest : List Oper} {o : Oper} {a : Act} {Q : Exit → Act → World → Prop} (hw : Region.wanted o (yielded ops a.tmps) = true) (s x : Operand) (t : TypeId)
    (ho : o.op = .call { callee := .builtin .append, args := #[s, x], argTypes := #[t, t] })
    (base : Nat) (e : TypeId) (i : TypeInfo) (z : Value) (size bytes : Nat) (ht : P.underlying t = some (.slice e)) (hi : P.info? e = some i) (hz : i.zero = some z)
    (hsize : i.size = size) (hby : i.bytes = bytes) (hzs : z.cells.size = size) (hsz : 0 < size)
    (v : Value) (n : Nat) (xs : List Value) (hs : a.eval s = v) (hown : w.ownsRow base e size v n xs)
    (ao : Option Addr) (m c : Nat) (news : List Value) (hx : a.eval x = .slice ao m c) (hnone : ao = none → m = 0 ∧ c = 0) (hl : news.length = m * size) (hnews : ∀ ad, ao = some ad → ∀ j u, news[j]? = some u → w.cell? (ad.add j) = some u) (h1 : ∀ u ∈ news, u.oneCell' = true)
    (h63 : n + m ≤ maxLen) (hbytes : (n + m) * bytes ≤ 140737488355328) (hbase : base ≤ w.heap.size)
    (h : ∀ v' w', w'.ownsRow base e size v' (n + m) (xs ++ news) → w.grownBy w' v.ownBlock → wpList P ops Q rest (a.put o.dst v') w') : wpList P ops Q (o :: rest) a w := by
  refine BigFrame.wpList_want hw fun K hK => ?_
  cases ao with
  | some ad => exact wp_append_own w s x t ho base e i z size bytes ht hi hz hsize hby hzs hsz v n xs hs hown ad m c news hx hl (hnews ad rfl) h1 h63 hbytes hbase fun v' w' h2 h3 _ => hK _ _ (h v' w' h2 h3)
  | none =>
    obtain ⟨rfl, rfl⟩ := hnone rfl
    obtain rfl : news = [] := List.length_eq_zero_iff.1 (by simpa using hl)
    have hrun := run_append_owned_none (P := P) (w := w) base t o.type e i size ht hi v n xs hown
    unfold Oper.wp
    simp only [execOp, ho, resolve, invoke, builtin, Sem.run_bind, Sem.run_pure, Result.andThen_ok, List.map_toArray, List.map_cons, List.map_nil, hs, hx, hrun]
    exact hK _ _ (h v w (by simpa using hown) ⟨rfl, rfl, rfl, Nat.le_refl _, fun _ _ _ => rfl⟩)

end Go.Proofs.YtidodjbmlbjchaaGreat

/- Slices of tokens in memory; halyardref.SameTokens. -/
namespace Go.Proofs.YtidodjbmlbjchaaGreat
open Go.RowKit

/-- v is a slice of the tokens l, in w -/
def TokSl (w : World) (v : Value) (l : List Tok) : Prop :=
  ∃ ao cap, v = .slice ao l.length cap ∧ l.length ≤ 9000000000000 ∧ ∀ i t, l[i]? = some t → ∃ b off, ao = some ⟨b, off, none⟩ ∧
    w.cell? ⟨b, off + i * 3, none⟩ = some (.int .i64 t.k) ∧ w.cell? ⟨b, off + i * 3 + 1, none⟩ = some (.string ⟨t.s.toArray⟩) ∧ w.cell? ⟨b, off + i * 3 + 2, none⟩ = some (.int .i64 t.n)

def tokEq (a b : Tok) : Bool := decide (a.k = b.k) && decide (a.s = b.s) && decide (a.n = b.n)

theorem neq_tok (x y : Tok) (w : World) :
    (binOp .neq 126 (.agg #[.int .i64 x.k, .string ⟨x.s.toArray⟩, .int .i64 x.n]) (.agg #[.int .i64 y.k, .string ⟨y.s.toArray⟩, .int .i64 y.n])).run Tryz.prog w = .ok (.bool (!tokEq x y)) w := by
  rw [run_neq_struct, run_equalIn_agg _ _ _ _ _ (by kernel_rfl) (by kernel_rfl)]
  rw [show (Tryz.prog.fieldsOf 126).toList = [{ name := "Kind", type := 3, offset := 0, embedded := false, tag := "", pkgPath := "", byteOffset := 0 }, { name := "Text", type := 9, offset := 1, embedded := false, tag := "", pkgPath := "", byteOffset := 8 }, { name := "N", type := 3, offset := 2, embedded := false, tag := "", pkgPath := "", byteOffset := 24 }] from by kernel_rfl]
  simp [Op.eqFields, go_sem]
  unfold tokEq
  by_cases h1 : x.k = y.k <;> by_cases h2 : x.s = y.s <;> by_cases h3 : x.n = y.n <;> simp [h1, h2, h3]


theorem tokEq_iff (a b : Tok) : tokEq a b = true ↔ a = b := by
  unfold tokEq
  cases a; cases b
  simp [and_assoc]

def sameT : List Tok → List Tok → Bool
  | [], [] => true
  | x :: r, y :: r' => tokEq x y && sameT r r'
  | _, _ => false
theorem sameT_iff (a : List Tok) : ∀ b, sameT a b = true ↔ a = b := by
  induction a with
  | nil => intro b; cases b <;> simp [sameT]
  | cons x r ih => intro b; cases b with
    | nil => simp [sameT]
    | cons y r' => simp [sameT, ih, tokEq_iff]
theorem sameT_false {a b : List Tok} (h : a ≠ b) : sameT a b = false := by
  cases hx : sameT a b with
  | false => rfl
  | true => exact absurd ((sameT_iff a b).1 hx) h

theorem TokSl.at {w : World} {ao : Option Addr} {n cap : Nat} {l : List Tok} (h : TokSl w (.slice ao n cap) l) (i : Nat) (hi : i < l.length) : ∃ b off, ao = some ⟨b, off, none⟩ ∧
    w.cell? ⟨b, off + i * 3, none⟩ = some (.int .i64 l[i].k) ∧ w.cell? ⟨b, off + i * 3 + 1, none⟩ = some (.string ⟨l[i].s.toArray⟩) ∧ w.cell? ⟨b, off + i * 3 + 2, none⟩ = some (.int .i64 l[i].n) := by
  obtain ⟨ao', cap', hv, _, h3⟩ := h
  cases hv
  exact h3 i l[i] (List.getElem?_eq_getElem hi)

theorem TokSl.keep {w w' : World} {v : Value} {l : List Tok} (h : TokSl w v l) {X : Nat → Prop} (hk : Kept X w w') (hX : ∀ k, X k → w.heap.size ≤ k) : TokSl w' v l := by
  obtain ⟨ao, cap, hv, hl, hc⟩ := h
  refine ⟨ao, cap, hv, hl, fun i t ht => ?_⟩
  obtain ⟨b, off, ha, h0, h1, h2⟩ := hc i t ht
  have hb : b < w.heap.size := World.block_lt_of_cell? w _ h0
  have hx : ¬ X b := fun x => by have := hX b x; omega
  exact ⟨b, off, ha, hk.cell h0 hx, hk.cell h1 hx, hk.cell h2 hx⟩

theorem TokSl.same {w w' : World} {v : Value} {l : List Tok} (h : TokSl w v l) (hk : Same w w') : TokSl w' v l := h.keep hk (fun _ f => f.elim)

theorem TokSl.nil (w : World) : TokSl w (.slice none 0 0) [] := ⟨none, 0, rfl, by simp, fun i t h => by simp at h⟩

end Go.Proofs.YtidodjbmlbjchaaGreat
