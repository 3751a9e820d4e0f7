import Derived.WalkKit
import Derived.WalkSpells
import Derived.WalkLawsBesides
import Derived.Deep.QuietTactic
import Derived.BigQuiet
import Derived.Deep.LoopGhost
import Derived.Deep.RegionLaw
import Derived.Laws.OwnMore
import Derived.Test.YtillhpepfpldcaaChecked
/- World relations and small closers, over any program. -/
namespace Go.Proofs.Ytillhpepfpldcaa
open Go.RowKit

theorem hide {p : Prop} (h : p) : Hid p := h

theorem ret_bool {a b : Bool} (h : a = b) : Ending.returned (.bool a) = .returned (.bool b) := by rw [h]
theorem ret_int {k : IntKind} {a b : Int} (h : a = b) : Ending.returned (.int k a) = .returned (.int k b) := by rw [h]
theorem ret_str {a b : ByteArray} (h : a = b) : Ending.returned (.string a) = .returned (.string b) := by rw [h]

/-- All blocks of w but those of X stand in w' as they stood. -/
structure Kept (X : Nat → Prop) (w w' : World) : Prop where
  os : w'.os = w.os
  tape : w'.tape = w.tape
  output : w'.output = w.output
  size : w.heap.size ≤ w'.heap.size
  block : ∀ k, k < w.heap.size → ¬ X k → w'.heap[k]? = w.heap[k]?

abbrev Same (w w' : World) : Prop := Kept (fun _ => False) w w'

theorem Kept.refl (X : Nat → Prop) (w : World) : Kept X w w := ⟨rfl, rfl, rfl, Nat.le_refl _, fun _ _ _ => rfl⟩

theorem Kept.trans {X Y : Nat → Prop} {a b c : World} (h : Kept X a b) (k : Kept Y b c) (hY : ∀ i, i < a.heap.size → Y i → X i) : Kept X a c :=
  ⟨k.os.trans h.os, k.tape.trans h.tape, k.output.trans h.output, Nat.le_trans h.size k.size,
    fun i hi hx => (k.block i (Nat.lt_of_lt_of_le hi h.size) (fun y => hx (hY i hi y))).trans (h.block i hi hx)⟩

theorem Kept.mono {X Y : Nat → Prop} {w w' : World} (h : Kept X w w') (hY : ∀ i, i < w.heap.size → X i → Y i) : Kept Y w w' :=
  ⟨h.os, h.tape, h.output, h.size, fun k hk hx => h.block k hk (fun x => hx (hY k hk x))⟩

theorem Same.to {X : Nat → Prop} {w w' : World} (h : Same w w') : Kept X w w' := h.mono (fun _ _ f => f.elim)

theorem Kept.drew {X : Nat → Prop} {a w : World} (h : Kept X a w) : Kept X a w.drew := ⟨h.os, h.tape, h.output, h.size, h.block⟩
theorem Kept.drewN {X : Nat → Prop} {a w : World} (h : Kept X a w) (n : Nat) : Kept X a (w.drewN n) := ⟨h.os, h.tape, h.output, h.size, h.block⟩

theorem Kept.unN {X : Nat → Prop} {w w' : World} {n : Nat} (h : Kept X (w.drewN n) w') : Kept X w w' := ⟨h.os, h.tape, h.output, h.size, h.block⟩
theorem Kept.unD {X : Nat → Prop} {w w' : World} (h : Kept X w.drew w') : Kept X w w' := ⟨h.os, h.tape, h.output, h.size, h.block⟩

theorem Kept.alloc {X : Nat → Prop} {a w : World} (h : Kept X a w) (o : Obj) : Kept X a (w.alloc o) :=
  ⟨h.os, h.tape, h.output, by have := h.size; simp; omega, fun k hk hx => (Below.heap_alloc _ _ _ (Nat.lt_of_lt_of_le hk h.size)).trans (h.block k hk hx)⟩

theorem Kept.unA {X : Nat → Prop} {w w' : World} {o : Obj} (h : Kept X (w.alloc o) w') : Kept X w w' := ((Kept.refl X w).alloc o).trans h (fun _ _ x => x)

theorem Kept.setCell {X : Nat → Prop} {a w : World} (h : Kept X a w) {p : Addr} (hp : p.block < a.heap.size → X p.block) (u : Value) : Kept X a (w.setCell p u) :=
  ⟨h.os, h.tape, h.output, by have := h.size; simpa [World.setCell] using this, fun k hk hx => (Below.heap_setCell _ _ _ _ (fun e => hx (by subst e; exact hp hk))).trans (h.block k hk hx)⟩

theorem Kept.setB {b : Nat} {a w : World} (h : Kept (· = b) a w) (o : Nat) (u : Value) : Kept (· = b) a (w.setCell ⟨b, o, none⟩ u) := h.setCell (fun _ => rfl) u

theorem Kept.grown {X : Nat → Prop} {a w w' : World} {row : Option Nat} (h : Kept X a w) (hg : w.grownBy w' row) (hr : ∀ k, row = some k → k < a.heap.size → X k) : Kept X a w' :=
  ⟨hg.os.trans h.os, hg.tape.trans h.tape, hg.output.trans h.output, Nat.le_trans h.size hg.size,
    fun k hk hx => (hg.block k (Nat.lt_of_lt_of_le hk h.size) (fun e => hx (hr k e.symm hk))).trans (h.block k hk hx)⟩

theorem Kept.cell {X : Nat → Prop} {w w' : World} (h : Kept X w w') {p : Addr} {v : Value} (hv : w.cell? p = some v) (hp : ¬ X p.block) : w'.cell? p = some v :=
  (World.cell?_of_block (w := w) (h.block p.block (World.block_lt_of_cell? w p hv) hp)).trans hv

theorem Kept.below {w w' : World} (h : Same w w') : Below w.heap.size w w' := ⟨h.os, h.tape, h.output, h.size, fun k hk => h.block k hk (fun f => f)⟩
theorem Kept.of_below {w w' : World} (h : Below w.heap.size w w') : Same w w' := ⟨h.os, h.tape, h.output, h.size, fun k hk _ => h.block k hk⟩


theorem own_kept {w w' : World} {base : Nat} {e : TypeId} {size : Nat} {v : Value} {n : Nat} {xs : List Value} (h : w.ownsRow base e size v n xs) {X : Nat → Prop} (hk : Kept X w w') (hX : ∀ g, base ≤ g → ¬ X g) : w'.ownsRow base e size v n xs := by
  obtain ⟨h1, h2⟩ := h
  refine ⟨h1, ?_⟩
  rcases h2 with h2 | ⟨g, cap, cur, hv, hg, hh, r⟩
  · exact Or.inl h2
  · have hlt : g < w.heap.size := (Array.getElem?_eq_some_iff.1 hh).1
    exact Or.inr ⟨g, cap, cur, hv, hg, by rw [hk.block g hlt (hX g hg)]; exact hh, r⟩

theorem own_row {w : World} {base : Nat} {e : TypeId} {size : Nat} {v : Value} {n : Nat} {xs : List Value} (h : w.ownsRow base e size v n xs) : ∀ k, v.ownBlock = some k → base ≤ k := fun k hk => (h.lt k hk).1


/-- append onto a row that the call owns, as one step of a region that draws. -/
theorem step_append_own {P : Program} {ops : Array Oper} {o : Oper} {a : Act} {w : World} {K : Act → World → Prop} {Q : Exit → Act → World → Prop} {E : Prop}
    (hg : o.guard = none) (s x : Operand) (t : TypeId) (hop : o.op = Op.call { callee := Callee.builtin Builtin.append, args := #[s, x], argTypes := #[t, t] })
    (base : Nat) (e : TypeId) (i : TypeInfo) (z : Value) (size bytes : Nat) (h1 : P.underlying t = some (.slice e)) (h2 : P.info? e = some i) (h3 : i.zero = some z) (h4 : i.size = size) (h5 : i.bytes = bytes) (h6 : z.cells.size = size) (h7 : 0 < size)
    (v : Value) (n : Nat) (xs : List Value) (hs : a.eval s = v) (hown : w.ownsRow base e size v n xs)
    (ad : Addr) (m c : Nat) (news : List Value) (hx : a.eval x = .slice (some ad) m c) (hn : news.length = m * size) (hc : ∀ j u, news[j]? = some u → w.cell? (ad.add j) = some u) (h1c : ∀ u ∈ news, u.oneCell' = true)
    (b1 : n + m ≤ maxLen) (b2 : (n + m) * bytes ≤ 140737488355328) (hb : base ≤ w.heap.size)
    (hK : ∀ v' w', w'.ownsRow base e size v' (n + m) (xs ++ news) → w.grownBy w' v.ownBlock → (v' = .slice none 0 0 ↔ v = .slice none 0 0 ∧ m = 0) → K (a.put o.dst v') w') :
    if Region.wanted o (yielded ops a.tmps) = true then Oper.wp P o a w K Q else E := by
  have hw : Region.wanted o (yielded ops a.tmps) = true := by simp [Region.wanted, hg]
  rw [if_pos hw]
  obtain ⟨v', w', hrun, r1, r2, r3⟩ := run_append_own (P := P) w base t o.type e i z size bytes h1 h2 h3 h4 h5 h6 h7 v n xs hown ad m c news hn hc h1c b1 b2 hb
  unfold Oper.wp
  simp [execOp, hop, resolve, invoke, builtin, hs, hx, hrun, Result.andThen]
  exact hK v' w' r1 r2 r3

/-- A row that holds something has its address. -/
theorem own_form {w : World} {base : Nat} {e : TypeId} {size : Nat} {v : Value} {n : Nat} {xs : List Value} (h : w.ownsRow base e size v n xs) (hn : 0 < n) : ∃ g cap, v = .slice (some ⟨g, 0, none⟩) n cap := by
  rcases h.2 with ⟨_, h0⟩ | ⟨g, cap, cur, hv, _⟩
  · omega
  · exact ⟨g, cap, hv⟩

/-- A new block stands behind whatever keeps it. -/
theorem new_kept {w w1 : World} {o : Obj} {X : Nat → Prop} (h : Kept X (w.alloc o) w1) (hX : ¬ X w.heap.size) : w1.heap[w.heap.size]? = some o := by
  rw [h.block w.heap.size (by simp) hX]
  exact heap_alloc_new w o


/-- append from a slice, nil or not, onto a row that the call owns; the operation guarded or not. -/
theorem wpList_append_all {P : Program} {w : World} {ops : Array Oper} {rest : List Oper} {o : Oper} {a : Act} {Q : Exit → Act → World → Prop} (hw : Region.wanted o (yielded ops a.tmps) = true) (s x : Operand) (t : TypeId)
    (ho : o.op = .call { callee := .builtin .append, args := #[s, x], argTypes := #[t, t] })
    (base : Nat) (e : TypeId) (i : TypeInfo) (z : Value) (size bytes : Nat) (ht : P.underlying t = some (.slice e)) (hi : P.info? e = some i) (hz : i.zero = some z)
    (hsize : i.size = size) (hby : i.bytes = bytes) (hzs : z.cells.size = size) (hsz : 0 < size)
    (v : Value) (n : Nat) (xs : List Value) (hs : a.eval s = v) (hown : w.ownsRow base e size v n xs)
    (ao : Option Addr) (m c : Nat) (news : List Value) (hx : a.eval x = .slice ao m c) (hnone : ao = none → m = 0 ∧ c = 0) (hl : news.length = m * size) (hnews : ∀ ad, ao = some ad → ∀ j u, news[j]? = some u → w.cell? (ad.add j) = some u) (h1 : ∀ u ∈ news, u.oneCell' = true)
    (h63 : n + m ≤ maxLen) (hbytes : (n + m) * bytes ≤ 140737488355328) (hbase : base ≤ w.heap.size)
    (h : ∀ v' w', w'.ownsRow base e size v' (n + m) (xs ++ news) → w.grownBy w' v.ownBlock → wpList P ops Q rest (a.put o.dst v') w') : wpList P ops Q (o :: rest) a w := by
  refine BigFrame.wpList_want hw fun K hK => ?_
  cases ao with
  | some ad => exact wp_append_own w s x t ho base e i z size bytes ht hi hz hsize hby hzs hsz v n xs hs hown ad m c news hx hl (hnews ad rfl) h1 h63 hbytes hbase fun v' w' h2 h3 _ => hK _ _ (h v' w' h2 h3)
  | none =>
    obtain ⟨rfl, rfl⟩ := hnone rfl
    obtain rfl : news = [] := List.length_eq_zero_iff.1 (by simpa using hl)
    have hrun := run_append_owned_none (P := P) (w := w) base t o.type e i size ht hi v n xs hown
    unfold Oper.wp
    simp only [execOp, ho, resolve, invoke, builtin, Sem.run_bind, Sem.run_pure, Result.andThen_ok, List.map_toArray, List.map_cons, List.map_nil, hs, hx, hrun]
    exact hK _ _ (h v w (by simpa using hown) ⟨rfl, rfl, rfl, Nat.le_refl _, fun _ _ _ => rfl⟩)

end Go.Proofs.Ytillhpepfpldcaa

/- The reference: between. -/
namespace Go.Proofs.Ytillhpepfpldcaa
open Go.RowKit

theorem between_any (n a b : Int) (w : World) :
    Calls Try.prog 36 #[.int .i64 n, .int .i64 a, .int .i64 b] w fun e w' => e = .returned (.bool (decide (a ≤ n) && decide (n ≤ b))) ∧ w' = w := by
  go_enter Try.func36, Try.ntmps36
  go_wp2
  all_goals go_ret
  all_goals refine ⟨ret_bool ?_, rfl⟩
  all_goals (rw [Bool.eq_iff_iff]; simp; try omega)

theorem between_is (n a b : Int) (w : World) (t : Bool) (ht : (decide (a ≤ n) && decide (n ≤ b)) = t) :
    Calls Try.prog 36 #[.int .i64 n, .int .i64 a, .int .i64 b] w fun e w' => e = .returned (.bool t) ∧ w' = w := by
  subst ht; exact between_any n a b w

end Go.Proofs.Ytillhpepfpldcaa

/- The reference's IsInt. -/
namespace Go.Proofs.Ytillhpepfpldcaa
open Go.RowKit

theorem isInt_any (n : Int) (w : World) :
    Calls Try.prog 38 #[.int .i64 n] w fun e w' => e = .returned (.bool (decide (-999999999 ≤ n) && decide (n ≤ 999999999))) ∧ w' = w := by
  have H1 := hide (between_is n (-999999999) 999999999 w _ rfl)
  go_enter Try.func38, Try.ntmps38
  go_wp2_with fail
  refine H1.out.mono ?_
  rintro e w' ⟨rfl, rfl⟩
  go_wp2_with fail
  go_ret
  exact ⟨rfl, rfl⟩

end Go.Proofs.Ytillhpepfpldcaa

/- Events by themselves, in plain Lean. No program is named here. -/
namespace Go.Proofs.Ytillhpepfpldcaa

structure EventT where
  kind : Int
  ty : Int
  id : Int
  field : Int
  n : Int
  text : List UInt8
deriving DecidableEq

def event0 : EventT := ⟨0, 0, 0, 0, 0, []⟩

def evKind (k : Int) : Bool := decide (1 ≤ k) && decide (k ≤ 6)
def namesN (k : Int) : Bool := decide (k = 3) || decide (k = 5) || decide (k = 6)
def namesT (k : Int) : Bool := decide (k = 4)
def namesF (k : Int) : Bool := namesN k || namesT k

/-- what is wrong with an event by itself, whatever its numbers and its text are -/
def shapeE (e : EventT) : Int :=
  if evKind e.kind = false then 7 else if e.field ≠ 0 ∧ namesF e.kind = false then 1 else if e.n ≠ 0 ∧ namesN e.kind = false then 1 else if e.text ≠ [] ∧ namesT e.kind = false then 1 else 0

def isIx (i : Int) (n : Nat) : Bool := decide (0 ≤ i) && decide (i < n)
def isIdT (id : Int) : Bool := decide (1 ≤ id) && decide (id ≤ 999)

end Go.Proofs.Ytillhpepfpldcaa

/- parts: what an event's kind names; what is wrong with an event's shape. -/
namespace Go.Proofs.Ytillhpepfpldcaa
open Go.RowKit

abbrev evV (e : EventT) : Value := .agg #[.int .i64 e.kind, .int .i64 e.ty, .int .i64 e.id, .int .i64 e.field, .int .i64 e.n, .string ⟨e.text.toArray⟩]

theorem pKind (k : Int) (w : World) :
    Calls Try.prog 72 #[.int .i64 k] w fun e w' => e = .returned (.bool (evKind k)) ∧ w' = w := by
  go_enter Try.func72, Try.ntmps72
  go_wp2
  all_goals go_ret
  all_goals refine ⟨ret_bool ?_, rfl⟩
  all_goals (unfold evKind; rw [Bool.eq_iff_iff]; simp; try omega)

theorem pNamesN (k : Int) (w : World) :
    Calls Try.prog 69 #[.int .i64 k] w fun e w' => e = .returned (.bool (namesN k)) ∧ w' = w := by
  go_enter Try.func69, Try.ntmps69
  go_wp2
  all_goals go_ret
  all_goals refine ⟨ret_bool ?_, rfl⟩
  all_goals (unfold namesN; rw [Bool.eq_iff_iff]; simp_all)

theorem pNamesT (k : Int) (w : World) :
    Calls Try.prog 70 #[.int .i64 k] w fun e w' => e = .returned (.bool (namesT k)) ∧ w' = w := by
  go_enter Try.func70, Try.ntmps70
  go_wp2
  all_goals go_ret
  all_goals refine ⟨ret_bool ?_, rfl⟩
  all_goals (unfold namesT; rw [Bool.eq_iff_iff]; simp_all)

theorem pNamesF (k : Int) (w : World) :
    Calls Try.prog 68 #[.int .i64 k] w fun e w' => e = .returned (.bool (namesF k)) ∧ w' = w := by
  go_enter Try.func68, Try.ntmps68
  go_wp2_with (first
    | (go_at_call 69; refine (pNamesN _ _).mono ?_; rintro e w' ⟨rfl, rfl⟩)
    | (go_at_call 70; refine (pNamesT _ _).mono ?_; rintro e w' ⟨rfl, rfl⟩))
  all_goals go_ret
  all_goals refine ⟨ret_bool ?_, rfl⟩
  all_goals (unfold namesF; simp_all)

theorem empty_bytes (l : List UInt8) : (⟨l.toArray⟩ : ByteArray).toList.isEmpty = decide (l = []) := by
  rw [ByteArray.toList_eq]; cases l <;> simp

set_option maxHeartbeats 1600000 in
theorem pShape (e : EventT) (w : World) :
    Calls Try.prog 60 #[evV e] w fun r w' => r = .returned (.int .i64 (shapeE e)) ∧ Same w w' := by
  obtain ⟨k, ty, i, f, n, t⟩ := e
  have he := empty_bytes t
  go_enter Try.func60, Try.ntmps60
  go_wp2_with (first
    | (go_at_call 72; refine (pKind _ _).mono ?_; rintro e w' ⟨rfl, rfl⟩)
    | (go_at_call 68; refine (pNamesF _ _).mono ?_; rintro e w' ⟨rfl, rfl⟩)
    | (go_at_call 69; refine (pNamesN _ _).mono ?_; rintro e w' ⟨rfl, rfl⟩)
    | (go_at_call 70; refine (pNamesT _ _).mono ?_; rintro e w' ⟨rfl, rfl⟩))
  all_goals go_ret
  all_goals refine ⟨ret_int ?_, (by repeat' (first | assumption | exact Kept.refl _ _ | refine Kept.drewN ?_ _ | refine Kept.drew ?_ | refine Kept.alloc ?_ _ | refine Kept.setB ?_ _ _))⟩
  all_goals (unfold shapeE; simp_all)

end Go.Proofs.Ytillhpepfpldcaa

/- The reference: CheckEvent. -/
namespace Go.Proofs.Ytillhpepfpldcaa
open Go.RowKit

/-- the reference's words on an event's shape -/
def btw (n a b : Int) : Bool := decide (a ≤ n) && decide (n ≤ b)
theorem btw_any (n a b : Int) (w : World) :
    Calls Try.prog 36 #[.int .i64 n, .int .i64 a, .int .i64 b] w fun e w' => e = .returned (.bool (btw n a b)) ∧ w' = w := between_any n a b w

theorem shape_ref (k ty i f n : Int) (t : List UInt8) : shapeE ⟨k, ty, i, f, n, t⟩ = if btw k 1 6 = false then 7 else if k < 3 ∧ (f ≠ 0 ∨ n ≠ 0) ∨ k = 4 ∧ n ≠ 0 ∨ k ≠ 4 ∧ t ≠ [] then 1 else 0 := by
  have hb : evKind k = btw k 1 6 := rfl
  unfold shapeE
  simp only [hb]
  by_cases h : btw k 1 6 = false
  · rw [if_pos h, if_pos h]
  · rw [if_neg h, if_neg h]
    have h1 : 1 ≤ k ∧ k ≤ 6 := by unfold btw at h; simpa using h
    have hF : namesF k = false ↔ k < 3 := by unfold namesF namesN namesT; simp; omega
    have hN : namesN k = false ↔ k < 3 ∨ k = 4 := by unfold namesN; simp; omega
    have hT : namesT k = false ↔ k ≠ 4 := by unfold namesT; simp
    simp only [hF, hN, hT]
    by_cases a1 : f = 0 <;> by_cases a2 : n = 0 <;> by_cases a3 : t = [] <;> by_cases a4 : k < 3 <;> by_cases a5 : k = 4 <;> simp [a1, a2, a3, a4, a5] <;> omega

set_option maxHeartbeats 1600000 in
theorem checkEvent_any (e : EventT) (w : World) :
    Calls Try.prog 37 #[evV e] w fun r w' => r = .returned (.int .i64 (shapeE e)) ∧ Same w w' := by
  obtain ⟨k, ty, i, f, n, t⟩ := e
  have he := empty_bytes t
  go_enter Try.func37, Try.ntmps37
  go_wp2_with ((go_at_call 36; refine (btw_any _ _ _ _).mono ?_; rintro e w' ⟨rfl, rfl⟩))
  all_goals go_ret
  all_goals refine ⟨ret_int ?_, (by repeat' (first | assumption | exact Kept.refl _ _ | refine Kept.drewN ?_ _ | refine Kept.drew ?_ | refine Kept.alloc ?_ _ | refine Kept.setB ?_ _ _))⟩
  all_goals rw [shape_ref]
  all_goals simp_all
  all_goals omega

end Go.Proofs.Ytillhpepfpldcaa

/- Slices of events in memory. -/
namespace Go.Proofs.Ytillhpepfpldcaa
open Go.RowKit

theorem addr_add (b off j : Nat) : ((⟨b, off, none⟩ : Addr).add j) = ⟨b, off + j, none⟩ := by
  unfold Addr.add
  split
  · rename_i h; rw [h]; rfl
  · rfl

/-- a batch as a value: its number, its events -/
abbrev baV (n : Int) (v : Value) : Value := .agg #[.int .i64 n, v]

/-- the six cells of an event at a place -/
def EvAt (w : World) (b o : Nat) (e : EventT) : Prop :=
  w.cell? ⟨b, o, none⟩ = some (.int .i64 e.kind) ∧ w.cell? ⟨b, o + 1, none⟩ = some (.int .i64 e.ty) ∧ w.cell? ⟨b, o + 2, none⟩ = some (.int .i64 e.id) ∧
  w.cell? ⟨b, o + 3, none⟩ = some (.int .i64 e.field) ∧ w.cell? ⟨b, o + 4, none⟩ = some (.int .i64 e.n) ∧ w.cell? ⟨b, o + 5, none⟩ = some (.string ⟨e.text.toArray⟩)

/-- v is a slice of the events l -/
def EvSl (P : Nat → Prop) (w : World) (v : Value) (l : List EventT) : Prop :=
  ∃ ao cap, v = .slice ao l.length cap ∧ (l.length ≤ maxLen ∧ l.length ≤ cap) ∧ ∀ i e, l[i]? = some e → ∃ b off, ao = some ⟨b, off, none⟩ ∧ P b ∧ EvAt w b (off + i * 6) e

theorem EvAt.keep {X : Nat → Prop} {w w' : World} {b o : Nat} {e : EventT} (h : EvAt w b o e) (hk : Kept X w w') (hx : ¬ X b) : EvAt w' b o e :=
  ⟨hk.cell h.1 hx, hk.cell h.2.1 hx, hk.cell h.2.2.1 hx, hk.cell h.2.2.2.1 hx, hk.cell h.2.2.2.2.1 hx, hk.cell h.2.2.2.2.2 hx⟩

theorem EvSl.keep {P X : Nat → Prop} {w w' : World} {v : Value} {l : List EventT} (h : EvSl P w v l) (hk : Kept X w w') (hx : ∀ b, P b → ¬ X b) : EvSl P w' v l := by
  obtain ⟨ao, cap, hv, hl, hc⟩ := h
  refine ⟨ao, cap, hv, hl, fun i t ht => ?_⟩
  obtain ⟨b, off, ha, hp, h0⟩ := hc i t ht
  exact ⟨b, off, ha, hp, h0.keep hk (hx b hp)⟩
theorem EvSl.same {P : Nat → Prop} {w w' : World} {v : Value} {l : List EventT} (h : EvSl P w v l) (hk : Same w w') : EvSl P w' v l := h.keep hk (fun _ _ f => f)
theorem EvSl.mono {P Q : Nat → Prop} {w : World} {v : Value} {l : List EventT} (h : EvSl P w v l) (hq : ∀ b, b < w.heap.size → P b → Q b) : EvSl Q w v l := by
  obtain ⟨ao, cap, hv, hl, hc⟩ := h
  refine ⟨ao, cap, hv, hl, fun i t ht => ?_⟩
  obtain ⟨b, off, ha, hp, h0⟩ := hc i t ht
  exact ⟨b, off, ha, hq b (World.block_lt_of_cell? w _ h0.1) hp, h0⟩
theorem EvSl.nil (P : Nat → Prop) (w : World) : EvSl P w (.slice none 0 0) [] := ⟨none, 0, rfl, ⟨Nat.zero_le _, Nat.le_refl _⟩, fun i t h => by simp at h⟩
theorem EvSl.at {P : Nat → Prop} {w : World} {ao : Option Addr} {n cap : Nat} {l : List EventT} (h : EvSl P w (.slice ao n cap) l) (i : Nat) (hi : i < l.length) : ∃ b off, ao = some ⟨b, off, none⟩ ∧ P b ∧ EvAt w b (off + i * 6) l[i] := by
  obtain ⟨ao', cap', hv, _, h3⟩ := h
  cases hv
  exact h3 i l[i] (List.getElem?_eq_getElem hi)
theorem EvSl.len {P : Nat → Prop} {w : World} {ao : Option Addr} {n cap : Nat} {l : List EventT} (h : EvSl P w (.slice ao n cap) l) : n = l.length ∧ l.length ≤ 9223372036854775807 ∧ l.length ≤ cap := by
  obtain ⟨_, _, hv, hl, _⟩ := h; cases hv; exact ⟨rfl, hl.1, hl.2⟩
theorem EvSl.form {P : Nat → Prop} {w : World} {v : Value} {l : List EventT} (h : EvSl P w v l) : ∃ ao cap, v = .slice ao l.length cap := by
  obtain ⟨ao, cap, hv, _⟩ := h; exact ⟨ao, cap, hv⟩

/-- the cells of events, one behind the other -/
def evC (e : EventT) : List Value := [.int .i64 e.kind, .int .i64 e.ty, .int .i64 e.id, .int .i64 e.field, .int .i64 e.n, .string ⟨e.text.toArray⟩]
def evCells (l : List EventT) : List Value := l.flatMap evC
theorem evCells_snoc (l : List EventT) (e : EventT) : evCells (l ++ [e]) = evCells l ++ evC e := by simp [evCells]
theorem evCells_len (l : List EventT) : (evCells l).length = l.length * 6 := by
  induction l with
  | nil => rfl
  | cons e r ih => simp only [evCells, List.flatMap_cons, List.length_append, List.length_cons] at ih ⊢; rw [ih]; simp [evC]; omega
theorem evC_one (e : EventT) : ∀ u ∈ evC e, u.oneCell' = true := by
  intro u hu
  simp [evC] at hu
  rcases hu with rfl | rfl | rfl | rfl | rfl | rfl <;> rfl
theorem evCells_get (l : List EventT) : ∀ (i : Nat) (e : EventT), l[i]? = some e → ∀ j, j < 6 → (evCells l)[i * 6 + j]? = (evC e)[j]? := by
  induction l with
  | nil => intro i e h; simp at h
  | cons x r ih =>
    intro i e h j hj
    have hx : (evC x).length = 6 := rfl
    simp only [evCells, List.flatMap_cons]
    cases i with
    | zero =>
      simp at h; subst h
      rw [List.getElem?_append_left (by rw [hx]; omega)]; simp
    | succ i =>
      rw [List.getElem?_append_right (by rw [hx]; omega), hx, show (i + 1) * 6 + j - 6 = i * 6 + j by omega]
      exact ih i e (by simpa using h) j hj

/-- events that stand in a row, cell by cell -/
theorem ev_row {w : World} {b off : Nat} {l : List EventT} (h : ∀ j u, (evCells l)[j]? = some u → w.cell? ⟨b, off + j, none⟩ = some u) (i : Nat) (e : EventT) (he : l[i]? = some e) : EvAt w b (off + i * 6) e := by
  have g := evCells_get l i e he
  refine ⟨?_, ?_, ?_, ?_, ?_, ?_⟩
  · have := h (i * 6 + 0) _ ((g 0 (by omega)).trans rfl); simpa using this
  · have := h (i * 6 + 1) _ ((g 1 (by omega)).trans rfl); simpa [Nat.add_assoc] using this
  · have := h (i * 6 + 2) _ ((g 2 (by omega)).trans rfl); simpa [Nat.add_assoc] using this
  · have := h (i * 6 + 3) _ ((g 3 (by omega)).trans rfl); simpa [Nat.add_assoc] using this
  · have := h (i * 6 + 4) _ ((g 4 (by omega)).trans rfl); simpa [Nat.add_assoc] using this
  · have := h (i * 6 + 5) _ ((g 5 (by omega)).trans rfl); simpa [Nat.add_assoc] using this

theorem own_evs {w : World} {base : Nat} {v : Value} {l : List EventT} {t : TypeId} (h : w.ownsRow base t 6 v l.length (evCells l)) (hl : l.length ≤ maxLen) : EvSl (base ≤ ·) w v l := by
  rcases h.2 with ⟨rfl, h0⟩ | ⟨g, cap, cur, rfl, hg, hb, hc1, hc2, hc3, htk⟩
  · obtain rfl : l = [] := List.length_eq_zero_iff.1 h0
    exact EvSl.nil _ _
  · have hcells := World.ownsRow.cells (v := .slice (some ⟨g, 0, none⟩) l.length cap) h (g := g) rfl
    refine ⟨some ⟨g, 0, none⟩, cap, rfl, ⟨hl, by omega⟩, fun i e he => ⟨g, 0, rfl, hg, ev_row (fun j u hj => ?_) i e he⟩⟩
    have := hcells j u hj
    rw [addr_add] at this
    exact this

end Go.Proofs.Ytillhpepfpldcaa
