import Derived.Test.YtidodjbmlbjchaaStateapart06
import Derived.WalkKit
import Derived.WalkSpells
import Derived.WalkLawsBesides
import Derived.Deep.QuietTactic
import Derived.BigQuiet
import Derived.Deep.LoopGhost
import Derived.Deep.RegionLaw
import Derived.Laws.OwnMore
import Derived.Test.YtidodjbmlbjchaaChecked
import Derived.Test.YtidodjbmlbjchaaStateapart01
import Derived.Laws.StructEq
/- Events by themselves, in plain Lean. No program is named here. -/
namespace Go.Proofs.Ytidodjbmlbjchaa

structure EventT where
  kind : Int
  ty : Int
  id : Int
  field : Int
  n : Int
  text : List UInt8
deriving DecidableEq

def event0 : EventT := ⟨0, 0, 0, 0, 0, []⟩

def evKind (k : Int) : Bool := decide (1 ≤ k) && decide (k ≤ 6)
def namesN (k : Int) : Bool := decide (k = 3) || decide (k = 5) || decide (k = 6)
def namesT (k : Int) : Bool := decide (k = 4)
def namesF (k : Int) : Bool := namesN k || namesT k

/-- what is wrong with an event by itself, whatever its numbers and its text are -/
def shapeE (e : EventT) : Int :=
  if evKind e.kind = false then 7 else if e.field ≠ 0 ∧ namesF e.kind = false then 1 else if e.n ≠ 0 ∧ namesN e.kind = false then 1 else if e.text ≠ [] ∧ namesT e.kind = false then 1 else 0

def isIx (i : Int) (n : Nat) : Bool := decide (0 ≤ i) && decide (i < n)
def isIdT (id : Int) : Bool := decide (1 ≤ id) && decide (id ≤ 999)

end Go.Proofs.Ytidodjbmlbjchaa

/- States and events, in plain Lean: what Check, Do and Undo of chapter 4 answer. No program is named here. -/
namespace Go.Proofs.Ytidodjbmlbjchaa

structure CellT where
  n : Int
  text : List UInt8
  ids : List Int

structure ThingT where
  ty : Int
  id : Int
  cells : List CellT

structure StateT where
  types : List TypeT
  things : List ThingT

def cell0 : CellT := ⟨0, [], []⟩
def state0 : StateT := ⟨[], []⟩

/-- the fields of a type, by its number -/
def fieldsOf (types : List TypeT) (ty : Int) : List FieldT := match types[ty.toNat]? with | some t => t.fields | none => []
def nameOf (types : List TypeT) (ty : Int) : List UInt8 := match types[ty.toNat]? with | some t => t.name | none => []
/-- the number of the type of a name, or -1 -/
def typeNo (types : List TypeT) (nm : List UInt8) : Int := if hasT types nm then (typeIx types nm : Nat) else -1

/-- does a thing stand ahead of a place? -/
def aheadK (t : ThingT) (ty id : Int) : Bool := decide (t.ty < ty) || (decide (t.ty = ty) && decide (t.id < id))
def aheadT (a b : ThingT) : Bool := aheadK a b.ty b.id
def isTh (ty id : Int) (t : ThingT) : Bool := decide (t.ty = ty) && decide (t.id = id)
def hasTh (l : List ThingT) (ty id : Int) : Bool := l.any (isTh ty id)
/-- where a thing is, or would be -/
def placeT (l : List ThingT) (ty id : Int) : Nat := l.findIdx (fun t => !aheadK t ty id)

def onlyN (k : Int) (c : CellT) : Bool :=
  if k = 1 then decide (c.text = []) && decide (c.ids.length = 0) else if k = 2 then decide (c.n = 0) && decide (c.ids.length = 0) else decide (c.n = 0) && decide (c.text = [])
def mostI (k : Int) : Nat := if k = 3 then 1 else 6
def riseI : List Int → Bool
  | [] => true
  | [_] => true
  | a :: b :: r => decide (a < b) && riseI (b :: r)
def wrongC (f : FieldT) (c : CellT) : Int :=
  if onlyN f.kind c = false then 1 else if c.n < -999999999 ∨ 999999999 < c.n then 3 else if 40 < c.text.length ∨ mostI f.kind < c.ids.length then 2 else if riseI c.ids = false then 4 else 0

/-- what is asked of the cells, one by one, by their fields -/
def eachC (ask : FieldT → CellT → Int) : List FieldT → List CellT → Int
  | f :: fs, c :: cs => if ask f c ≠ 0 then ask f c else eachC ask fs cs
  | _, _ => 0
/-- .. of all things -/
def eachT (types : List TypeT) (ask : FieldT → CellT → Int) : List ThingT → Int
  | [] => 0
  | t :: r => if eachC ask (fieldsOf types t.ty) t.cells ≠ 0 then eachC ask (fieldsOf types t.ty) t.cells else eachT types ask r


/-- what is wrong with a thing, the one ahead given -/
def wrongTh (types : List TypeT) (p : Option ThingT) (t : ThingT) : Int :=
  if isIx t.ty types.length = false then 5 else if isIdT t.id = false then 3 else if t.cells.length ≠ (fieldsOf types t.ty).length then 1
  else if eachC wrongC (fieldsOf types t.ty) t.cells ≠ 0 then eachC wrongC (fieldsOf types t.ty) t.cells
  else match p with | none => 0 | some q => if aheadT q t then 0 else 4
def wrongThs (types : List TypeT) : Option ThingT → List ThingT → Int
  | _, [] => 0
  | p, t :: r => if wrongTh types p t ≠ 0 then wrongTh types p t else wrongThs types (some t) r

/-- does each id of a cell mean something? -/
def idsC (types : List TypeT) (things : List ThingT) (f : FieldT) (c : CellT) : Int := if c.ids.all (fun i => hasTh things (typeNo types f.of) i) then 0 else 5

def checkSt (s : StateT) : Int :=
  if checkSc s.types ≠ 0 then checkSc s.types else if 12 < s.things.length then 2 else if wrongThs s.types none s.things ≠ 0 then wrongThs s.types none s.things else eachT s.types (idsC s.types s.things) s.things

def namedE (e : EventT) : EventT :=
  if e.kind = 3 ∨ e.kind = 5 ∨ e.kind = 6 then { e with text := [] } else if e.kind = 4 then { e with n := 0 } else { e with field := 0, n := 0, text := [] }
def wrongEv (types : List TypeT) (e : EventT) : Int :=
  if e.kind < 1 ∨ 6 < e.kind then 7 else if e ≠ namedE e then 1 else if isIx e.ty types.length = false then 5 else if isIdT e.id = false then 3 else 0

/-- does an id mean the thing? -/
def meansC (nm : List UInt8) (id : Int) (f : FieldT) (c : CellT) : Int := if f.of = nm ∧ id ∈ c.ids then 4 else 0
def suitsE (k fk : Int) : Bool := if k = 3 then decide (fk = 1) else if k = 4 then decide (fk = 2) else decide (fk = 3) || decide (fk = 4)

def placeI (l : List Int) (n : Int) : Nat := l.findIdx (fun x => !decide (x < n))
/-- what an event makes of a cell -/
def setC (types : List TypeT) (things : List ThingT) (f : FieldT) (e : EventT) (c : CellT) : Except Int CellT :=
  if e.kind = 3 then .ok { c with n := e.n } else if e.kind = 4 then .ok { c with text := e.text }
  else if e.kind = 5 then (if hasTh things (typeNo types f.of) e.n = false then .error 5 else if e.n ∈ c.ids then .error 6
    else if f.kind = 3 then .ok { c with ids := [e.n] } else .ok { c with ids := c.ids.insertIdx (placeI c.ids e.n) e.n })
  else if e.n ∈ c.ids then .ok { c with ids := c.ids.eraseIdx (placeI c.ids e.n) } else .error 5

def field0 : FieldT := ⟨[], 0, []⟩
def thing0 : ThingT := ⟨0, 0, []⟩
def getF (l : List FieldT) (i : Int) : FieldT := (l[i.toNat]?).getD field0
def getC (l : List CellT) (i : Int) : CellT := (l[i.toNat]?).getD cell0
def getT (l : List ThingT) (i : Nat) : ThingT := (l[i]?).getD thing0

def withC (t : ThingT) (i : Int) (c : CellT) : ThingT := { t with cells := t.cells.set i.toNat c }

/-- an event that changes a cell -/
def changeSt (s : StateT) (e : EventT) : Except Int StateT :=
  if isIx e.field (fieldsOf s.types e.ty).length = false then .error 5
  else if suitsE e.kind (getF (fieldsOf s.types e.ty) e.field).kind = false then .error 7
  else match setC s.types s.things (getF (fieldsOf s.types e.ty) e.field) e (getC (getT s.things (placeT s.things e.ty e.id)).cells e.field) with
    | .error m => .error m
    | .ok c => if wrongC (getF (fieldsOf s.types e.ty) e.field) c ≠ 0 then .error (wrongC (getF (fieldsOf s.types e.ty) e.field) c)
      else .ok { s with things := s.things.set (placeT s.things e.ty e.id) (withC (getT s.things (placeT s.things e.ty e.id)) e.field c) }

def newTh (types : List TypeT) (e : EventT) : ThingT := ⟨e.ty, e.id, List.replicate (fieldsOf types e.ty).length cell0⟩

/-- an event, of a state that is right, itself being right -/
def doIt (s : StateT) (e : EventT) : Except Int StateT :=
  if e.kind = 1 then (if hasTh s.things e.ty e.id then .error 6 else if 12 ≤ s.things.length then .error 2 else .ok { s with things := s.things.insertIdx (placeT s.things e.ty e.id) (newTh s.types e) })
  else if hasTh s.things e.ty e.id = false then .error 5
  else if e.kind = 2 then (if eachT s.types (meansC (nameOf s.types e.ty) e.id) s.things ≠ 0 then .error 4 else .ok { s with things := s.things.eraseIdx (placeT s.things e.ty e.id) })
  else changeSt s e

def doSt (s : StateT) (e : EventT) : Except Int StateT :=
  if checkSt s ≠ 0 then .error (checkSt s) else if wrongEv s.types e ≠ 0 then .error (wrongEv s.types e) else doIt s e

/-- is a cell as at first? -/
def firstC (_ : FieldT) (c : CellT) : Int := if c.n ≠ 0 ∨ c.text ≠ [] ∨ c.ids ≠ [] then 4 else 0
def unchangeE (f : FieldT) (c : CellT) (e : EventT) : EventT :=
  if e.kind = 3 then { e with n := c.n } else if e.kind = 4 then { e with text := c.text } else if e.kind = 6 then { e with kind := 5 }
  else if f.kind = 3 then (match c.ids with | [] => { e with kind := 6 } | i :: _ => { e with n := i }) else { e with kind := 6 }
def undoSt (s : StateT) (e : EventT) : Except Int EventT :=
  match doSt s e with
  | .error m => .error m
  | .ok _ =>
    if e.kind = 1 then .ok ⟨2, e.ty, e.id, 0, 0, []⟩
    else if e.kind = 2 then (if eachC firstC (fieldsOf s.types (getT s.things (placeT s.things e.ty e.id)).ty) (getT s.things (placeT s.things e.ty e.id)).cells ≠ 0 then .error 4
      else .ok ⟨1, (getT s.things (placeT s.things e.ty e.id)).ty, (getT s.things (placeT s.things e.ty e.id)).id, 0, 0, []⟩)
    else .ok (unchangeE (getF (fieldsOf s.types e.ty) e.field) (getC (getT s.things (placeT s.things e.ty e.id)).cells e.field) e)

end Go.Proofs.Ytidodjbmlbjchaa

/- World relations and small closers, over any program. -/
namespace Go.Proofs.Ytidodjbmlbjchaa
open Go.RowKit

theorem hide {p : Prop} (h : p) : Hid p := h

theorem ret_bool {a b : Bool} (h : a = b) : Ending.returned (.bool a) = .returned (.bool b) := by rw [h]
theorem ret_int {k : IntKind} {a b : Int} (h : a = b) : Ending.returned (.int k a) = .returned (.int k b) := by rw [h]
theorem ret_str {a b : ByteArray} (h : a = b) : Ending.returned (.string a) = .returned (.string b) := by rw [h]

/-- All blocks of w but those of X stand in w' as they stood. -/
structure Kept (X : Nat → Prop) (w w' : World) : Prop where
  os : w'.os = w.os
  tape : w'.tape = w.tape
  output : w'.output = w.output
  size : w.heap.size ≤ w'.heap.size
  block : ∀ k, k < w.heap.size → ¬ X k → w'.heap[k]? = w.heap[k]?

abbrev Same (w w' : World) : Prop := Kept (fun _ => False) w w'

theorem Kept.refl (X : Nat → Prop) (w : World) : Kept X w w := ⟨rfl, rfl, rfl, Nat.le_refl _, fun _ _ _ => rfl⟩

theorem Kept.trans {X Y : Nat → Prop} {a b c : World} (h : Kept X a b) (k : Kept Y b c) (hY : ∀ i, i < a.heap.size → Y i → X i) : Kept X a c :=
  ⟨k.os.trans h.os, k.tape.trans h.tape, k.output.trans h.output, Nat.le_trans h.size k.size,
    fun i hi hx => (k.block i (Nat.lt_of_lt_of_le hi h.size) (fun y => hx (hY i hi y))).trans (h.block i hi hx)⟩

theorem Kept.mono {X Y : Nat → Prop} {w w' : World} (h : Kept X w w') (hY : ∀ i, i < w.heap.size → X i → Y i) : Kept Y w w' :=
  ⟨h.os, h.tape, h.output, h.size, fun k hk hx => h.block k hk (fun x => hx (hY k hk x))⟩

theorem Same.to {X : Nat → Prop} {w w' : World} (h : Same w w') : Kept X w w' := h.mono (fun _ _ f => f.elim)

theorem Kept.drew {X : Nat → Prop} {a w : World} (h : Kept X a w) : Kept X a w.drew := ⟨h.os, h.tape, h.output, h.size, h.block⟩
theorem Kept.drewN {X : Nat → Prop} {a w : World} (h : Kept X a w) (n : Nat) : Kept X a (w.drewN n) := ⟨h.os, h.tape, h.output, h.size, h.block⟩

theorem Kept.unN {X : Nat → Prop} {w w' : World} {n : Nat} (h : Kept X (w.drewN n) w') : Kept X w w' := ⟨h.os, h.tape, h.output, h.size, h.block⟩
theorem Kept.unD {X : Nat → Prop} {w w' : World} (h : Kept X w.drew w') : Kept X w w' := ⟨h.os, h.tape, h.output, h.size, h.block⟩

theorem Kept.alloc {X : Nat → Prop} {a w : World} (h : Kept X a w) (o : Obj) : Kept X a (w.alloc o) :=
  ⟨h.os, h.tape, h.output, by have := h.size; simp; omega, fun k hk hx => (Below.heap_alloc _ _ _ (Nat.lt_of_lt_of_le hk h.size)).trans (h.block k hk hx)⟩

theorem Kept.unA {X : Nat → Prop} {w w' : World} {o : Obj} (h : Kept X (w.alloc o) w') : Kept X w w' := ((Kept.refl X w).alloc o).trans h (fun _ _ x => x)

theorem Kept.setCell {X : Nat → Prop} {a w : World} (h : Kept X a w) {p : Addr} (hp : p.block < a.heap.size → X p.block) (u : Value) : Kept X a (w.setCell p u) :=
  ⟨h.os, h.tape, h.output, by have := h.size; simpa [World.setCell] using this, fun k hk hx => (Below.heap_setCell _ _ _ _ (fun e => hx (by subst e; exact hp hk))).trans (h.block k hk hx)⟩

theorem Kept.setB {b : Nat} {a w : World} (h : Kept (· = b) a w) (o : Nat) (u : Value) : Kept (· = b) a (w.setCell ⟨b, o, none⟩ u) := h.setCell (fun _ => rfl) u

theorem Kept.grown {X : Nat → Prop} {a w w' : World} {row : Option Nat} (h : Kept X a w) (hg : w.grownBy w' row) (hr : ∀ k, row = some k → k < a.heap.size → X k) : Kept X a w' :=
  ⟨hg.os.trans h.os, hg.tape.trans h.tape, hg.output.trans h.output, Nat.le_trans h.size hg.size,
    fun k hk hx => (hg.block k (Nat.lt_of_lt_of_le hk h.size) (fun e => hx (hr k e.symm hk))).trans (h.block k hk hx)⟩

theorem Kept.cell {X : Nat → Prop} {w w' : World} (h : Kept X w w') {p : Addr} {v : Value} (hv : w.cell? p = some v) (hp : ¬ X p.block) : w'.cell? p = some v :=
  (World.cell?_of_block (w := w) (h.block p.block (World.block_lt_of_cell? w p hv) hp)).trans hv

theorem Kept.below {w w' : World} (h : Same w w') : Below w.heap.size w w' := ⟨h.os, h.tape, h.output, h.size, fun k hk => h.block k hk (fun f => f)⟩
theorem Kept.of_below {w w' : World} (h : Below w.heap.size w w') : Same w w' := ⟨h.os, h.tape, h.output, h.size, fun k hk _ => h.block k hk⟩


theorem own_kept {w w' : World} {base : Nat} {e : TypeId} {size : Nat} {v : Value} {n : Nat} {xs : List Value} (h : w.ownsRow base e size v n xs) {X : Nat → Prop} (hk : Kept X w w') (hX : ∀ g, base ≤ g → ¬ X g) : w'.ownsRow base e size v n xs := by
  obtain ⟨h1, h2⟩ := h
  refine ⟨h1, ?_⟩
  rcases h2 with h2 | ⟨g, cap, cur, hv, hg, hh, r⟩
  · exact Or.inl h2
  · have hlt : g < w.heap.size := (Array.getElem?_eq_some_iff.1 hh).1
    exact Or.inr ⟨g, cap, cur, hv, hg, by rw [hk.block g hlt (hX g hg)]; exact hh, r⟩

theorem own_row {w : World} {base : Nat} {e : TypeId} {size : Nat} {v : Value} {n : Nat} {xs : List Value} (h : w.ownsRow base e size v n xs) : ∀ k, v.ownBlock = some k → base ≤ k := fun k hk => (h.lt k hk).1


/-- append onto a row that the call owns, as one step of a region that draws. -/
theorem step_append_own {P : Program} {ops : Array Oper} {o : Oper} {a : Act} {w : World} {K : Act → World → Prop} {Q : Exit → Act → World → Prop} {E : Prop}
    (hg : o.guard = none) (s x : Operand) (t : TypeId) (hop : o.op = Op.call { callee := Callee.builtin Builtin.append, args := #[s, x], argTypes := #[t, t] })
    (base : Nat) (e : TypeId) (i : TypeInfo) (z : Value) (size bytes : Nat) (h1 : P.underlying t = some (.slice e)) (h2 : P.info? e = some i) (h3 : i.zero = some z) (h4 : i.size = size) (h5 : i.bytes = bytes) (h6 : z.cells.size = size) (h7 : 0 < size)
    (v : Value) (n : Nat) (xs : List Value) (hs : a.eval s = v) (hown : w.ownsRow base e size v n xs)
    (ad : Addr) (m c : Nat) (news : List Value) (hx : a.eval x = .slice (some ad) m c) (hn : news.length = m * size) (hc : ∀ j u, news[j]? = some u → w.cell? (ad.add j) = some u) (h1c : ∀ u ∈ news, u.oneCell' = true)
    (b1 : n + m ≤ maxLen) (b2 : (n + m) * bytes ≤ 140737488355328) (hb : base ≤ w.heap.size)
    (hK : ∀ v' w', w'.ownsRow base e size v' (n + m) (xs ++ news) → w.grownBy w' v.ownBlock → (v' = .slice none 0 0 ↔ v = .slice none 0 0 ∧ m = 0) → K (a.put o.dst v') w') :
    if Region.wanted o (yielded ops a.tmps) = true then Oper.wp P o a w K Q else E := by
  have hw : Region.wanted o (yielded ops a.tmps) = true := by simp [Region.wanted, hg]
  rw [if_pos hw]
  obtain ⟨v', w', hrun, r1, r2, r3⟩ := run_append_own (P := P) w base t o.type e i z size bytes h1 h2 h3 h4 h5 h6 h7 v n xs hown ad m c news hn hc h1c b1 b2 hb
  unfold Oper.wp
  simp [execOp, hop, resolve, invoke, builtin, hs, hx, hrun, Result.andThen]
  exact hK v' w' r1 r2 r3

/-- A row that holds something has its address. -/
theorem own_form {w : World} {base : Nat} {e : TypeId} {size : Nat} {v : Value} {n : Nat} {xs : List Value} (h : w.ownsRow base e size v n xs) (hn : 0 < n) : ∃ g cap, v = .slice (some ⟨g, 0, none⟩) n cap := by
  rcases h.2 with ⟨_, h0⟩ | ⟨g, cap, cur, hv, _⟩
  · omega
  · exact ⟨g, cap, hv⟩

/-- A new block stands behind whatever keeps it. -/
theorem new_kept {w w1 : World} {o : Obj} {X : Nat → Prop} (h : Kept X (w.alloc o) w1) (hX : ¬ X w.heap.size) : w1.heap[w.heap.size]? = some o := by
  rw [h.block w.heap.size (by simp) hX]
  exact heap_alloc_new w o


/-- append from a slice, nil or not, onto a row that the call owns; the operation guarded or not. -/
theorem wpList_append_all {P : Program} {w : World} {ops : Array Oper} {rest : List Oper} {o : Oper} {a : Act} {Q : Exit → Act → World → Prop} (hw : Region.wanted o (yielded ops a.tmps) = true) (s x : Operand) (t : TypeId)
    (ho : o.op = .call { callee := .builtin .append, args := #[s, x], argTypes := #[t, t] })
    (base : Nat) (e : TypeId) (i : TypeInfo) (z : Value) (size bytes : Nat) (ht : P.underlying t = some (.slice e)) (hi : P.info? e = some i) (hz : i.zero = some z)
    (hsize : i.size = size) (hby : i.bytes = bytes) (hzs : z.cells.size = size) (hsz : 0 < size)
    (v : Value) (n : Nat) (xs : List Value) (hs : a.eval s = v) (hown : w.ownsRow base e size v n xs)
    (ao : Option Addr) (m c : Nat) (news : List Value) (hx : a.eval x = .slice ao m c) (hnone : ao = none → m = 0 ∧ c = 0) (hl : news.length = m * size) (hnews : ∀ ad, ao = some ad → ∀ j u, news[j]? = some u → w.cell? (ad.add j) = some u) (h1 : ∀ u ∈ news, u.oneCell' = true)
    (h63 : n + m ≤ maxLen) (hbytes : (n + m) * bytes ≤ 140737488355328) (hbase : base ≤ w.heap.size)
    (h : ∀ v' w', w'.ownsRow base e size v' (n + m) (xs ++ news) → w.grownBy w' v.ownBlock → wpList P ops Q rest (a.put o.dst v') w') : wpList P ops Q (o :: rest) a w := by
  refine BigFrame.wpList_want hw fun K hK => ?_
  cases ao with
  | some ad => exact wp_append_own w s x t ho base e i z size bytes ht hi hz hsize hby hzs hsz v n xs hs hown ad m c news hx hl (hnews ad rfl) h1 h63 hbytes hbase fun v' w' h2 h3 _ => hK _ _ (h v' w' h2 h3)
  | none =>
    obtain ⟨rfl, rfl⟩ := hnone rfl
    obtain rfl : news = [] := List.length_eq_zero_iff.1 (by simpa using hl)
    have hrun := run_append_owned_none (P := P) (w := w) base t o.type e i size ht hi v n xs hown
    unfold Oper.wp
    simp only [execOp, ho, resolve, invoke, builtin, Sem.run_bind, Sem.run_pure, Result.andThen_ok, List.map_toArray, List.map_cons, List.map_nil, hs, hx, hrun]
    exact hK _ _ (h v w (by simpa using hown) ⟨rfl, rfl, rfl, Nat.le_refl _, fun _ _ _ => rfl⟩)

end Go.Proofs.Ytidodjbmlbjchaa

/- Slices of tokens in memory; halyardref.SameTokens. -/
namespace Go.Proofs.Ytidodjbmlbjchaa
open Go.RowKit

/-- v is a slice of the tokens l, in w -/
def TokSl (w : World) (v : Value) (l : List Tok) : Prop :=
  ∃ ao cap, v = .slice ao l.length cap ∧ l.length ≤ 9000000000000 ∧ ∀ i t, l[i]? = some t → ∃ b off, ao = some ⟨b, off, none⟩ ∧
    w.cell? ⟨b, off + i * 3, none⟩ = some (.int .i64 t.k) ∧ w.cell? ⟨b, off + i * 3 + 1, none⟩ = some (.string ⟨t.s.toArray⟩) ∧ w.cell? ⟨b, off + i * 3 + 2, none⟩ = some (.int .i64 t.n)

def tokEq (a b : Tok) : Bool := decide (a.k = b.k) && decide (a.s = b.s) && decide (a.n = b.n)

theorem neq_tok (x y : Tok) (w : World) :
    (binOp .neq 105 (.agg #[.int .i64 x.k, .string ⟨x.s.toArray⟩, .int .i64 x.n]) (.agg #[.int .i64 y.k, .string ⟨y.s.toArray⟩, .int .i64 y.n])).run Try.prog w = .ok (.bool (!tokEq x y)) w := by
  rw [run_neq_struct, run_equalIn_agg _ _ _ _ _ (by kernel_rfl) (by kernel_rfl)]
  rw [show (Try.prog.fieldsOf 105).toList = [{ name := "Kind", type := 3, offset := 0, embedded := false, tag := "", pkgPath := "", byteOffset := 0 }, { name := "Text", type := 9, offset := 1, embedded := false, tag := "", pkgPath := "", byteOffset := 8 }, { name := "N", type := 3, offset := 2, embedded := false, tag := "", pkgPath := "", byteOffset := 24 }] from by kernel_rfl]
  simp [Op.eqFields, go_sem]
  unfold tokEq
  by_cases h1 : x.k = y.k <;> by_cases h2 : x.s = y.s <;> by_cases h3 : x.n = y.n <;> simp [h1, h2, h3]


theorem tokEq_iff (a b : Tok) : tokEq a b = true ↔ a = b := by
  unfold tokEq
  cases a; cases b
  simp [and_assoc]

def sameT : List Tok → List Tok → Bool
  | [], [] => true
  | x :: r, y :: r' => tokEq x y && sameT r r'
  | _, _ => false
theorem sameT_iff (a : List Tok) : ∀ b, sameT a b = true ↔ a = b := by
  induction a with
  | nil => intro b; cases b <;> simp [sameT]
  | cons x r ih => intro b; cases b with
    | nil => simp [sameT]
    | cons y r' => simp [sameT, ih, tokEq_iff]
theorem sameT_false {a b : List Tok} (h : a ≠ b) : sameT a b = false := by
  cases hx : sameT a b with
  | false => rfl
  | true => exact absurd ((sameT_iff a b).1 hx) h

theorem TokSl.at {w : World} {ao : Option Addr} {n cap : Nat} {l : List Tok} (h : TokSl w (.slice ao n cap) l) (i : Nat) (hi : i < l.length) : ∃ b off, ao = some ⟨b, off, none⟩ ∧
    w.cell? ⟨b, off + i * 3, none⟩ = some (.int .i64 l[i].k) ∧ w.cell? ⟨b, off + i * 3 + 1, none⟩ = some (.string ⟨l[i].s.toArray⟩) ∧ w.cell? ⟨b, off + i * 3 + 2, none⟩ = some (.int .i64 l[i].n) := by
  obtain ⟨ao', cap', hv, _, h3⟩ := h
  cases hv
  exact h3 i l[i] (List.getElem?_eq_getElem hi)

theorem TokSl.keep {w w' : World} {v : Value} {l : List Tok} (h : TokSl w v l) {X : Nat → Prop} (hk : Kept X w w') (hX : ∀ k, X k → w.heap.size ≤ k) : TokSl w' v l := by
  obtain ⟨ao, cap, hv, hl, hc⟩ := h
  refine ⟨ao, cap, hv, hl, fun i t ht => ?_⟩
  obtain ⟨b, off, ha, h0, h1, h2⟩ := hc i t ht
  have hb : b < w.heap.size := World.block_lt_of_cell? w _ h0
  have hx : ¬ X b := fun x => by have := hX b x; omega
  exact ⟨b, off, ha, hk.cell h0 hx, hk.cell h1 hx, hk.cell h2 hx⟩

theorem TokSl.same {w w' : World} {v : Value} {l : List Tok} (h : TokSl w v l) (hk : Same w w') : TokSl w' v l := h.keep hk (fun _ f => f.elim)

theorem TokSl.nil (w : World) : TokSl w (.slice none 0 0) [] := ⟨none, 0, rfl, by simp, fun i t h => by simp at h⟩

end Go.Proofs.Ytidodjbmlbjchaa
