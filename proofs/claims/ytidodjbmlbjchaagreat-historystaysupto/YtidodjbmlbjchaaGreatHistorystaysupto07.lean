import Derived.Test.YtidodjbmlbjchaaGreatHistorystaysupto06
/- Events by themselves, in plain Lean. No program is named here. -/
namespace Go.Proofs.YtidodjbmlbjchaaGreat

structure EventT where
  kind : Int
  ty : Int
  id : Int
  field : Int
  n : Int
  text : List UInt8
deriving DecidableEq

def event0 : EventT := ⟨0, 0, 0, 0, 0, []⟩

def evKind (k : Int) : Bool := decide (1 ≤ k) && decide (k ≤ 6)
def namesN (k : Int) : Bool := decide (k = 3) || decide (k = 5) || decide (k = 6)
def namesT (k : Int) : Bool := decide (k = 4)
def namesF (k : Int) : Bool := namesN k || namesT k

/-- what is wrong with an event by itself, whatever its numbers and its text are -/
def shapeE (e : EventT) : Int :=
  if evKind e.kind = false then 7 else if e.field ≠ 0 ∧ namesF e.kind = false then 1 else if e.n ≠ 0 ∧ namesN e.kind = false then 1 else if e.text ≠ [] ∧ namesT e.kind = false then 1 else 0

def isIx (i : Int) (n : Nat) : Bool := decide (0 ≤ i) && decide (i < n)
def isIdT (id : Int) : Bool := decide (1 ≤ id) && decide (id ≤ 999)

end Go.Proofs.YtidodjbmlbjchaaGreat

/- States and events, in plain Lean: what Check, Do and Undo of chapter 4 answer. No program is named here. -/
namespace Go.Proofs.YtidodjbmlbjchaaGreat

structure CellT where
  n : Int
  text : List UInt8
  ids : List Int

structure ThingT where
  ty : Int
  id : Int
  cells : List CellT

structure StateT where
  types : List TypeT
  things : List ThingT

def cell0 : CellT := ⟨0, [], []⟩
def state0 : StateT := ⟨[], []⟩

/-- the fields of a type, by its number -/
def fieldsOf (types : List TypeT) (ty : Int) : List FieldT := match types[ty.toNat]? with | some t => t.fields | none => []
def nameOf (types : List TypeT) (ty : Int) : List UInt8 := match types[ty.toNat]? with | some t => t.name | none => []
/-- the number of the type of a name, or -1 -/
def typeNo (types : List TypeT) (nm : List UInt8) : Int := if hasT types nm then (typeIx types nm : Nat) else -1

/-- does a thing stand ahead of a place? -/
def aheadK (t : ThingT) (ty id : Int) : Bool := decide (t.ty < ty) || (decide (t.ty = ty) && decide (t.id < id))
def aheadT (a b : ThingT) : Bool := aheadK a b.ty b.id
def isTh (ty id : Int) (t : ThingT) : Bool := decide (t.ty = ty) && decide (t.id = id)
def hasTh (l : List ThingT) (ty id : Int) : Bool := l.any (isTh ty id)
/-- where a thing is, or would be -/
def placeT (l : List ThingT) (ty id : Int) : Nat := l.findIdx (fun t => !aheadK t ty id)

def onlyN (k : Int) (c : CellT) : Bool :=
  if k = 1 then decide (c.text = []) && decide (c.ids.length = 0) else if k = 2 then decide (c.n = 0) && decide (c.ids.length = 0) else decide (c.n = 0) && decide (c.text = [])
def mostI (k : Int) : Nat := if k = 3 then 1 else 6
def riseI : List Int → Bool
  | [] => true
  | [_] => true
  | a :: b :: r => decide (a < b) && riseI (b :: r)
def wrongC (f : FieldT) (c : CellT) : Int :=
  if onlyN f.kind c = false then 1 else if c.n < -999999999 ∨ 999999999 < c.n then 3 else if 40 < c.text.length ∨ mostI f.kind < c.ids.length then 2 else if riseI c.ids = false then 4 else 0

/-- what is asked of the cells, one by one, by their fields -/
def eachC (ask : FieldT → CellT → Int) : List FieldT → List CellT → Int
  | f :: fs, c :: cs => if ask f c ≠ 0 then ask f c else eachC ask fs cs
  | _, _ => 0
/-- .. of all things -/
def eachT (types : List TypeT) (ask : FieldT → CellT → Int) : List ThingT → Int
  | [] => 0
  | t :: r => if eachC ask (fieldsOf types t.ty) t.cells ≠ 0 then eachC ask (fieldsOf types t.ty) t.cells else eachT types ask r


/-- what is wrong with a thing, the one ahead given -/
def wrongTh (types : List TypeT) (p : Option ThingT) (t : ThingT) : Int :=
  if isIx t.ty types.length = false then 5 else if isIdT t.id = false then 3 else if t.cells.length ≠ (fieldsOf types t.ty).length then 1
  else if eachC wrongC (fieldsOf types t.ty) t.cells ≠ 0 then eachC wrongC (fieldsOf types t.ty) t.cells
  else match p with | none => 0 | some q => if aheadT q t then 0 else 4
def wrongThs (types : List TypeT) : Option ThingT → List ThingT → Int
  | _, [] => 0
  | p, t :: r => if wrongTh types p t ≠ 0 then wrongTh types p t else wrongThs types (some t) r

/-- does each id of a cell mean something? -/
def idsC (types : List TypeT) (things : List ThingT) (f : FieldT) (c : CellT) : Int := if c.ids.all (fun i => hasTh things (typeNo types f.of) i) then 0 else 5

def checkSt (s : StateT) : Int :=
  if checkSc s.types ≠ 0 then checkSc s.types else if 12 < s.things.length then 2 else if wrongThs s.types none s.things ≠ 0 then wrongThs s.types none s.things else eachT s.types (idsC s.types s.things) s.things

def namedE (e : EventT) : EventT :=
  if e.kind = 3 ∨ e.kind = 5 ∨ e.kind = 6 then { e with text := [] } else if e.kind = 4 then { e with n := 0 } else { e with field := 0, n := 0, text := [] }
def wrongEv (types : List TypeT) (e : EventT) : Int :=
  if e.kind < 1 ∨ 6 < e.kind then 7 else if e ≠ namedE e then 1 else if isIx e.ty types.length = false then 5 else if isIdT e.id = false then 3 else 0

/-- does an id mean the thing? -/
def meansC (nm : List UInt8) (id : Int) (f : FieldT) (c : CellT) : Int := if f.of = nm ∧ id ∈ c.ids then 4 else 0
def suitsE (k fk : Int) : Bool := if k = 3 then decide (fk = 1) else if k = 4 then decide (fk = 2) else decide (fk = 3) || decide (fk = 4)

def placeI (l : List Int) (n : Int) : Nat := l.findIdx (fun x => !decide (x < n))
/-- what an event makes of a cell -/
def setC (types : List TypeT) (things : List ThingT) (f : FieldT) (e : EventT) (c : CellT) : Except Int CellT :=
  if e.kind = 3 then .ok { c with n := e.n } else if e.kind = 4 then .ok { c with text := e.text }
  else if e.kind = 5 then (if hasTh things (typeNo types f.of) e.n = false then .error 5 else if e.n ∈ c.ids then .error 6
    else if f.kind = 3 then .ok { c with ids := [e.n] } else .ok { c with ids := c.ids.insertIdx (placeI c.ids e.n) e.n })
  else if e.n ∈ c.ids then .ok { c with ids := c.ids.eraseIdx (placeI c.ids e.n) } else .error 5

def field0 : FieldT := ⟨[], 0, []⟩
def thing0 : ThingT := ⟨0, 0, []⟩
def getF (l : List FieldT) (i : Int) : FieldT := (l[i.toNat]?).getD field0
def getC (l : List CellT) (i : Int) : CellT := (l[i.toNat]?).getD cell0
def getT (l : List ThingT) (i : Nat) : ThingT := (l[i]?).getD thing0

def withC (t : ThingT) (i : Int) (c : CellT) : ThingT := { t with cells := t.cells.set i.toNat c }

/-- an event that changes a cell -/
def changeSt (s : StateT) (e : EventT) : Except Int StateT :=
  if isIx e.field (fieldsOf s.types e.ty).length = false then .error 5
  else if suitsE e.kind (getF (fieldsOf s.types e.ty) e.field).kind = false then .error 7
  else match setC s.types s.things (getF (fieldsOf s.types e.ty) e.field) e (getC (getT s.things (placeT s.things e.ty e.id)).cells e.field) with
    | .error m => .error m
    | .ok c => if wrongC (getF (fieldsOf s.types e.ty) e.field) c ≠ 0 then .error (wrongC (getF (fieldsOf s.types e.ty) e.field) c)
      else .ok { s with things := s.things.set (placeT s.things e.ty e.id) (withC (getT s.things (placeT s.things e.ty e.id)) e.field c) }

def newTh (types : List TypeT) (e : EventT) : ThingT := ⟨e.ty, e.id, List.replicate (fieldsOf types e.ty).length cell0⟩

/-- an event, of a state that is right, itself being right -/
def doIt (s : StateT) (e : EventT) : Except Int StateT :=
  if e.kind = 1 then (if hasTh s.things e.ty e.id then .error 6 else if 12 ≤ s.things.length then .error 2 else .ok { s with things := s.things.insertIdx (placeT s.things e.ty e.id) (newTh s.types e) })
  else if hasTh s.things e.ty e.id = false then .error 5
  else if e.kind = 2 then (if eachT s.types (meansC (nameOf s.types e.ty) e.id) s.things ≠ 0 then .error 4 else .ok { s with things := s.things.eraseIdx (placeT s.things e.ty e.id) })
  else changeSt s e

def doSt (s : StateT) (e : EventT) : Except Int StateT :=
  if checkSt s ≠ 0 then .error (checkSt s) else if wrongEv s.types e ≠ 0 then .error (wrongEv s.types e) else doIt s e

/-- is a cell as at first? -/
def firstC (_ : FieldT) (c : CellT) : Int := if c.n ≠ 0 ∨ c.text ≠ [] ∨ c.ids ≠ [] then 4 else 0
def unchangeE (f : FieldT) (c : CellT) (e : EventT) : EventT :=
  if e.kind = 3 then { e with n := c.n } else if e.kind = 4 then { e with text := c.text } else if e.kind = 6 then { e with kind := 5 }
  else if f.kind = 3 then (match c.ids with | [] => { e with kind := 6 } | i :: _ => { e with n := i }) else { e with kind := 6 }
def undoSt (s : StateT) (e : EventT) : Except Int EventT :=
  match doSt s e with
  | .error m => .error m
  | .ok _ =>
    if e.kind = 1 then .ok ⟨2, e.ty, e.id, 0, 0, []⟩
    else if e.kind = 2 then (if eachC firstC (fieldsOf s.types (getT s.things (placeT s.things e.ty e.id)).ty) (getT s.things (placeT s.things e.ty e.id)).cells ≠ 0 then .error 4
      else .ok ⟨1, (getT s.things (placeT s.things e.ty e.id)).ty, (getT s.things (placeT s.things e.ty e.id)).id, 0, 0, []⟩)
    else .ok (unchangeE (getF (fieldsOf s.types e.ty) e.field) (getC (getT s.things (placeT s.things e.ty e.id)).cells e.field) e)

end Go.Proofs.YtidodjbmlbjchaaGreat

/- States and events, in plain Lean: what is right, and places. -/
namespace Go.Proofs.YtidodjbmlbjchaaGreat

theorem eachC_iff (ask : FieldT → CellT → Int) (fs : List FieldT) : ∀ cs, eachC ask fs cs = 0 ↔ ∀ (i : Nat) (f : FieldT) (c : CellT), fs[i]? = some f → cs[i]? = some c → ask f c = 0 := by
  induction fs with
  | nil => intro cs; simp [eachC]
  | cons f fs ih =>
    intro cs
    cases cs with
    | nil => simp [eachC]
    | cons c cs =>
      rw [eachC]
      by_cases h : ask f c = 0
      · rw [if_neg (not_not_intro h), ih]
        constructor
        · intro hh i f' c' h1 h2
          cases i with
          | zero => simp at h1 h2; subst h1 h2; exact h
          | succ i => exact hh i f' c' (by simpa using h1) (by simpa using h2)
        · intro hh i f' c' h1 h2
          exact hh (i + 1) f' c' (by simpa using h1) (by simpa using h2)
      · rw [if_pos h]
        exact ⟨fun e => absurd e h, fun hh => absurd (hh 0 f c rfl rfl) h⟩

theorem eachT_iff (types : List TypeT) (ask : FieldT → CellT → Int) (l : List ThingT) : eachT types ask l = 0 ↔ ∀ t ∈ l, eachC ask (fieldsOf types t.ty) t.cells = 0 := by
  induction l with
  | nil => simp [eachT]
  | cons t r ih =>
    rw [eachT]
    by_cases h : eachC ask (fieldsOf types t.ty) t.cells = 0
    · rw [if_neg (not_not_intro h), ih]; simp [h]
    · rw [if_pos h]; simp [h]

/-- a thing that is right by itself -/
def okTh (types : List TypeT) (t : ThingT) : Prop :=
  isIx t.ty types.length = true ∧ isIdT t.id = true ∧ t.cells.length = (fieldsOf types t.ty).length ∧ eachC wrongC (fieldsOf types t.ty) t.cells = 0

theorem wrongTh_iff (types : List TypeT) (p : Option ThingT) (t : ThingT) : wrongTh types p t = 0 ↔ okTh types t ∧ ∀ q, p = some q → aheadT q t = true := by
  unfold wrongTh okTh
  by_cases h1 : isIx t.ty types.length = true
  · rw [if_neg (by simp [h1])]
    by_cases h2 : isIdT t.id = true
    · rw [if_neg (by simp [h2])]
      by_cases h3 : t.cells.length = (fieldsOf types t.ty).length
      · rw [if_neg (not_not_intro h3)]
        by_cases h4 : eachC wrongC (fieldsOf types t.ty) t.cells = 0
        · rw [if_neg (not_not_intro h4)]
          cases p with
          | none => simp [h1, h2, h3, h4]
          | some q =>
            by_cases h5 : aheadT q t = true
            · simp [h1, h2, h3, h4, h5]
            · simp [h1, h2, h3, h4, h5]
        · rw [if_pos h4]; simp [h4]
      · rw [if_pos h3]; simp [h3]
    · rw [if_pos (by simpa using h2)]; simp [h2]
  · rw [if_pos (by simpa using h1)]; simp [h1]

theorem aheadK_iff (t : ThingT) (ty id : Int) : aheadK t ty id = true ↔ t.ty < ty ∨ (t.ty = ty ∧ t.id < id) := by simp [aheadK]
theorem aheadK_not (t : ThingT) (ty id : Int) : aheadK t ty id = false ↔ ty < t.ty ∨ (t.ty = ty ∧ id ≤ t.id) := by
  rw [Bool.eq_false_iff, Ne, aheadK_iff]; omega
theorem isTh_iff (t : ThingT) (ty id : Int) : isTh ty id t = true ↔ t.ty = ty ∧ t.id = id := by simp [isTh]
theorem aheadT_trans {a b c : ThingT} (h : aheadT a b = true) (k : aheadT b c = true) : aheadT a c = true := by
  simp only [aheadT, aheadK_iff] at *; omega
theorem ahead_key {a b : ThingT} {ty id : Int} (h : aheadT a b = true) (k : aheadK b ty id = true) : aheadK a ty id = true := by
  simp only [aheadT, aheadK_iff] at *; omega
theorem hasTh_iff (l : List ThingT) (ty id : Int) : hasTh l ty id = true ↔ ∃ t ∈ l, t.ty = ty ∧ t.id = id := by
  simp [hasTh, isTh]
theorem hasTh_not (l : List ThingT) (ty id : Int) : hasTh l ty id = false ↔ ∀ t ∈ l, ¬ (t.ty = ty ∧ t.id = id) := by
  rw [Bool.eq_false_iff, Ne, hasTh_iff]; simp

def sortT (l : List ThingT) : Prop := l.Pairwise (fun a b => aheadT a b = true)

theorem wrongThs_iff (types : List TypeT) (l : List ThingT) : ∀ p, wrongThs types p l = 0 ↔ (∀ t ∈ l, okTh types t) ∧ sortT l ∧ ∀ q, p = some q → ∀ t ∈ l, aheadT q t = true := by
  induction l with
  | nil => intro p; simp [wrongThs, sortT]
  | cons t r ih =>
    intro p
    rw [wrongThs]
    by_cases h : wrongTh types p t = 0
    · rw [if_neg (not_not_intro h), ih]
      obtain ⟨h1, h2⟩ := (wrongTh_iff _ _ _).1 h
      constructor
      · rintro ⟨g1, g2, g3⟩
        refine ⟨?_, ?_, ?_⟩
        · intro x hx
          rcases List.mem_cons.1 hx with rfl | hx
          · exact h1
          · exact g1 x hx
        · exact List.pairwise_cons.2 ⟨fun x hx => g3 t rfl x hx, g2⟩
        · intro q hq x hx
          rcases List.mem_cons.1 hx with rfl | hx
          · exact h2 q hq
          · exact aheadT_trans (h2 q hq) (g3 t rfl x hx)
      · rintro ⟨g1, g2, g3⟩
        obtain ⟨g4, g5⟩ := List.pairwise_cons.1 g2
        exact ⟨fun x hx => g1 x (by simp [hx]), g5, fun q hq x hx => by cases hq; exact g4 x hx⟩
    · rw [if_pos h]
      refine ⟨fun e => absurd e h, ?_⟩
      rintro ⟨g1, g2, g3⟩
      exact absurd ((wrongTh_iff _ _ _).2 ⟨g1 t (by simp), fun q hq => g3 q hq t (by simp)⟩) h

theorem idsC_iff (types : List TypeT) (things : List ThingT) (f : FieldT) (c : CellT) : idsC types things f c = 0 ↔ ∀ i ∈ c.ids, hasTh things (typeNo types f.of) i = true := by
  unfold idsC
  by_cases h : c.ids.all (fun i => hasTh things (typeNo types f.of) i) = true
  · rw [if_pos h]; simpa using h
  · rw [if_neg h]
    refine ⟨fun e => absurd e (by decide), fun hh => absurd ?_ h⟩
    simpa using hh

/-- a state that is right -/
structure Right (s : StateT) : Prop where
  schema : checkSc s.types = 0
  few : s.things.length ≤ 12
  each : ∀ t ∈ s.things, okTh s.types t
  sorted : sortT s.things
  meant : ∀ t ∈ s.things, ∀ (i : Nat) f c, (fieldsOf s.types t.ty)[i]? = some f → t.cells[i]? = some c → ∀ x ∈ c.ids, hasTh s.things (typeNo s.types f.of) x = true

theorem checkSt_iff (s : StateT) : checkSt s = 0 ↔ Right s := by
  unfold checkSt
  by_cases h1 : checkSc s.types = 0
  · rw [if_neg (not_not_intro h1)]
    by_cases h2 : 12 < s.things.length
    · rw [if_pos h2]; exact ⟨fun e => absurd e (by decide), fun h => absurd h.few (by omega)⟩
    · rw [if_neg h2]
      by_cases h3 : wrongThs s.types none s.things = 0
      · rw [if_neg (not_not_intro h3), eachT_iff]
        obtain ⟨g1, g2, _⟩ := (wrongThs_iff _ _ _).1 h3
        constructor
        · intro h
          refine ⟨h1, by omega, g1, g2, fun t ht i f c hf hc x hx => ?_⟩
          exact (idsC_iff _ _ _ _).1 ((eachC_iff _ _ _).1 (h t ht) i f c hf hc) x hx
        · intro h t ht
          exact (eachC_iff _ _ _).2 fun i f c hf hc => (idsC_iff _ _ _ _).2 fun x hx => h.meant t ht i f c hf hc x hx
      · rw [if_pos h3]
        exact ⟨fun e => absurd e h3, fun h => absurd ((wrongThs_iff _ _ _).2 ⟨h.each, h.sorted, fun q hq => by cases hq⟩) h3⟩
  · rw [if_pos h1]; exact ⟨fun e => absurd e h1, fun h => absurd h.schema h1⟩

/-! places -/
theorem placeT_le (l : List ThingT) (ty id : Int) : placeT l ty id ≤ l.length := List.findIdx_le_length
theorem placeT_lt {l : List ThingT} {ty id : Int} {j : Nat} (h : j < placeT l ty id) (hj : j < l.length) : aheadK l[j] ty id = true := by
  have := List.not_of_lt_findIdx (p := fun t => !aheadK t ty id) (xs := l) h
  simpa using this
theorem placeT_at {l : List ThingT} {ty id : Int} (h : placeT l ty id < l.length) : aheadK l[placeT l ty id] ty id = false := by
  have := List.findIdx_getElem (xs := l) (p := fun t => !aheadK t ty id) (w := h)
  unfold placeT
  simpa using this

theorem sort_get {l : List ThingT} (h : sortT l) {i j : Nat} (hij : i < j) (hj : j < l.length) : aheadT l[i] l[j] = true :=
  List.pairwise_iff_getElem.1 h i j (by omega) hj hij

theorem place_ix {l : List ThingT} (h : sortT l) {k : Nat} (hk : k < l.length) {ty id : Int} (h1 : l[k].ty = ty) (h2 : l[k].id = id) : placeT l ty id = k := by
  have hle : placeT l ty id ≤ k := by
    rcases Nat.lt_or_ge k (placeT l ty id) with hlt | hge
    · have := placeT_lt hlt hk
      rw [aheadK_iff] at this; omega
    · exact hge
  rcases Nat.lt_or_ge (placeT l ty id) k with hlt | hge
  · have g := placeT_at (l := l) (ty := ty) (id := id) (by omega)
    have g2 := sort_get h hlt hk
    rw [aheadT, h1, h2, g] at g2
    cases g2
  · omega

theorem place_has {l : List ThingT} (h : sortT l) {ty id : Int} (hh : hasTh l ty id = true) : ∃ hk : placeT l ty id < l.length, l[placeT l ty id].ty = ty ∧ l[placeT l ty id].id = id := by
  obtain ⟨t, ht, h1, h2⟩ := (hasTh_iff _ _ _).1 hh
  obtain ⟨k, hk, rfl⟩ := List.getElem_of_mem ht
  have := place_ix h hk h1 h2
  subst this
  exact ⟨hk, h1, h2⟩

theorem getT_at {l : List ThingT} {k : Nat} (hk : k < l.length) : getT l k = l[k] := by simp [getT, hk]
theorem getT_mem {l : List ThingT} {k : Nat} (hk : k < l.length) : getT l k ∈ l := by rw [getT_at hk]; exact List.getElem_mem hk

/-- two things of one key are one -/
theorem key_inj {l : List ThingT} (h : sortT l) {i j : Nat} (hi : i < l.length) (hj : j < l.length) (h1 : l[i].ty = l[j].ty) (h2 : l[i].id = l[j].id) : i = j := by
  exact (place_ix h hi h1 h2).symm.trans (place_ix h hj rfl rfl)

theorem hasTh_perm {a b : List ThingT} (h : ∀ t ∈ a, ∃ u ∈ b, u.ty = t.ty ∧ u.id = t.id) {ty id : Int} (hh : hasTh a ty id = true) : hasTh b ty id = true := by
  obtain ⟨t, ht, h1, h2⟩ := (hasTh_iff _ _ _).1 hh
  obtain ⟨u, hu, g1, g2⟩ := h t ht
  exact (hasTh_iff _ _ _).2 ⟨u, hu, by omega, by omega⟩

/-! types' numbers -/
theorem typeNo_name {types : List TypeT} {nm : List UInt8} {ty : Int} (h0 : 0 ≤ ty) (h : typeNo types nm = ty) : nm = nameOf types ty := by
  unfold typeNo at h
  by_cases hh : hasT types nm = true
  · rw [if_pos hh] at h
    have hlt : typeIx types nm < types.length := by
      unfold typeIx
      rw [List.findIdx_lt_length]
      simpa [hasT] using hh
    have hg : types[typeIx types nm].name = nm := by
      have := List.findIdx_getElem (xs := types) (p := fun t : TypeT => decide (t.name = nm)) (w := hlt)
      unfold typeIx
      simpa using this
    have ht : ty.toNat = typeIx types nm := by omega
    rw [nameOf, ht, List.getElem?_eq_getElem hlt]
    exact hg.symm
  · rw [if_neg hh] at h; omega

theorem name_typeNo {types : List TypeT} (hn : (types.map (·.name)).Nodup) {ty : Int} (h : isIx ty types.length = true) : typeNo types (nameOf types ty) = ty := by
  simp only [isIx, Bool.and_eq_true, decide_eq_true_eq] at h
  have hlt : ty.toNat < types.length := by omega
  have e : nameOf types ty = types[ty.toNat].name := by rw [nameOf, List.getElem?_eq_getElem hlt]
  have hh : hasT types (nameOf types ty) = true := by
    rw [hasT_iff, e]
    exact List.mem_map_of_mem (List.getElem_mem hlt)
  have hx : typeNo types (nameOf types ty) = (typeIx types (nameOf types ty) : Nat) := by rw [typeNo, if_pos hh]
  have h0 : 0 ≤ typeNo types (nameOf types ty) := by rw [hx]; omega
  have hlt2 : typeIx types (nameOf types ty) < types.length := by
    unfold typeIx
    rw [List.findIdx_lt_length]
    simpa [hasT] using hh
  have := typeNo_name h0 rfl
  rw [hx, nameOf, nameOf] at this
  rw [List.getElem?_eq_getElem hlt] at this
  have e2 : ((typeIx types types[ty.toNat].name : Nat) : Int).toNat = typeIx types types[ty.toNat].name := by omega
  rw [e] at hlt2 hx ⊢
  simp only [e2] at this
  rw [List.getElem?_eq_getElem hlt2] at this
  have g := (List.nodup_iff_pairwise_ne.1 hn)
  rw [List.pairwise_iff_getElem] at g
  have : ty.toNat = typeIx types types[ty.toNat].name := by
    rcases Nat.lt_trichotomy ty.toNat (typeIx types types[ty.toNat].name) with hc | hc | hc
    · exact absurd (by rw [List.getElem_map, List.getElem_map]; exact this) (g _ _ (by simpa using hlt) (by simpa using hlt2) hc)
    · exact hc
    · exact absurd (by rw [List.getElem_map, List.getElem_map]; exact this.symm) (g _ _ (by simpa using hlt2) (by simpa using hlt) hc)
  rw [hx]; omega

theorem Right.names {s : StateT} (h : Right s) : (s.types.map (·.name)).Nodup := ((checkSc_iff _).1 h.schema).2.2

end Go.Proofs.YtidodjbmlbjchaaGreat
