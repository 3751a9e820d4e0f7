import Derived.Test.YtkkjchfhgjfclacValidtellsupto05
import Derived.Test.YtkkjchfhgjfclacValidtellsupto06
import Derived.WalkKit
import Derived.WalkSpells
import Derived.WalkLawsBesides
import Derived.Deep.QuietTactic
import Derived.BigQuiet
import Derived.Deep.LoopGhost
import Derived.Deep.RegionLaw
import Derived.Laws.OwnMore
/- Selects one behind another. No program is named here. -/
namespace Go.Proofs.Ytkkjchfhgjfclac

def appS : Sels → Sels → Sels
  | .nil, s => s
  | .cons al nm args k r, s => .cons al nm args k (appS r s)

theorem appS_nil (s : Sels) : appS s .nil = s := by
  induction s with
  | nil => rfl
  | cons al nm args k r _ ih => rw [appS, ih]
theorem appS_assoc (a b c : Sels) : appS (appS a b) c = appS a (appS b c) := by
  induction a with
  | nil => rfl
  | cons al nm args k r _ ih => rw [appS, appS, appS, ih]
theorem appS_snoc (p : Sels) (al nm : List UInt8) (args : List ArgT) (k r : Sels) : appS (appS p (.cons al nm args k .nil)) r = appS p (.cons al nm args k r) := by rw [appS_assoc]; rfl
theorem appS_len (a b : Sels) : (appS a b).len = a.len + b.len := by
  induction a with
  | nil => simp [appS, Sels.len]
  | cons al nm args k r _ ih => rw [appS, Sels.len, Sels.len, ih]; omega
theorem appS_calls (a b : Sels) : callsQ (appS a b) = callsQ a ++ callsQ b := by
  induction a with
  | nil => rfl
  | cons al nm args k r _ ih => rw [appS, callsQ, callsQ, ih]; rfl
theorem appS_toks (a b : Sels) : selToks (appS a b) = selToks a ++ selToks b := by
  induction a with
  | nil => rfl
  | cons al nm args k r _ ih => rw [appS, selToks, selToks, ih]; simp only [List.append_assoc]
theorem appS_size (a b : Sels) : (appS a b).size' = a.size' + b.size' := by
  induction a with
  | nil => simp [appS, Sels.size']
  | cons al nm args k r _ ih => rw [appS, Sels.size', Sels.size', ih]; omega

end Go.Proofs.Ytkkjchfhgjfclac

/- Queries that fit, in plain Lean: what Query and Paths of chapter 6 answer. No program is named here. -/
namespace Go.Proofs.Ytkkjchfhgjfclac

abbrev bFirst : List UInt8 := [102, 105, 114, 115, 116]

/-- What may be selected at a place, and the arg that each field of many takes there. -/
structure OfferT where
  fields : List FieldT
  arg : List UInt8
  low : Int
  high : Int

def ofQueryV (types : List TypeT) : OfferT := ⟨types.map (fun t => ⟨t.name, 4, t.name⟩), bId, 1, 999⟩
def ofTypeV (t : TypeT) : OfferT := ⟨⟨bId, 1, []⟩ :: t.fields, bFirst, 0, 999999999⟩

def hasFd (l : List FieldT) (nm : List UInt8) : Bool := l.any fun a => decide (a.name = nm)
def fieldOf (l : List FieldT) (nm : List UInt8) : FieldT := (l.find? fun a => decide (a.name = nm)).getD ⟨[], 0, []⟩
def typeOf (l : List TypeT) (nm : List UInt8) : TypeT := (l.find? fun a => decide (a.name = nm)).getD ⟨[], []⟩

def wrongAg (o : OfferT) (f : FieldT) (a : ArgT) : Int :=
  if a.name ≠ o.arg ∨ f.kind ≠ 4 then 5 else if a.isText then 7 else if a.n < o.low ∨ o.high < a.n then 3 else 0
def wrongAgs (o : OfferT) (f : FieldT) : List ArgT → Int
  | [] => 0
  | a :: r => if wrongAg o f a ≠ 0 then wrongAg o f a else wrongAgs o f r
def hasThg (f : FieldT) : Bool := decide (f.kind = 3) || decide (f.kind = 4)

/-- what is wrong with a select, but for what is selected of it -/
def takenE (o : OfferT) (nm : List UInt8) (args : List ArgT) (kl : Nat) : Int :=
  if hasFd o.fields nm = false then 5 else if wrongAgs o (fieldOf o.fields nm) args ≠ 0 then wrongAgs o (fieldOf o.fields nm) args
    else if hasThg (fieldOf o.fields nm) ≠ decide (0 < kl) then 4 else 0

def fitsV (types : List TypeT) : OfferT → Sels → Int
  | _, .nil => 0
  | o, .cons _ nm args k r =>
    if takenE o nm args k.len ≠ 0 then takenE o nm args k.len
    else if k.len = 0 then fitsV types o r
    else if fitsV types (ofTypeV (typeOf types (fieldOf o.fields nm).of)) k ≠ 0 then fitsV types (ofTypeV (typeOf types (fieldOf o.fields nm).of)) k
    else fitsV types o r

def checkV (types : List TypeT) (q : Sels) : Int :=
  if checkSc types ≠ 0 then checkSc types else if checkQ q ≠ 0 then checkQ q else fitsV types (ofQueryV types) q

def pathsV : List UInt8 → Sels → List (List UInt8)
  | _, .nil => []
  | a, .cons al nm _ k r => (a ++ calledQ al nm) :: (pathsV (a ++ calledQ al nm ++ [47]) k ++ pathsV a r)

theorem fitsV_app (types : List TypeT) (o : OfferT) (p s : Sels) (h : fitsV types o (appS p s) = 0) : fitsV types o p = 0 := by
  induction p with
  | nil => rfl
  | cons al nm args k r _ ih =>
    rw [appS, fitsV] at h
    rw [fitsV]
    by_cases h1 : takenE o nm args k.len = 0
    · rw [if_neg (not_not_intro h1)] at h ⊢
      by_cases h2 : k.len = 0
      · rw [if_pos h2] at h ⊢
        exact ih h
      · rw [if_neg h2] at h ⊢
        by_cases h3 : fitsV types (ofTypeV (typeOf types (fieldOf o.fields nm).of)) k = 0
        · rw [if_neg (not_not_intro h3)] at h ⊢
          exact ih h
        · rw [if_pos h3] at h
          exact absurd h h3
    · rw [if_pos h1] at h
      exact absurd h h1

theorem wrongQ_app (p s : Sels) : ∀ seen, wrongQ seen (appS p s) = 0 → wrongQ seen p = 0 := by
  induction p with
  | nil => intro _ _; rfl
  | cons al nm args k r _ ih =>
    intro seen h
    rw [appS] at h
    obtain ⟨h1, h2, h3, h4⟩ := wrongQ_ok h
    exact wrongQ_mk h1 h2 h3 (ih _ h4)
theorem okD_app (p s : Sels) (d : Nat) : okD d (appS p s) → okD d p := by
  induction p with
  | nil => intro _; trivial
  | cons al nm args k r _ ih =>
    intro h
    rw [appS] at h
    exact ⟨h.1, h.2.1, ih h.2.2⟩

/-- a query without its last selects is right, too -/
theorem checkQ_app {p s : Sels} (hp : p.len ≠ 0) (h : checkQ (appS p s) = 0) : checkQ p = 0 := by
  obtain ⟨_, h2, h3, h4⟩ := (checkQ_iff _).1 h
  rw [appS_size] at h3
  exact (checkQ_iff _).2 ⟨hp, okD_app _ _ _ h2, by omega, wrongQ_app _ _ _ h4⟩
theorem checkV_app {types : List TypeT} {p s : Sels} (hp : p.len ≠ 0) (h : checkV types (appS p s) = 0) : checkV types p = 0 := by
  unfold checkV at *
  by_cases h1 : checkSc types = 0
  · rw [if_neg (not_not_intro h1)] at h ⊢
    by_cases h2 : checkQ (appS p s) = 0
    · rw [if_neg (not_not_intro h2)] at h
      rw [if_neg (not_not_intro (checkQ_app hp h2))]
      exact fitsV_app _ _ _ _ h
    · rw [if_pos h2] at h
      exact absurd h h2
  · rw [if_pos h1] at h
    exact absurd h h1

/-- no letter of a right name is a slash -/
theorem noSl_name {s : List UInt8} (h : wrongT (nameT s) = 0) : (47 : UInt8) ∉ s := by
  intro hm
  simp only [wrongT, nameT] at h
  by_cases h1 : 12 < s.length
  · simp [h1] at h
  · by_cases h2 : nameOk s = true
    · simp only [nameOk, Bool.and_eq_true, List.all_eq_true] at h2
      have := h2.1 47 hm
      revert this
      decide
    · simp [h1, h2] at h
theorem noSl_called {al nm : List UInt8} {args : List ArgT} (h : wrongS al nm args = 0) : (47 : UInt8) ∉ calledQ al nm := by
  obtain ⟨h1, h2, _, _⟩ := wrongS_ok h
  unfold calledQ
  by_cases e : al = []
  · rw [if_pos e]; exact noSl_name h1
  · rw [if_neg e]; exact noSl_name (h2.resolve_left e)

/-- what may stand behind a name -/
def tailV (t : List UInt8) : Prop := t = [] ∨ ∃ t', t = 47 :: t'
theorem comp_inj (c1 : List UInt8) : ∀ (c2 t1 t2 : List UInt8), (47 : UInt8) ∉ c1 → (47 : UInt8) ∉ c2 → tailV t1 → tailV t2 → c1 ++ t1 = c2 ++ t2 → c1 = c2 ∧ t1 = t2 := by
  induction c1 with
  | nil =>
    intro c2 t1 t2 _ h2 h3 _ e
    cases c2 with
    | nil => exact ⟨rfl, e⟩
    | cons x c2 =>
      exfalso
      simp only [List.nil_append, List.cons_append] at e
      rcases h3 with rfl | ⟨t', rfl⟩
      · cases e
      · cases e
        exact h2 (by simp)
  | cons x c1 ih =>
    intro c2 t1 t2 h1 h2 h3 h4 e
    cases c2 with
    | nil =>
      exfalso
      simp only [List.nil_append, List.cons_append] at e
      rcases h4 with rfl | ⟨t', rfl⟩
      · cases e
      · cases e
        exact h1 (by simp)
    | cons y c2 =>
      simp only [List.cons_append, List.cons.injEq] at e
      obtain ⟨rfl, e⟩ := e
      obtain ⟨g1, g2⟩ := ih c2 t1 t2 (fun h => h1 (by simp [h])) (fun h => h2 (by simp [h])) h3 h4 e
      exact ⟨by rw [g1], g2⟩

theorem paths_form (s : Sels) : ∀ (a x : List UInt8), x ∈ pathsV a s → ∃ c t, c ∈ callsQ s ∧ tailV t ∧ x = a ++ (c ++ t) := by
  induction s with
  | nil => intro a x h; cases h
  | cons al nm args k r ihk ihr =>
    intro a x h
    rw [pathsV] at h
    rcases List.mem_cons.1 h with rfl | h
    · exact ⟨calledQ al nm, [], by simp [callsQ], .inl rfl, by simp⟩
    · rcases List.mem_append.1 h with h | h
      · obtain ⟨c, t, _, _, rfl⟩ := ihk _ _ h
        exact ⟨calledQ al nm, 47 :: (c ++ t), by simp [callsQ], .inr ⟨_, rfl⟩, by simp⟩
      · obtain ⟨c, t, h1, h2, rfl⟩ := ihr _ _ h
        exact ⟨c, t, by simp [callsQ, h1], h2, rfl⟩

theorem paths_nodup (s : Sels) : ∀ (a : List UInt8) (seen : List (List UInt8)), wrongQ seen s = 0 → (pathsV a s).Nodup := by
  induction s with
  | nil => intro a seen _; exact List.nodup_nil
  | cons al nm args k r ihk ihr =>
    intro a seen h
    obtain ⟨h1, h2, h3, h4⟩ := wrongQ_ok h
    obtain ⟨g1, g2, g3⟩ := (wrongQ_iff _ _).1 h4
    have hc : (47 : UInt8) ∉ calledQ al nm := noSl_called h1
    have hr : ∀ c ∈ callsQ r, (47 : UInt8) ∉ c := by
      intro c hc
      clear h h1 h2 h3 h4 g2 g3 ihk ihr
      induction r with
      | nil => cases hc
      | cons a b c' d e _ ih =>
        rw [callsQ] at hc
        obtain ⟨e1, _, e3⟩ := g1
        rcases List.mem_cons.1 hc with rfl | hc
        · exact noSl_called e1
        · exact ih e3 hc
    have hne : ∀ t, tailV t → a ++ (calledQ al nm ++ t) ∉ pathsV a r := by
      intro t ht hx
      obtain ⟨c, t2, e1, e2, e3⟩ := paths_form r _ _ hx
      have e4 := List.append_cancel_left e3
      obtain ⟨e5, _⟩ := comp_inj _ _ _ _ hc (hr c e1) ht e2 e4
      exact g3 c e1 (by simp [e5])
    rw [pathsV, List.nodup_cons, List.nodup_append]
    refine ⟨?_, ihk _ _ h3, ihr _ _ h4, ?_⟩
    · intro hx
      rcases List.mem_append.1 hx with hx | hx
      · obtain ⟨c, t, _, _, e⟩ := paths_form k _ _ hx
        have := congrArg List.length e
        simp at this
      · exact hne [] (.inl rfl) (by rw [List.append_nil]; exact hx)
    · intro x hx y hy e
      subst e
      obtain ⟨c, t, _, _, rfl⟩ := paths_form k _ _ hx
      refine hne (47 :: (c ++ t)) (.inr ⟨_, rfl⟩) ?_
      have : a ++ calledQ al nm ++ [47] ++ (c ++ t) = a ++ (calledQ al nm ++ 47 :: (c ++ t)) := by simp
      rw [← this]
      exact hy

theorem pathsV_len (s : Sels) : ∀ a, (pathsV a s).length = s.size' := by
  induction s with
  | nil => intro a; rfl
  | cons al nm args k r ihk ihr => intro a; rw [pathsV, List.length_cons, List.length_append, ihk, ihr, Sels.size']
theorem pathsV_app (p s : Sels) : ∀ a, pathsV a (appS p s) = pathsV a p ++ pathsV a s := by
  induction p with
  | nil => intro a; rfl
  | cons al nm args k r _ ih => intro a; rw [appS, pathsV, pathsV, ih]; simp
/-- how long a path is -/
theorem pathsV_le (s : Sels) : ∀ (a : List UInt8) (d : Nat) (seen : List (List UInt8)), okD d s → wrongQ seen s = 0 → a.length ≤ 13 * d → ∀ x ∈ pathsV a s, x.length ≤ 200 := by
  induction s with
  | nil => intro a d seen _ _ _ x hx; cases hx
  | cons al nm args k r ihk ihr =>
    intro a d seen ho h ha x hx
    obtain ⟨h1, h2, h3, h4⟩ := wrongQ_ok h
    obtain ⟨o1, o2, o3⟩ := ho
    have hl : (calledQ al nm).length ≤ 12 := by
      obtain ⟨g1, g2, _, _⟩ := wrongS_ok h1
      have key : ∀ s : List UInt8, wrongT (nameT s) = 0 → s.length ≤ 12 := by
        intro s hs
        simp only [wrongT, nameT] at hs
        by_cases h1 : 12 < s.length
        · simp [h1] at hs
        · omega
      unfold calledQ
      by_cases e : al = []
      · rw [if_pos e]; exact key _ g1
      · rw [if_neg e]; exact key _ (g2.resolve_left e)
    rw [pathsV] at hx
    rcases List.mem_cons.1 hx with rfl | hx
    · simp; omega
    · rcases List.mem_append.1 hx with hx | hx
      · exact ihk _ (d + 1) _ o2 h3 (by simp; omega) x hx
      · exact ihr _ d _ o3 h4 ha x hx

end Go.Proofs.Ytkkjchfhgjfclac

/- World relations and small closers, over any program. -/
namespace Go.Proofs.Ytkkjchfhgjfclac
open Go.RowKit

theorem hide {p : Prop} (h : p) : Hid p := h

theorem ret_bool {a b : Bool} (h : a = b) : Ending.returned (.bool a) = .returned (.bool b) := by rw [h]
theorem ret_int {k : IntKind} {a b : Int} (h : a = b) : Ending.returned (.int k a) = .returned (.int k b) := by rw [h]
theorem ret_str {a b : ByteArray} (h : a = b) : Ending.returned (.string a) = .returned (.string b) := by rw [h]

/-- All blocks of w but those of X stand in w' as they stood. -/
structure Kept (X : Nat → Prop) (w w' : World) : Prop where
  os : w'.os = w.os
  tape : w'.tape = w.tape
  output : w'.output = w.output
  size : w.heap.size ≤ w'.heap.size
  block : ∀ k, k < w.heap.size → ¬ X k → w'.heap[k]? = w.heap[k]?

abbrev Same (w w' : World) : Prop := Kept (fun _ => False) w w'

theorem Kept.refl (X : Nat → Prop) (w : World) : Kept X w w := ⟨rfl, rfl, rfl, Nat.le_refl _, fun _ _ _ => rfl⟩

theorem Kept.trans {X Y : Nat → Prop} {a b c : World} (h : Kept X a b) (k : Kept Y b c) (hY : ∀ i, i < a.heap.size → Y i → X i) : Kept X a c :=
  ⟨k.os.trans h.os, k.tape.trans h.tape, k.output.trans h.output, Nat.le_trans h.size k.size,
    fun i hi hx => (k.block i (Nat.lt_of_lt_of_le hi h.size) (fun y => hx (hY i hi y))).trans (h.block i hi hx)⟩

theorem Kept.mono {X Y : Nat → Prop} {w w' : World} (h : Kept X w w') (hY : ∀ i, i < w.heap.size → X i → Y i) : Kept Y w w' :=
  ⟨h.os, h.tape, h.output, h.size, fun k hk hx => h.block k hk (fun x => hx (hY k hk x))⟩

theorem Same.to {X : Nat → Prop} {w w' : World} (h : Same w w') : Kept X w w' := h.mono (fun _ _ f => f.elim)

theorem Kept.drew {X : Nat → Prop} {a w : World} (h : Kept X a w) : Kept X a w.drew := ⟨h.os, h.tape, h.output, h.size, h.block⟩
theorem Kept.drewN {X : Nat → Prop} {a w : World} (h : Kept X a w) (n : Nat) : Kept X a (w.drewN n) := ⟨h.os, h.tape, h.output, h.size, h.block⟩

theorem Kept.unN {X : Nat → Prop} {w w' : World} {n : Nat} (h : Kept X (w.drewN n) w') : Kept X w w' := ⟨h.os, h.tape, h.output, h.size, h.block⟩
theorem Kept.unD {X : Nat → Prop} {w w' : World} (h : Kept X w.drew w') : Kept X w w' := ⟨h.os, h.tape, h.output, h.size, h.block⟩

theorem Kept.alloc {X : Nat → Prop} {a w : World} (h : Kept X a w) (o : Obj) : Kept X a (w.alloc o) :=
  ⟨h.os, h.tape, h.output, by have := h.size; simp; omega, fun k hk hx => (Below.heap_alloc _ _ _ (Nat.lt_of_lt_of_le hk h.size)).trans (h.block k hk hx)⟩

theorem Kept.unA {X : Nat → Prop} {w w' : World} {o : Obj} (h : Kept X (w.alloc o) w') : Kept X w w' := ((Kept.refl X w).alloc o).trans h (fun _ _ x => x)

theorem Kept.setCell {X : Nat → Prop} {a w : World} (h : Kept X a w) {p : Addr} (hp : p.block < a.heap.size → X p.block) (u : Value) : Kept X a (w.setCell p u) :=
  ⟨h.os, h.tape, h.output, by have := h.size; simpa [World.setCell] using this, fun k hk hx => (Below.heap_setCell _ _ _ _ (fun e => hx (by subst e; exact hp hk))).trans (h.block k hk hx)⟩

theorem Kept.setB {b : Nat} {a w : World} (h : Kept (· = b) a w) (o : Nat) (u : Value) : Kept (· = b) a (w.setCell ⟨b, o, none⟩ u) := h.setCell (fun _ => rfl) u

theorem Kept.grown {X : Nat → Prop} {a w w' : World} {row : Option Nat} (h : Kept X a w) (hg : w.grownBy w' row) (hr : ∀ k, row = some k → k < a.heap.size → X k) : Kept X a w' :=
  ⟨hg.os.trans h.os, hg.tape.trans h.tape, hg.output.trans h.output, Nat.le_trans h.size hg.size,
    fun k hk hx => (hg.block k (Nat.lt_of_lt_of_le hk h.size) (fun e => hx (hr k e.symm hk))).trans (h.block k hk hx)⟩

theorem Kept.cell {X : Nat → Prop} {w w' : World} (h : Kept X w w') {p : Addr} {v : Value} (hv : w.cell? p = some v) (hp : ¬ X p.block) : w'.cell? p = some v :=
  (World.cell?_of_block (w := w) (h.block p.block (World.block_lt_of_cell? w p hv) hp)).trans hv

theorem Kept.below {w w' : World} (h : Same w w') : Below w.heap.size w w' := ⟨h.os, h.tape, h.output, h.size, fun k hk => h.block k hk (fun f => f)⟩
theorem Kept.of_below {w w' : World} (h : Below w.heap.size w w') : Same w w' := ⟨h.os, h.tape, h.output, h.size, fun k hk _ => h.block k hk⟩


theorem own_kept {w w' : World} {base : Nat} {e : TypeId} {size : Nat} {v : Value} {n : Nat} {xs : List Value} (h : w.ownsRow base e size v n xs) {X : Nat → Prop} (hk : Kept X w w') (hX : ∀ g, base ≤ g → ¬ X g) : w'.ownsRow base e size v n xs := by
  obtain ⟨h1, h2⟩ := h
  refine ⟨h1, ?_⟩
  rcases h2 with h2 | ⟨g, cap, cur, hv, hg, hh, r⟩
  · exact Or.inl h2
  · have hlt : g < w.heap.size := (Array.getElem?_eq_some_iff.1 hh).1
    exact Or.inr ⟨g, cap, cur, hv, hg, by rw [hk.block g hlt (hX g hg)]; exact hh, r⟩

theorem own_row {w : World} {base : Nat} {e : TypeId} {size : Nat} {v : Value} {n : Nat} {xs : List Value} (h : w.ownsRow base e size v n xs) : ∀ k, v.ownBlock = some k → base ≤ k := fun k hk => (h.lt k hk).1


/-- append onto a row that the call owns, as one step of a region that draws. -/
theorem step_append_own {P : Program} {ops : Array Oper} {o : Oper} {a : Act} {w : World} {K : Act → World → Prop} {Q : Exit → Act → World → Prop} {E : Prop}
    (hg : o.guard = none) (s x : Operand) (t : TypeId) (hop : o.op = Op.call { callee := Callee.builtin Builtin.append, args := #[s, x], argTypes := #[t, t] })
    (base : Nat) (e : TypeId) (i : TypeInfo) (z : Value) (size bytes : Nat) (h1 : P.underlying t = some (.slice e)) (h2 : P.info? e = some i) (h3 : i.zero = some z) (h4 : i.size = size) (h5 : i.bytes = bytes) (h6 : z.cells.size = size) (h7 : 0 < size)
    (v : Value) (n : Nat) (xs : List Value) (hs : a.eval s = v) (hown : w.ownsRow base e size v n xs)
    (ad : Addr) (m c : Nat) (news : List Value) (hx : a.eval x = .slice (some ad) m c) (hn : news.length = m * size) (hc : ∀ j u, news[j]? = some u → w.cell? (ad.add j) = some u) (h1c : ∀ u ∈ news, u.oneCell' = true)
    (b1 : n + m ≤ maxLen) (b2 : (n + m) * bytes ≤ 140737488355328) (hb : base ≤ w.heap.size)
    (hK : ∀ v' w', w'.ownsRow base e size v' (n + m) (xs ++ news) → w.grownBy w' v.ownBlock → (v' = .slice none 0 0 ↔ v = .slice none 0 0 ∧ m = 0) → K (a.put o.dst v') w') :
    if Region.wanted o (yielded ops a.tmps) = true then Oper.wp P o a w K Q else E := by
  have hw : Region.wanted o (yielded ops a.tmps) = true := by simp [Region.wanted, hg]
  rw [if_pos hw]
  obtain ⟨v', w', hrun, r1, r2, r3⟩ := run_append_own (P := P) w base t o.type e i z size bytes h1 h2 h3 h4 h5 h6 h7 v n xs hown ad m c news hn hc h1c b1 b2 hb
  unfold Oper.wp
  simp [execOp, hop, resolve, invoke, builtin, hs, hx, hrun, Result.andThen]
  exact hK v' w' r1 r2 r3

/-- A row that holds something has its address. -/
theorem own_form {w : World} {base : Nat} {e : TypeId} {size : Nat} {v : Value} {n : Nat} {xs : List Value} (h : w.ownsRow base e size v n xs) (hn : 0 < n) : ∃ g cap, v = .slice (some ⟨g, 0, none⟩) n cap := by
  rcases h.2 with ⟨_, h0⟩ | ⟨g, cap, cur, hv, _⟩
  · omega
  · exact ⟨g, cap, hv⟩

/-- A new block stands behind whatever keeps it. -/
theorem new_kept {w w1 : World} {o : Obj} {X : Nat → Prop} (h : Kept X (w.alloc o) w1) (hX : ¬ X w.heap.size) : w1.heap[w.heap.size]? = some o := by
  rw [h.block w.heap.size (by simp) hX]
  exact heap_alloc_new w o


/-- append from a slice, nil or not, onto a row that the call owns; the operation guarded or not. -/
theorem wpList_append_all {P : Program} {w : World} {ops : Array Oper} {rest : List Oper} {o : Oper} {a : Act} {Q : Exit → Act → World → Prop} (hw : Region.wanted o (yielded ops a.tmps) = true) (s x : Operand) (t : TypeId)
    (ho : o.op = .call { callee := .builtin .append, args := #[s, x], argTypes := #[t, t] })
    (base : Nat) (e : TypeId) (i : TypeInfo) (z : Value) (size bytes : Nat) (ht : P.underlying t = some (.slice e)) (hi : P.info? e = some i) (hz : i.zero = some z)
    (hsize : i.size = size) (hby : i.bytes = bytes) (hzs : z.cells.size = size) (hsz : 0 < size)
    (v : Value) (n : Nat) (xs : List Value) (hs : a.eval s = v) (hown : w.ownsRow base e size v n xs)
    (ao : Option Addr) (m c : Nat) (news : List Value) (hx : a.eval x = .slice ao m c) (hnone : ao = none → m = 0 ∧ c = 0) (hl : news.length = m * size) (hnews : ∀ ad, ao = some ad → ∀ j u, news[j]? = some u → w.cell? (ad.add j) = some u) (h1 : ∀ u ∈ news, u.oneCell' = true)
    (h63 : n + m ≤ maxLen) (hbytes : (n + m) * bytes ≤ 140737488355328) (hbase : base ≤ w.heap.size)
    (h : ∀ v' w', w'.ownsRow base e size v' (n + m) (xs ++ news) → w.grownBy w' v.ownBlock → wpList P ops Q rest (a.put o.dst v') w') : wpList P ops Q (o :: rest) a w := by
  refine BigFrame.wpList_want hw fun K hK => ?_
  cases ao with
  | some ad => exact wp_append_own w s x t ho base e i z size bytes ht hi hz hsize hby hzs hsz v n xs hs hown ad m c news hx hl (hnews ad rfl) h1 h63 hbytes hbase fun v' w' h2 h3 _ => hK _ _ (h v' w' h2 h3)
  | none =>
    obtain ⟨rfl, rfl⟩ := hnone rfl
    obtain rfl : news = [] := List.length_eq_zero_iff.1 (by simpa using hl)
    have hrun := run_append_owned_none (P := P) (w := w) base t o.type e i size ht hi v n xs hown
    unfold Oper.wp
    simp only [execOp, ho, resolve, invoke, builtin, Sem.run_bind, Sem.run_pure, Result.andThen_ok, List.map_toArray, List.map_cons, List.map_nil, hs, hx, hrun]
    exact hK _ _ (h v w (by simpa using hown) ⟨rfl, rfl, rfl, Nat.le_refl _, fun _ _ _ => rfl⟩)

end Go.Proofs.Ytkkjchfhgjfclac
