/- Schemas, in plain Lean: what Read, Check and Print of chapter 3 answer; what is printed is read as it was; in whatever order. No program is named here. -/
import Derived.Test.YtidodjbmlbjchaaGreatHistorystaysupto05
namespace Go.Proofs.YtidodjbmlbjchaaGreat

/-- A field: its name, its kind, of which type. -/
structure FieldT where
  name : List UInt8
  kind : Int
  of : List UInt8

/-- A type: its name, its fields. -/
structure TypeT where
  name : List UInt8
  fields : List FieldT

abbrev bNumber : List UInt8 := [78, 117, 109, 98, 101, 114]
abbrev bText : List UInt8 := [84, 101, 120, 116]
abbrev bId : List UInt8 := [105, 100]
abbrev bType : List UInt8 := [116, 121, 112, 101]

/-- the place of the first type of a name -/
def typeIx (l : List TypeT) (nm : List UInt8) : Nat := l.findIdx (fun t => decide (t.name = nm))
def hasT (l : List TypeT) (nm : List UInt8) : Bool := l.any (fun t => decide (t.name = nm))

def wrongKd (l : List TypeT) (f : FieldT) : Int :=
  if f.kind = 1 ∨ f.kind = 2 then (if f.of ≠ [] then 1 else 0) else if f.kind = 3 ∨ f.kind = 4 then (if hasT l f.of then 0 else 5) else 7

/-- what is wrong with a field, those ahead given -/
def wrongFd (l : List TypeT) (seen : List FieldT) (f : FieldT) : Int :=
  if wrongT (nameT f.name) ≠ 0 then wrongT (nameT f.name) else if f.name = bId then 4 else if seen.any (fun g => decide (g.name = f.name)) then 6 else wrongKd l f

def wrongFs (l : List TypeT) : List FieldT → List FieldT → Int
  | _, [] => 0
  | seen, f :: r => if wrongFd l seen f ≠ 0 then wrongFd l seen f else wrongFs l (seen ++ [f]) r

/-- what is wrong with a type, those ahead given -/
def wrongTy (l seen : List TypeT) (t : TypeT) : Int :=
  if wrongT (nameT t.name) ≠ 0 then wrongT (nameT t.name) else if t.name = bNumber ∨ t.name = bText then 4 else if hasT seen t.name then 6 else if t.fields.length = 0 then 5 else if 6 < t.fields.length then 2 else wrongFs l [] t.fields

def wrongTs (l : List TypeT) : List TypeT → List TypeT → Int
  | _, [] => 0
  | seen, t :: r => if wrongTy l seen t ≠ 0 then wrongTy l seen t else wrongTs l (seen ++ [t]) r

def checkSc (l : List TypeT) : Int := if l.length = 0 then 5 else if 5 < l.length then 2 else wrongTs l [] l

/-- a field's kind, as tokens -/
def kindToks (f : FieldT) : List Tok :=
  if f.kind = 1 then [nameT bNumber] else if f.kind = 2 then [nameT bText] else if f.kind = 3 then [nameT f.of] else if f.kind = 4 then [signT [91], nameT f.of, signT [93]] else []
def fieldToks : List FieldT → List Tok
  | [] => []
  | f :: r => nameT f.name :: signT [58] :: (kindToks f ++ fieldToks r)
def typeToks : List TypeT → List Tok
  | [] => []
  | t :: r => nameT bType :: nameT t.name :: signT [123] :: (fieldToks t.fields ++ signT [125] :: typeToks r)

/-- a field, off tokens -/
def pKind : List Tok → Option ((Int × List UInt8) × List Tok)
  | [] => none
  | a :: r => if isS 91 (a :: r) then (match r with | b :: c :: r2 => if b.k = 1 ∧ (c.k = 4 ∧ c.s = [93]) then some ((4, b.s), r2) else none | _ => none)
    else if a.k = 1 then some ((if a.s = bNumber then (1, []) else if a.s = bText then (2, []) else (3, a.s)), r) else none
def pField : List Tok → Option (FieldT × List Tok)
  | a :: b :: r => if a.k = 1 ∧ (b.k = 4 ∧ b.s = [58]) then (pKind r).map (fun x => (⟨a.s, x.1.1, x.1.2⟩, x.2)) else none
  | _ => none
def pFields : Nat → List Tok → Option (List FieldT × List Tok)
  | 0, _ => none
  | n + 1, r => match pField r with
    | none => none
    | some (f, r1) => if isS 125 r1 then some ([f], r1.tail) else (pFields n r1).map (fun x => (f :: x.1, x.2))
def pType : List Tok → Option (TypeT × List Tok)
  | a :: b :: c :: r => if (a.k = 1 ∧ a.s = bType) ∧ b.k = 1 ∧ (c.k = 4 ∧ c.s = [123]) then (pFields r.length r).map (fun x => (⟨b.s, x.1⟩, x.2)) else none
  | _ => none
def pTypes : Nat → List Tok → Option (List TypeT)
  | 0, _ => none
  | n + 1, r => match pType r with
    | none => none
    | some (t, r1) => match r1 with
      | [] => some [t]
      | u :: r2 => (pTypes n (u :: r2)).map (t :: ·)

def readSc (l : List UInt8) : Except Int (List TypeT) :=
  match lexRead l with
  | .error e => .error e
  | .ok T => match pTypes T.length T with
    | none => .error 1
    | some s => if checkSc s ≠ 0 then .error (checkSc s) else .ok s

def printSc (l : List TypeT) : List UInt8 := printF (typeToks l)

/-! what is printed is read as it was -/

def okKd (l : List TypeT) (f : FieldT) : Prop := ((f.kind = 1 ∨ f.kind = 2) ∧ f.of = []) ∨ ((f.kind = 3 ∨ f.kind = 4) ∧ hasT l f.of = true)

theorem wrongKd_iff (l : List TypeT) (f : FieldT) : wrongKd l f = 0 ↔ okKd l f := by
  unfold wrongKd okKd
  by_cases h1 : f.kind = 1 ∨ f.kind = 2
  · rw [if_pos h1]
    by_cases h2 : f.of = []
    · rw [if_neg (by simp [h2])]; exact ⟨fun _ => .inl ⟨h1, h2⟩, fun _ => rfl⟩
    · rw [if_pos h2]
      exact ⟨fun h => (by cases h), fun h => h.elim (fun h => absurd h.2 h2) (fun h => by omega)⟩
  · rw [if_neg h1]
    by_cases h2 : f.kind = 3 ∨ f.kind = 4
    · rw [if_pos h2]
      by_cases h3 : hasT l f.of = true
      · rw [if_pos h3]; exact ⟨fun _ => .inr ⟨h2, h3⟩, fun _ => rfl⟩
      · rw [if_neg h3]
        exact ⟨fun h => (by cases h), fun h => h.elim (fun h => absurd h.1 h1) (fun h => absurd h.2 h3)⟩
    · rw [if_neg h2]
      exact ⟨fun h => (by cases h), fun h => h.elim (fun h => absurd h.1 h1) (fun h => absurd h.1 h2)⟩

def okFd (l : List TypeT) (f : FieldT) : Prop := wrongT (nameT f.name) = 0 ∧ f.name ≠ bId ∧ okKd l f

theorem wrongFd_iff (l : List TypeT) (seen : List FieldT) (f : FieldT) : wrongFd l seen f = 0 ↔ okFd l f ∧ ∀ g ∈ seen, g.name ≠ f.name := by
  unfold wrongFd okFd
  by_cases h1 : wrongT (nameT f.name) = 0
  · rw [if_neg (by simp [h1])]
    by_cases h2 : f.name = bId
    · rw [if_pos h2]; exact ⟨fun h => (by cases h), fun h => absurd h2 h.1.2.1⟩
    · rw [if_neg h2]
      by_cases h3 : seen.any (fun g => decide (g.name = f.name)) = true
      · rw [if_pos h3]
        refine ⟨fun h => (by cases h), fun h => ?_⟩
        obtain ⟨g, hg, e⟩ := List.any_eq_true.1 h3
        exact absurd (of_decide_eq_true e) (h.2 g hg)
      · rw [if_neg h3, wrongKd_iff]
        refine ⟨fun h => ⟨⟨h1, h2, h⟩, fun g hg e => h3 (List.any_eq_true.2 ⟨g, hg, decide_eq_true e⟩)⟩, fun h => h.1.2.2⟩
  · rw [if_pos h1]; exact ⟨fun h => absurd h h1, fun h => absurd h.1.1 h1⟩

theorem wrongFs_iff (l : List TypeT) (r : List FieldT) : ∀ seen, wrongFs l seen r = 0 ↔ (∀ f ∈ r, okFd l f) ∧ (r.map (·.name)).Nodup ∧ ∀ f ∈ r, ∀ g ∈ seen, g.name ≠ f.name := by
  induction r with
  | nil => intro seen; simp [wrongFs]
  | cons f r ih =>
    intro seen
    rw [wrongFs]
    constructor
    · intro h
      by_cases h1 : wrongFd l seen f = 0
      · rw [if_neg (by simp [h1])] at h
        obtain ⟨a, b⟩ := (wrongFd_iff _ _ _).1 h1
        obtain ⟨c, d, e⟩ := (ih _).1 h
        refine ⟨fun x hx => ?_, ?_, fun x hx g hg => ?_⟩
        · rcases List.mem_cons.1 hx with rfl | hx
          · exact a
          · exact c x hx
        · rw [List.map_cons, List.nodup_cons]
          refine ⟨fun hx => ?_, d⟩
          obtain ⟨y, hy, e2⟩ := List.mem_map.1 hx
          exact e y hy f (by simp) e2.symm
        · rcases List.mem_cons.1 hx with rfl | hx
          · exact b g hg
          · exact e x hx g (by simp [hg])
      · rw [if_pos h1] at h; exact absurd h h1
    · rintro ⟨a, b, c⟩
      rw [List.map_cons, List.nodup_cons] at b
      have h1 : wrongFd l seen f = 0 := (wrongFd_iff _ _ _).2 ⟨a f (by simp), c f (by simp)⟩
      rw [if_neg (by simp [h1])]
      refine (ih _).2 ⟨fun x hx => a x (by simp [hx]), b.2, fun x hx g hg => ?_⟩
      rcases List.mem_append.1 hg with hg | hg
      · exact c x (by simp [hx]) g hg
      · simp only [List.mem_singleton] at hg
        subst hg
        exact fun e => b.1 (List.mem_map.2 ⟨x, hx, e.symm⟩)

def okTy (l : List TypeT) (t : TypeT) : Prop :=
  wrongT (nameT t.name) = 0 ∧ t.name ≠ bNumber ∧ t.name ≠ bText ∧ (t.fields.length ≠ 0 ∧ t.fields.length ≤ 6) ∧ (∀ f ∈ t.fields, okFd l f) ∧ (t.fields.map (·.name)).Nodup

theorem hasT_iff (l : List TypeT) (nm : List UInt8) : hasT l nm = true ↔ nm ∈ l.map (·.name) := by
  unfold hasT
  rw [List.any_eq_true, List.mem_map]
  exact ⟨fun ⟨t, h, e⟩ => ⟨t, h, of_decide_eq_true e⟩, fun ⟨t, h, e⟩ => ⟨t, h, decide_eq_true e⟩⟩

theorem wrongTy_iff (l seen : List TypeT) (t : TypeT) : wrongTy l seen t = 0 ↔ okTy l t ∧ t.name ∉ seen.map (·.name) := by
  unfold wrongTy okTy
  by_cases h1 : wrongT (nameT t.name) = 0
  · rw [if_neg (by simp [h1])]
    by_cases h2 : t.name = bNumber ∨ t.name = bText
    · rw [if_pos h2]
      exact ⟨fun h => (by cases h), fun h => h2.elim (fun e => absurd e h.1.2.1) (fun e => absurd e h.1.2.2.1)⟩
    · rw [if_neg h2]
      by_cases h3 : hasT seen t.name = true
      · rw [if_pos h3]
        exact ⟨fun h => (by cases h), fun h => absurd ((hasT_iff _ _).1 h3) h.2⟩
      · rw [if_neg h3]
        have h3' : t.name ∉ seen.map (·.name) := fun e => h3 ((hasT_iff _ _).2 e)
        by_cases h4 : t.fields.length = 0
        · rw [if_pos h4]; exact ⟨fun h => (by cases h), fun h => absurd h4 h.1.2.2.2.1.1⟩
        · rw [if_neg h4]
          by_cases h5 : 6 < t.fields.length
          · rw [if_pos h5]; exact ⟨fun h => (by cases h), fun h => absurd h.1.2.2.2.1.2 (by omega)⟩
          · rw [if_neg h5, wrongFs_iff]
            exact ⟨fun h => ⟨⟨h1, fun e => h2 (.inl e), fun e => h2 (.inr e), ⟨h4, by omega⟩, h.1, h.2.1⟩, h3'⟩, fun h => ⟨h.1.2.2.2.2.1, h.1.2.2.2.2.2, fun f _ g hg => by cases hg⟩⟩
  · rw [if_pos h1]; exact ⟨fun h => absurd h h1, fun h => absurd h.1.1 h1⟩

theorem wrongTs_iff (l r : List TypeT) : ∀ seen, wrongTs l seen r = 0 ↔ (∀ t ∈ r, okTy l t) ∧ (r.map (·.name)).Nodup ∧ ∀ t ∈ r, t.name ∉ seen.map (·.name) := by
  induction r with
  | nil => intro seen; simp [wrongTs]
  | cons t r ih =>
    intro seen
    rw [wrongTs]
    constructor
    · intro h
      by_cases h1 : wrongTy l seen t = 0
      · rw [if_neg (by simp [h1])] at h
        obtain ⟨a, b⟩ := (wrongTy_iff _ _ _).1 h1
        obtain ⟨c, d, e⟩ := (ih _).1 h
        refine ⟨fun x hx => ?_, ?_, fun x hx => ?_⟩
        · rcases List.mem_cons.1 hx with rfl | hx
          · exact a
          · exact c x hx
        · rw [List.map_cons, List.nodup_cons]
          refine ⟨fun hx => ?_, d⟩
          obtain ⟨y, hy, e2⟩ := List.mem_map.1 hx
          exact e y hy (by rw [e2]; simp)
        · rcases List.mem_cons.1 hx with rfl | hx
          · exact b
          · exact fun he => e x hx (by rw [List.map_append]; exact List.mem_append.2 (.inl he))
      · rw [if_pos h1] at h; exact absurd h h1
    · rintro ⟨a, b, c⟩
      rw [List.map_cons, List.nodup_cons] at b
      have h1 : wrongTy l seen t = 0 := (wrongTy_iff _ _ _).2 ⟨a t (by simp), c t (by simp)⟩
      rw [if_neg (by simp [h1])]
      refine (ih _).2 ⟨fun x hx => a x (by simp [hx]), b.2, fun x hx hg => ?_⟩
      rw [List.map_append] at hg
      rcases List.mem_append.1 hg with hg | hg
      · exact c x (by simp [hx]) hg
      · simp only [List.map_cons, List.map_nil, List.mem_singleton] at hg
        exact b.1 (List.mem_map.2 ⟨x, hx, hg⟩)

theorem checkSc_iff (l : List TypeT) : checkSc l = 0 ↔ (l.length ≠ 0 ∧ l.length ≤ 5) ∧ (∀ t ∈ l, okTy l t) ∧ (l.map (·.name)).Nodup := by
  unfold checkSc
  by_cases h1 : l.length = 0
  · rw [if_pos h1]; exact ⟨fun h => (by cases h), fun h => absurd h1 h.1.1⟩
  · rw [if_neg h1]
    by_cases h2 : 5 < l.length
    · rw [if_pos h2]; exact ⟨fun h => (by cases h), fun h => absurd h.1.2 (by omega)⟩
    · rw [if_neg h2, wrongTs_iff]
      exact ⟨fun h => ⟨⟨h1, by omega⟩, h.1, h.2.1⟩, fun h => ⟨h.2.1, h.2.2, fun t _ => by simp⟩⟩

/-- turned round, and its fields -/
def turnT (t : TypeT) : TypeT := ⟨t.name, t.fields.reverse⟩
def turnS (l : List TypeT) : List TypeT := (l.map turnT).reverse

theorem turnS_names (l : List TypeT) : (turnS l).map (·.name) = (l.map (·.name)).reverse := by
  unfold turnS
  rw [List.map_reverse, List.map_map]
  rfl

theorem okKd_turn {l : List TypeT} {f : FieldT} (h : okKd l f) : okKd (turnS l) f := by
  rcases h with h | ⟨h1, h2⟩
  · exact .inl h
  · refine .inr ⟨h1, ?_⟩
    rw [hasT_iff] at h2 ⊢
    rw [turnS_names]
    simpa using h2

theorem checkSc_turn {l : List TypeT} (h : checkSc l = 0) : checkSc (turnS l) = 0 := by
  obtain ⟨⟨h1, h2⟩, h3, h4⟩ := (checkSc_iff l).1 h
  refine (checkSc_iff _).2 ⟨⟨by simpa [turnS] using h1, by simpa [turnS] using h2⟩, fun t ht => ?_, ?_⟩
  · unfold turnS at ht
    rw [List.mem_reverse, List.mem_map] at ht
    obtain ⟨u, hu, rfl⟩ := ht
    obtain ⟨a, b, c, d, e, g⟩ := h3 u hu
    refine ⟨a, b, c, by simpa [turnT] using d, fun f hf => ?_, ?_⟩
    · simp only [turnT, List.mem_reverse] at hf
      obtain ⟨x, y, z⟩ := e f hf
      exact ⟨x, y, okKd_turn z⟩
    · simp only [turnT, List.map_reverse]
      exact (List.Perm.nodup_iff (List.reverse_perm _)).2 g
  · rw [turnS_names]
    exact (List.Perm.nodup_iff (List.reverse_perm _)).2 h4

theorem hasT_name {l : List TypeT} (h : checkSc l = 0) {nm : List UInt8} (hn : hasT l nm = true) : wrongT (nameT nm) = 0 ∧ nm ≠ bNumber ∧ nm ≠ bText := by
  obtain ⟨_, h3, _⟩ := (checkSc_iff l).1 h
  rw [hasT_iff] at hn
  obtain ⟨t, ht, rfl⟩ := List.mem_map.1 hn
  obtain ⟨a, b, c, _⟩ := h3 t ht
  exact ⟨a, b, c⟩

theorem pKind_put {l : List TypeT} (h : checkSc l = 0) {f : FieldT} (hf : okKd l f) (x : List Tok) : pKind (kindToks f ++ x) = some ((f.kind, f.of), x) := by
  obtain ⟨nm, kd, of⟩ := f
  unfold kindToks
  rcases hf with ⟨h1 | h1, h2⟩ | ⟨h1 | h1, h2⟩
  · simp only at h1 h2; subst h1 h2; simp [pKind, nameT, isS]
  · simp only at h1 h2; subst h1 h2; simp [pKind, nameT, isS]
  · simp only at h1 h2; subst h1
    obtain ⟨_, b, c⟩ := hasT_name h h2
    simp [pKind, nameT, isS, b, c]
  · simp only at h1 h2; subst h1
    simp [pKind, nameT, isS, signT]

theorem pFields_put {l : List TypeT} (h : checkSc l = 0) (r : List FieldT) : ∀ (n : Nat) (x : List Tok), r ≠ [] → (∀ f ∈ r, okKd l f) → r.length ≤ n → pFields n (fieldToks r ++ signT [125] :: x) = some (r, x) := by
  induction r with
  | nil => intro n x h; exact absurd rfl h
  | cons f r ih =>
    intro n x _ ho hn
    obtain ⟨n, rfl⟩ : ∃ g, n = g + 1 := ⟨n - 1, by simp at hn; omega⟩
    simp only [List.length_cons] at hn
    rw [pFields, fieldToks, List.cons_append, List.cons_append, List.append_assoc]
    have hp : pField (nameT f.name :: signT [58] :: (kindToks f ++ (fieldToks r ++ signT [125] :: x))) = some (f, fieldToks r ++ signT [125] :: x) := by
      rw [pField, if_pos (by simp [nameT, signT]), pKind_put h (ho f (by simp))]
      rfl
    rw [hp]
    simp only
    cases r with
    | nil => simp [fieldToks, isS_sign]
    | cons g r =>
      rw [if_neg (by rw [fieldToks, List.cons_append, isS_name]; simp), ih n x (by simp) (fun y hy => ho y (by simp [hy])) (by omega)]
      rfl

theorem fieldToks_len (r : List FieldT) : r.length ≤ (fieldToks r).length := by
  induction r with
  | nil => simp
  | cons f r ih => simp [fieldToks]; omega

theorem pTypes_put {l : List TypeT} (h : checkSc l = 0) (r : List TypeT) : ∀ (n : Nat), r ≠ [] → (∀ t ∈ r, okTy l t) → r.length ≤ n → pTypes n (typeToks r) = some r := by
  induction r with
  | nil => intro n h; exact absurd rfl h
  | cons t r ih =>
    intro n _ ho hn
    obtain ⟨n, rfl⟩ : ∃ g, n = g + 1 := ⟨n - 1, by simp at hn; omega⟩
    simp only [List.length_cons] at hn
    obtain ⟨_, _, _, h4, h5, _⟩ := ho t (by simp)
    rw [pTypes, typeToks]
    have hp : pType (nameT bType :: nameT t.name :: signT [123] :: (fieldToks t.fields ++ signT [125] :: typeToks r)) = some (t, typeToks r) := by
      rw [pType, if_pos (by simp [nameT, signT]), pFields_put h t.fields _ _ (by intro e; exact h4.1 (by rw [e]; rfl)) (fun f hf => (h5 f hf).2.2) (by have := fieldToks_len t.fields; simp; omega)]
      rfl
    rw [hp]
    simp only
    cases r with
    | nil => rfl
    | cons u r =>
      rw [typeToks]
      simp only
      have := ih n (by simp) (fun y hy => ho y (by simp [hy])) (by omega)
      rw [typeToks] at this
      rw [this]
      rfl

theorem typeToks_len (r : List TypeT) : r.length ≤ (typeToks r).length := by
  induction r with
  | nil => simp
  | cons f r ih => simp [typeToks]; omega

theorem okT_kind {l : List TypeT} (h : checkSc l = 0) {f : FieldT} (hf : okKd l f) : okT (kindToks f) := by
  unfold kindToks
  have n1 : wrongT (nameT bNumber) = 0 := by decide
  have n2 : wrongT (nameT bText) = 0 := by decide
  rcases hf with ⟨h1 | h1, h2⟩ | ⟨h1 | h1, h2⟩
  · rw [if_pos h1]; exact okT_cons n1 okT_nil
  · rw [if_neg (by omega), if_pos h1]; exact okT_cons n2 okT_nil
  · rw [if_neg (by omega), if_neg (by omega), if_pos h1]; exact okT_cons (hasT_name h h2).1 okT_nil
  · rw [if_neg (by omega), if_neg (by omega), if_neg (by omega), if_pos h1]
    exact okT_cons (sign_ok _ (by decide)) (okT_cons (hasT_name h h2).1 (okT_cons (sign_ok _ (by decide)) okT_nil))

theorem okT_fields {l : List TypeT} (h : checkSc l = 0) (r : List FieldT) (hr : ∀ f ∈ r, okFd l f) : okT (fieldToks r) := by
  induction r with
  | nil => exact okT_nil
  | cons f r ih =>
    obtain ⟨a, _, c⟩ := hr f (by simp)
    exact okT_cons a (okT_cons (sign_ok _ (by decide)) (okT_app (okT_kind h c) (ih (fun y hy => hr y (by simp [hy])))))

theorem okT_types {l : List TypeT} (h : checkSc l = 0) (r : List TypeT) (hr : ∀ t ∈ r, okTy l t) : okT (typeToks r) := by
  induction r with
  | nil => exact okT_nil
  | cons t r ih =>
    obtain ⟨a, _, _, _, e, _⟩ := hr t (by simp)
    have nt : wrongT (nameT bType) = 0 := by decide
    exact okT_cons nt (okT_cons a (okT_cons (sign_ok _ (by decide)) (okT_app (okT_fields h _ e) (okT_cons (sign_ok _ (by decide)) (ih (fun y hy => hr y (by simp [hy])))))))

/-! how long a print is: a type has at most 6 fields -/
def wgt (l : List Tok) : Nat := (l.map (fun t => if t.k = 1 then 13 else 2)).sum
theorem wgt_app (a b : List Tok) : wgt (a ++ b) = wgt a + wgt b := by simp [wgt]
theorem wgt_name (s : List UInt8) (l : List Tok) : wgt (nameT s :: l) = 13 + wgt l := by simp [wgt, nameT]
theorem wgt_sign (s : List UInt8) (l : List Tok) : wgt (signT s :: l) = 2 + wgt l := by simp [wgt, signT]
theorem wgt_nil : wgt [] = 0 := rfl

def plainT (l : List Tok) : Prop := ∀ t ∈ l, t.k = 1 ∨ t.k = 4
theorem plainT_nil : plainT [] := fun t h => by cases h
theorem plainT_name {s : List UInt8} {l : List Tok} (h : plainT l) : plainT (nameT s :: l) := by
  intro t ht
  rcases List.mem_cons.1 ht with rfl | ht
  · exact .inl rfl
  · exact h t ht
theorem plainT_sign {s : List UInt8} {l : List Tok} (h : plainT l) : plainT (signT s :: l) := by
  intro t ht
  rcases List.mem_cons.1 ht with rfl | ht
  · exact .inr rfl
  · exact h t ht
theorem plainT_app {a b : List Tok} (h : plainT a) (k : plainT b) : plainT (a ++ b) := by
  intro t ht
  rcases List.mem_append.1 ht with ht | ht
  · exact h t ht
  · exact k t ht

theorem kind_max (f : FieldT) : (kindToks f).length ≤ 3 ∧ wgt (kindToks f) ≤ 17 ∧ plainT (kindToks f) := by
  unfold kindToks
  split
  · exact ⟨by simp, by simp [wgt_name, wgt_nil], plainT_name plainT_nil⟩
  · split
    · exact ⟨by simp, by simp [wgt_name, wgt_nil], plainT_name plainT_nil⟩
    · split
      · exact ⟨by simp, by simp [wgt_name, wgt_nil], plainT_name plainT_nil⟩
      · split
        · exact ⟨by simp, by simp [wgt_name, wgt_sign, wgt_nil], plainT_sign (plainT_name (plainT_sign plainT_nil))⟩
        · exact ⟨by simp, by simp [wgt_nil], plainT_nil⟩

theorem fieldToks_max (r : List FieldT) : (fieldToks r).length ≤ 5 * r.length ∧ wgt (fieldToks r) ≤ 32 * r.length ∧ plainT (fieldToks r) := by
  induction r with
  | nil => exact ⟨by simp [fieldToks], by simp [fieldToks, wgt_nil], plainT_nil⟩
  | cons f r ih =>
    obtain ⟨h1, h2, h3⟩ := kind_max f
    obtain ⟨g1, g2, g3⟩ := ih
    refine ⟨by simp [fieldToks]; omega, ?_, plainT_name (plainT_sign (plainT_app h3 g3))⟩
    rw [fieldToks, wgt_name, wgt_sign, wgt_app, List.length_cons]
    omega

theorem typeToks_max (r : List TypeT) (h : ∀ t ∈ r, t.fields.length ≤ 6) : (typeToks r).length ≤ 34 * r.length ∧ wgt (typeToks r) ≤ 222 * r.length ∧ plainT (typeToks r) := by
  induction r with
  | nil => exact ⟨by simp [typeToks], by simp [typeToks, wgt_nil], plainT_nil⟩
  | cons t r ih =>
    obtain ⟨h1, h2, h3⟩ := fieldToks_max t.fields
    have h6 := h t (by simp)
    obtain ⟨g1, g2, g3⟩ := ih (fun u hu => h u (by simp [hu]))
    refine ⟨by simp [typeToks]; omega, ?_, plainT_name (plainT_name (plainT_sign (plainT_app h3 (plainT_sign g3))))⟩
    rw [typeToks, wgt_name, wgt_name, wgt_sign, wgt_app, wgt_sign, List.length_cons]
    omega

theorem written_max {l : List Tok} (h : okT l) (hk : plainT l) : (printF l).length ≤ wgt l := by
  induction l with
  | nil => simp [printF]
  | cons t r ih =>
    have hw := h t (by simp)
    have ht : (writtenT t).length + 1 ≤ wgt [t] := by
      unfold writtenT
      unfold wrongT at hw
      rcases hk t (by simp) with e | e
      · rw [if_neg (by omega), if_neg (by omega)]
        rw [if_pos e] at hw
        split at hw
        · cases hw
        · split at hw
          · cases hw
          · simp [wgt, e]; omega
      · rw [if_neg (by omega), if_neg (by omega)]
        rw [if_neg (by omega), if_neg (by omega), if_neg (by omega), if_pos e] at hw
        split at hw
        · cases hw
        · rename_i hh
          have : t.s.length = 1 := Classical.byContradiction fun x => hh (.inr (.inl x))
          simp [wgt, e]; omega
    have ih := ih (fun u hu => h u (by simp [hu])) (fun u hu => hk u (by simp [hu]))
    have hs : wgt (t :: r) = wgt [t] + wgt r := wgt_app [t] r
    rw [hs]
    cases r with
    | nil => simp [printF]; omega
    | cons u r =>
      rw [printF]
      · rw [List.length_append, List.length_cons]; omega
      · simp

/-- WHAT IS PRINTED IS READ AS IT WAS -/
theorem readSc_print {l : List TypeT} (h : checkSc l = 0) : readSc (printSc l) = .ok l := by
  obtain ⟨⟨h1, h2⟩, h3, _⟩ := (checkSc_iff l).1 h
  have hok := okT_types h l h3
  obtain ⟨m1, m2, m3⟩ := typeToks_max l (fun t ht => (h3 t ht).2.2.2.1.2)
  have hl : lexCheck (typeToks l) = 0 := by rw [lexCheck, if_neg (by omega), okT_check hok]
  have hr := lexRead_print hl (by have := written_max hok m3; omega)
  rw [readSc, printSc, hr]
  simp only [pTypes_put h l _ (by intro e; exact h1 (by rw [e]; rfl)) h3 (typeToks_len l), h]
  rfl

theorem readSc_right {l : List UInt8} {s : List TypeT} (h : readSc l = .ok s) : checkSc s = 0 := by
  rw [readSc] at h
  cases hl : lexRead l with
  | error e => rw [hl] at h; cases h
  | ok T =>
    rw [hl] at h
    simp only at h
    cases hp : pTypes T.length T with
    | none => rw [hp] at h; cases h
    | some s2 =>
      rw [hp] at h
      simp only at h
      split at h
      · cases h
      · rename_i hc
        cases h
        simpa using hc

end Go.Proofs.YtidodjbmlbjchaaGreat
