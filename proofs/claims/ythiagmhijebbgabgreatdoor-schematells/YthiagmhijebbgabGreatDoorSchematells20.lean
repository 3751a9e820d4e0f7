/- schema.readType, whatever comes. -/
import Derived.Test.YthiagmhijebbgabGreatDoorSchematells19
namespace Go.Proofs.YthiagmhijebbgabGreatDoor
open Go.RowKit

theorem pField_len {r r' : List Tok} {f : FieldT} (h : pField r = some (f, r')) : r'.length + 3 ≤ r.length := by
  match r, h with
  | a :: b :: r, h =>
    rw [pField] at h
    split at h
    · cases hk : pKind r with
      | none => rw [hk] at h; cases h
      | some x =>
        rw [hk] at h
        cases h
        have : x.2.length + 1 ≤ r.length := by
          cases r with
          | nil => cases hk
          | cons a r =>
            unfold pKind at hk
            dsimp only at hk
            split at hk
            · match r, hk with
              | b :: c :: r, hk =>
                dsimp only at hk
                split at hk
                · cases hk; simp
                · cases hk
              | [], hk => cases hk
              | [_], hk => cases hk
            · split at hk
              · cases hk; simp
              · cases hk
        simp; omega
    · cases h
  | [], h => cases h
  | [_], h => cases h

/-- how far the fields have been read: acc are read, rj is next -/
def fRel (r0 : List Tok) (g : Nat) (rj : List Tok) (acc : List FieldT) : Prop := pFields r0.length r0 = (pFields g rj).map (fun x => (acc ++ x.1, x.2))
theorem fRel.start (r0 : List Tok) : fRel r0 r0.length r0 [] := by
  unfold fRel
  cases pFields r0.length r0 <;> simp
theorem fRel.bad {r0 rj : List Tok} {g : Nat} {acc : List FieldT} (h : fRel r0 g rj acc) (hp : pField rj = none) : pFields r0.length r0 = none := by
  rw [h]
  cases g with
  | zero => rfl
  | succ g => rw [pFields, hp]; rfl
theorem fRel.last {r0 rj r1 : List Tok} {g : Nat} {acc : List FieldT} {f : FieldT} (h : fRel r0 (g + 1) rj acc) (hp : pField rj = some (f, r1)) (hs : isS 125 r1 = true) : pFields r0.length r0 = some (acc ++ [f], r1.tail) := by
  rw [h, pFields, hp]
  simp only [hs, if_true, Option.map_some]
theorem fRel.step {r0 rj r1 : List Tok} {g : Nat} {acc : List FieldT} {f : FieldT} (h : fRel r0 (g + 1) rj acc) (hp : pField rj = some (f, r1)) (hs : isS 125 r1 = false) : fRel r0 g r1 (acc ++ [f]) := by
  unfold fRel
  rw [h, pFields, hp]
  simp only [hs]
  cases pFields g r1 <;> simp

def fldCells (l : List FieldT) : List Value := l.flatMap fldC
theorem fldCells_snoc (l : List FieldT) (f : FieldT) : fldCells (l ++ [f]) = fldCells l ++ fldC f := by simp [fldCells]
theorem fldC_one (f : FieldT) : ∀ u ∈ fldC f, u.oneCell' = true := by intro u hu; simp [fldC] at hu; rcases hu with rfl | rfl | rfl <;> rfl

theorem fldCells_get (l : List FieldT) : ∀ (i : Nat) (f : FieldT), l[i]? = some f → (fldCells l)[3 * i]? = some (.string ⟨f.name.toArray⟩) ∧ (fldCells l)[3 * i + 1]? = some (.int .i64 f.kind) ∧ (fldCells l)[3 * i + 2]? = some (.string ⟨f.of.toArray⟩) := by
  induction l with
  | nil => intro i t h; simp at h
  | cons x r ih =>
    intro i t h
    have e : fldCells (x :: r) = .string ⟨x.name.toArray⟩ :: .int .i64 x.kind :: .string ⟨x.of.toArray⟩ :: fldCells r := by simp [fldCells, fldC]
    cases i with
    | zero => simp at h; subst h; rw [e]; simp
    | succ i =>
      simp at h
      have := ih i t h
      rw [e, show 3 * (i + 1) = 3 * i + 1 + 1 + 1 from by omega, show 3 * i + 1 + 1 + 1 + 1 = (3 * i + 1) + 1 + 1 + 1 from rfl, show 3 * i + 1 + 1 + 1 + 2 = (3 * i + 2) + 1 + 1 + 1 from by omega]
      simpa using this

/-- a row of fields that the call owns is a slice of fields -/
theorem own_flds {w : World} {base : Nat} {v : Value} {l : List FieldT} (h : w.ownsRow base 40 3 v l.length (fldCells l)) (hl : l.length ≤ 9000000000000) : FldSl (fun b => base ≤ b) w v l := by
  have hc := fun g => World.ownsRow.cells h (g := g)
  rcases h.2 with ⟨rfl, h0⟩ | ⟨g, cap, cur, rfl, hg, hb, hc1, hc2, hc3, htk⟩
  · obtain rfl : l = [] := List.length_eq_zero_iff.1 h0
    exact FldSl.nil _ w
  · refine ⟨_, cap, rfl, ⟨by unfold maxLen; omega, hc1⟩, fun i t ht => ⟨g, 0, rfl, hg, ?_⟩⟩
    obtain ⟨h1, h2, h3⟩ := fldCells_get l i t ht
    have k1 := hc g rfl _ _ h1
    have k2 := hc g rfl _ _ h2
    have k3 := hc g rfl _ _ h3
    rw [add_none] at k1 k2 k3
    rw [show 0 + i * 3 = 0 + 3 * i from by omega]
    exact ⟨k1, k2, k3⟩

theorem infoF : (Tryz.prog.info? 40).map (fun i => (i.zero, i.size, i.bytes)) = some (some (.agg #[.string ⟨#[]⟩, .int .i64 0, .string ⟨#[]⟩]), 3, 40) := by kernel_rfl

theorem enters_readField (args : Array Value) (w : World) : (callFunc 106 args).run Tryz.prog w = .ok (.enter 106 args) w := by kernel_rfl

theorem readField_ok (w : World) (q : Nat) (r r' : List Tok) (f : FieldT) (h : LineAt w q r) (hp : pField r = some (f, r')) :
    Calls Tryz.prog 106 #[.pointer (some ⟨q, 0, none⟩)] w fun e w' => e = .returned (.agg #[.string ⟨f.name.toArray⟩, .int .i64 f.kind, .string ⟨f.of.toArray⟩]) ∧ LineAt w' q r' ∧ Kept (· = q) w w' := by
  refine (readField_any w q r h).mono ?_
  rintro e w' (⟨f', r2, h1, h2, h3, h4⟩ | ⟨h1, _, _⟩)
  · rw [hp] at h1; cases h1; exact ⟨h2, h3, h4⟩
  · rw [hp] at h1; cases h1
theorem readField_no (w : World) (q : Nat) (r : List Tok) (h : LineAt w q r) (hp : pField r = none) :
    Calls Tryz.prog 106 #[.pointer (some ⟨q, 0, none⟩)] w fun e w' => e = fault 1 ∧ Kept (· = q) w w' := by
  refine (readField_any w q r h).mono ?_
  rintro e w' (⟨f', r2, h1, h2, h3, h4⟩ | ⟨_, h2, h3⟩)
  · rw [hp] at h1; cases h1
  · exact ⟨h2, h3⟩

theorem pType_none1 {r : List Tok} (h : ∀ t r', r = t :: r' → ¬ (t.k = 1 ∧ t.s = bType)) : pType r = none := by
  match r with
  | [] => rfl
  | [_] => rfl
  | [_, _] => rfl
  | a :: b :: c :: r => rw [pType, if_neg (fun e => h a _ rfl e.1)]
theorem pType_none2 {a : Tok} {r : List Tok} (h : ∀ t r', r = t :: r' → t.k ≠ 1) : pType (a :: r) = none := by
  match r with
  | [] => rfl
  | [_] => rfl
  | b :: c :: r => rw [pType, if_neg (fun e => h b _ rfl e.2.1)]
theorem pType_none3 {a b : Tok} {r : List Tok} (h : isS 123 r = false) : pType (a :: b :: r) = none := by
  match r with
  | [] => rfl
  | c :: r => rw [pType, if_neg (fun e => by rw [isS_of.2 e.2.2] at h; cases h)]
theorem pType_some {a b c : Tok} {r : List Tok} (h1 : a.k = 1 ∧ a.s = bType) (h2 : b.k = 1) (h3 : isS 123 (c :: r) = true) : pType (a :: b :: c :: r) = (pFields r.length r).map (fun x => (⟨b.s, x.1⟩, x.2)) := by
  rw [pType, if_pos ⟨h1, h2, isS_of.1 h3⟩]

end Go.Proofs.YthiagmhijebbgabGreatDoor
