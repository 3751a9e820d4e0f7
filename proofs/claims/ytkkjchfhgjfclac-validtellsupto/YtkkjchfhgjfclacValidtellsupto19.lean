/- Selects in memory, with the blocks that they lie in. -/
import Derived.Test.YtkkjchfhgjfclacValidtellsupto11
import Derived.Test.YtkkjchfhgjfclacValidtellsupto07
namespace Go.Proofs.Ytkkjchfhgjfclac
open Go.RowKit

def ArgSlP (P : Nat → Prop) (w : World) (v : Value) (l : List ArgT) : Prop :=
  ∃ ao cap, v = .slice ao l.length cap ∧ (l.length ≤ maxLen ∧ l.length ≤ cap) ∧ ∀ i a, l[i]? = some a → ∃ b off, ao = some ⟨b, off, none⟩ ∧ P b ∧
    w.cell? ⟨b, off + i * 4, none⟩ = some (.string ⟨a.name.toArray⟩) ∧ w.cell? ⟨b, off + i * 4 + 1, none⟩ = some (.bool a.isText) ∧ w.cell? ⟨b, off + i * 4 + 2, none⟩ = some (.string ⟨a.text.toArray⟩) ∧ w.cell? ⟨b, off + i * 4 + 3, none⟩ = some (.int .i64 a.n)

def SelAtP (P : Nat → Prop) (w : World) : Sels → Nat → Nat → Prop
  | .nil, _, _ => True
  | .cons al nm args k r, b, off =>
    w.cell? ⟨b, off, none⟩ = some (.string ⟨al.toArray⟩) ∧ w.cell? ⟨b, off + 1, none⟩ = some (.string ⟨nm.toArray⟩) ∧
    (∃ va, w.cell? ⟨b, off + 2, none⟩ = some va ∧ ArgSlP P w va args) ∧
    (∃ ao cap, w.cell? ⟨b, off + 3, none⟩ = some (.slice ao k.len cap) ∧ (k.len ≤ maxLen ∧ k.len ≤ cap) ∧ (k = .nil ∨ ∃ b' o', ao = some ⟨b', o', none⟩ ∧ P b' ∧ SelAtP P w k b' o')) ∧
    SelAtP P w r b (off + 4)

/-- v is a slice of the selects f, in w, in blocks of which P holds -/
def SelSlP (P : Nat → Prop) (w : World) (v : Value) (f : Sels) : Prop :=
  ∃ ao cap, v = .slice ao f.len cap ∧ (f.len ≤ maxLen ∧ f.len ≤ cap) ∧ (f = .nil ∨ ∃ b o, ao = some ⟨b, o, none⟩ ∧ P b ∧ SelAtP P w f b o)

theorem ArgSlP.plain {P : Nat → Prop} {w : World} {v : Value} {l : List ArgT} (h : ArgSlP P w v l) : ArgSl w v l := by
  obtain ⟨ao, cap, hv, hl, hc⟩ := h
  refine ⟨ao, cap, hv, hl, fun i a ha => ?_⟩
  obtain ⟨b, off, e, _, h⟩ := hc i a ha
  exact ⟨b, off, e, h⟩
theorem SelAtP.plain {P : Nat → Prop} {w : World} : ∀ (f : Sels) (b off : Nat), SelAtP P w f b off → SelAt w f b off := by
  intro f
  induction f with
  | nil => intro b off _; trivial
  | cons al nm args k r ihk ihr =>
    rintro b off ⟨h0, h1, ⟨va, h2, ha⟩, ⟨ao, cap, h3, hl, hs⟩, hr⟩
    refine ⟨h0, h1, ⟨va, h2, ha.plain⟩, ⟨ao, cap, h3, hl, ?_⟩, ihr _ _ hr⟩
    rcases hs with rfl | ⟨b', o', e, _, hs⟩
    · exact .inl rfl
    · exact .inr ⟨b', o', e, ihk _ _ hs⟩
theorem SelSlP.plain {P : Nat → Prop} {w : World} {v : Value} {f : Sels} (h : SelSlP P w v f) : SelSl w v f := by
  obtain ⟨ao, cap, hv, hl, hs⟩ := h
  refine ⟨ao, cap, hv, hl, ?_⟩
  rcases hs with rfl | ⟨b, o, e, _, hs⟩
  · exact .inl rfl
  · exact .inr ⟨b, o, e, SelAtP.plain _ _ _ hs⟩

theorem ArgSlP.keep {P X Q : Nat → Prop} {w w' : World} {v : Value} {l : List ArgT} (h : ArgSlP P w v l) (hk : Kept X w w') (hx : ∀ b, b < w.heap.size → P b → ¬ X b ∧ Q b) : ArgSlP Q w' v l := by
  obtain ⟨ao, cap, hv, hl, hc⟩ := h
  refine ⟨ao, cap, hv, hl, fun i t ht => ?_⟩
  obtain ⟨b, off, ha, hp, h0, h1, h2, h3⟩ := hc i t ht
  obtain ⟨x, q⟩ := hx b (World.block_lt_of_cell? w _ h0) hp
  exact ⟨b, off, ha, q, hk.cell h0 x, hk.cell h1 x, hk.cell h2 x, hk.cell h3 x⟩

theorem SelAtP.keep {P X Q : Nat → Prop} {w w' : World} (hk : Kept X w w') (hx : ∀ b, b < w.heap.size → P b → ¬ X b ∧ Q b) : ∀ (f : Sels) (b off : Nat), ¬ X b → SelAtP P w f b off → SelAtP Q w' f b off := by
  intro f
  induction f with
  | nil => intro b off _ _; trivial
  | cons al nm args k r ihk ihr =>
    rintro b off hb ⟨h0, h1, ⟨va, h2, ha⟩, ⟨ao, cap, h3, hl, hs⟩, hr⟩
    refine ⟨hk.cell h0 hb, hk.cell h1 hb, ⟨va, hk.cell h2 hb, ha.keep hk hx⟩, ⟨ao, cap, hk.cell h3 hb, hl, ?_⟩, ihr _ _ hb hr⟩
    rcases hs with rfl | ⟨b', o', e, hp, hs⟩
    · exact .inl rfl
    · by_cases hn : k = .nil
      · exact .inl hn
      · have hlt : b' < w.heap.size := by
          cases k with
          | nil => exact absurd rfl hn
          | cons a1 a2 a3 a4 a5 => exact World.block_lt_of_cell? w _ hs.1
        obtain ⟨x, q⟩ := hx b' hlt hp
        exact .inr ⟨b', o', e, q, ihk _ _ x hs⟩

theorem SelSlP.keep {P X Q : Nat → Prop} {w w' : World} {v : Value} {f : Sels} (h : SelSlP P w v f) (hk : Kept X w w') (hx : ∀ b, b < w.heap.size → P b → ¬ X b ∧ Q b) : SelSlP Q w' v f := by
  obtain ⟨ao, cap, hv, hl, hs⟩ := h
  refine ⟨ao, cap, hv, hl, ?_⟩
  rcases hs with rfl | ⟨b, o, e, hp, hs⟩
  · exact .inl rfl
  · by_cases hn : f = .nil
    · exact .inl hn
    · have hlt : b < w.heap.size := by
        cases f with
        | nil => exact absurd rfl hn
        | cons a1 a2 a3 a4 a5 => exact World.block_lt_of_cell? w _ hs.1
      obtain ⟨x, q⟩ := hx b hlt hp
      exact .inr ⟨b, o, e, q, SelAtP.keep hk hx _ _ _ x hs⟩

theorem SelSlP.nil (P : Nat → Prop) (w : World) : SelSlP P w (.slice none 0 0) .nil := ⟨none, 0, rfl, ⟨Nat.zero_le _, Nat.le_refl _⟩, .inl rfl⟩
theorem ArgSlP.nil (P : Nat → Prop) (w : World) : ArgSlP P w (.slice none 0 0) [] := ⟨none, 0, rfl, ⟨Nat.zero_le _, Nat.le_refl _⟩, fun i a h => by simp at h⟩

/-- selects as cells: each with where its arguments and its own selects lie -/
structure SelC where
  al : List UInt8
  nm : List UInt8
  args : List ArgT
  k : Sels
  va : Value
  vk : Value

def selC (p : SelC) : List Value := [.string ⟨p.al.toArray⟩, .string ⟨p.nm.toArray⟩, p.va, p.vk]
def selCells (l : List SelC) : List Value := l.flatMap selC
def selsOf : List SelC → Sels
  | [] => .nil
  | p :: r => .cons p.al p.nm p.args p.k (selsOf r)
theorem selsOf_len (l : List SelC) : (selsOf l).len = l.length := by
  induction l with
  | nil => rfl
  | cons p r ih => rw [selsOf, Sels.len, ih]; rfl
theorem selsOf_app (a b : List SelC) : selsOf (a ++ b) = appS (selsOf a) (selsOf b) := by
  induction a with
  | nil => rfl
  | cons p r ih => rw [List.cons_append, selsOf, selsOf, appS, ih]
theorem selCells_app (a b : List SelC) : selCells (a ++ b) = selCells a ++ selCells b := by simp [selCells]

/-- what a select's parts lie in -/
def partsOk (P : Nat → Prop) (w : World) (p : SelC) : Prop := ArgSlP P w p.va p.args ∧ SelSlP P w p.vk p.k

theorem selAt_cells {P : Nat → Prop} {w : World} {b : Nat} (l : List SelC) : ∀ o, (∀ j u, (selCells l)[j]? = some u → w.cell? ⟨b, o + j, none⟩ = some u) → (∀ p ∈ l, partsOk P w p) → SelAtP P w (selsOf l) b o := by
  induction l with
  | nil => intro o _ _; trivial
  | cons p r ih =>
    intro o hc hp
    have e : selCells (p :: r) = .string ⟨p.al.toArray⟩ :: .string ⟨p.nm.toArray⟩ :: p.va :: p.vk :: selCells r := by simp [selCells, selC]
    obtain ⟨ha, hk⟩ := hp p (by simp)
    obtain ⟨ak, ck, hvk, hl, hs⟩ := hk
    have c3 := hc 3 p.vk (by rw [e]; rfl)
    rw [hvk] at c3
    refine ⟨hc 0 _ (by rw [e]; rfl), hc 1 _ (by rw [e]; rfl), ⟨p.va, hc 2 _ (by rw [e]; rfl), ha⟩, ⟨ak, ck, c3, hl, hs⟩, ih (o + 4) (fun j u hj => ?_) (fun x hx => hp x (by simp [hx]))⟩
    have := hc (j + 4) u (by rw [e]; simpa using hj)
    rw [show o + 4 + j = o + (j + 4) from by omega]
    exact this

theorem SelSl.below {w : World} {v : Value} {f : Sels} (h : SelSl w v f) : SelSlP (· < w.heap.size) w v f := by
  have hArg : ∀ (v : Value) (l : List ArgT), ArgSl w v l → ArgSlP (· < w.heap.size) w v l := by
    rintro v l ⟨ao, cap, hv, hl, hc⟩
    refine ⟨ao, cap, hv, hl, fun i a ha => ?_⟩
    obtain ⟨b, off, e, h0, h1⟩ := hc i a ha
    exact ⟨b, off, e, World.block_lt_of_cell? w _ h0, h0, h1⟩
  have hAt : ∀ (f : Sels) (b off : Nat), SelAt w f b off → SelAtP (· < w.heap.size) w f b off := by
    intro f
    induction f with
    | nil => intro b off _; trivial
    | cons al nm args k r ihk ihr =>
      rintro b off ⟨h0, h1, ⟨va, h2, ha⟩, ⟨ao, cap, h3, hl, hs⟩, hr⟩
      refine ⟨h0, h1, ⟨va, h2, hArg _ _ ha⟩, ⟨ao, cap, h3, hl, ?_⟩, ihr _ _ hr⟩
      cases k with
      | nil => exact .inl rfl
      | cons a1 a2 a3 a4 a5 =>
        rcases hs with hs | ⟨b', o', e, hs⟩
        · cases hs
        · exact .inr ⟨b', o', e, World.block_lt_of_cell? w _ hs.1, ihk _ _ hs⟩
  obtain ⟨ao, cap, hv, hl, hs⟩ := h
  refine ⟨ao, cap, hv, hl, ?_⟩
  cases f with
  | nil => exact .inl rfl
  | cons a1 a2 a3 a4 a5 =>
    rcases hs with hs | ⟨b, o, e, hs⟩
    · cases hs
    · exact .inr ⟨b, o, e, World.block_lt_of_cell? w _ hs.1, hAt _ _ _ hs⟩

end Go.Proofs.Ytkkjchfhgjfclac
