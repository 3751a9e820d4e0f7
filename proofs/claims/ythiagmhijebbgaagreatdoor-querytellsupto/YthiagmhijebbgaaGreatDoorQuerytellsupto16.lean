import Derived.Test.YthiagmhijebbgaaGreatDoorQuerytellsupto02
import Derived.Test.YthiagmhijebbgaaGreatDoorQuerytellsupto15
import Derived.Maps.AppendAt
import Derived.Deep.DeepCutAuto
/- Selects in memory, with the blocks that they lie in. -/
namespace Go.Proofs.YthiagmhijebbgaaGreatDoor
open Go.RowKit

def ArgSlP (P : Nat → Prop) (w : World) (v : Value) (l : List ArgT) : Prop :=
  ∃ ao cap, v = .slice ao l.length cap ∧ (l.length ≤ maxLen ∧ l.length ≤ cap) ∧ ∀ i a, l[i]? = some a → ∃ b off, ao = some ⟨b, off, none⟩ ∧ P b ∧
    w.cell? ⟨b, off + i * 4, none⟩ = some (.string ⟨a.name.toArray⟩) ∧ w.cell? ⟨b, off + i * 4 + 1, none⟩ = some (.bool a.isText) ∧ w.cell? ⟨b, off + i * 4 + 2, none⟩ = some (.string ⟨a.text.toArray⟩) ∧ w.cell? ⟨b, off + i * 4 + 3, none⟩ = some (.int .i64 a.n)

def SelAtP (P : Nat → Prop) (w : World) : Sels → Nat → Nat → Prop
  | .nil, _, _ => True
  | .cons al nm args k r, b, off =>
    w.cell? ⟨b, off, none⟩ = some (.string ⟨al.toArray⟩) ∧ w.cell? ⟨b, off + 1, none⟩ = some (.string ⟨nm.toArray⟩) ∧
    (∃ va, w.cell? ⟨b, off + 2, none⟩ = some va ∧ ArgSlP P w va args) ∧
    (∃ ao cap, w.cell? ⟨b, off + 3, none⟩ = some (.slice ao k.len cap) ∧ (k.len ≤ maxLen ∧ k.len ≤ cap) ∧ (k = .nil ∨ ∃ b' o', ao = some ⟨b', o', none⟩ ∧ P b' ∧ SelAtP P w k b' o')) ∧
    SelAtP P w r b (off + 4)

/-- v is a slice of the selects f, in w, in blocks of which P holds -/
def SelSlP (P : Nat → Prop) (w : World) (v : Value) (f : Sels) : Prop :=
  ∃ ao cap, v = .slice ao f.len cap ∧ (f.len ≤ maxLen ∧ f.len ≤ cap) ∧ (f = .nil ∨ ∃ b o, ao = some ⟨b, o, none⟩ ∧ P b ∧ SelAtP P w f b o)

theorem ArgSlP.plain {P : Nat → Prop} {w : World} {v : Value} {l : List ArgT} (h : ArgSlP P w v l) : ArgSl w v l := by
  obtain ⟨ao, cap, hv, hl, hc⟩ := h
  refine ⟨ao, cap, hv, hl, fun i a ha => ?_⟩
  obtain ⟨b, off, e, _, h⟩ := hc i a ha
  exact ⟨b, off, e, h⟩
theorem SelAtP.plain {P : Nat → Prop} {w : World} : ∀ (f : Sels) (b off : Nat), SelAtP P w f b off → SelAt w f b off := by
  intro f
  induction f with
  | nil => intro b off _; trivial
  | cons al nm args k r ihk ihr =>
    rintro b off ⟨h0, h1, ⟨va, h2, ha⟩, ⟨ao, cap, h3, hl, hs⟩, hr⟩
    refine ⟨h0, h1, ⟨va, h2, ha.plain⟩, ⟨ao, cap, h3, hl, ?_⟩, ihr _ _ hr⟩
    rcases hs with rfl | ⟨b', o', e, _, hs⟩
    · exact .inl rfl
    · exact .inr ⟨b', o', e, ihk _ _ hs⟩
theorem SelSlP.plain {P : Nat → Prop} {w : World} {v : Value} {f : Sels} (h : SelSlP P w v f) : SelSl w v f := by
  obtain ⟨ao, cap, hv, hl, hs⟩ := h
  refine ⟨ao, cap, hv, hl, ?_⟩
  rcases hs with rfl | ⟨b, o, e, _, hs⟩
  · exact .inl rfl
  · exact .inr ⟨b, o, e, SelAtP.plain _ _ _ hs⟩

theorem ArgSlP.keep {P X Q : Nat → Prop} {w w' : World} {v : Value} {l : List ArgT} (h : ArgSlP P w v l) (hk : Kept X w w') (hx : ∀ b, b < w.heap.size → P b → ¬ X b ∧ Q b) : ArgSlP Q w' v l := by
  obtain ⟨ao, cap, hv, hl, hc⟩ := h
  refine ⟨ao, cap, hv, hl, fun i t ht => ?_⟩
  obtain ⟨b, off, ha, hp, h0, h1, h2, h3⟩ := hc i t ht
  obtain ⟨x, q⟩ := hx b (World.block_lt_of_cell? w _ h0) hp
  exact ⟨b, off, ha, q, hk.cell h0 x, hk.cell h1 x, hk.cell h2 x, hk.cell h3 x⟩

theorem SelAtP.keep {P X Q : Nat → Prop} {w w' : World} (hk : Kept X w w') (hx : ∀ b, b < w.heap.size → P b → ¬ X b ∧ Q b) : ∀ (f : Sels) (b off : Nat), ¬ X b → SelAtP P w f b off → SelAtP Q w' f b off := by
  intro f
  induction f with
  | nil => intro b off _ _; trivial
  | cons al nm args k r ihk ihr =>
    rintro b off hb ⟨h0, h1, ⟨va, h2, ha⟩, ⟨ao, cap, h3, hl, hs⟩, hr⟩
    refine ⟨hk.cell h0 hb, hk.cell h1 hb, ⟨va, hk.cell h2 hb, ha.keep hk hx⟩, ⟨ao, cap, hk.cell h3 hb, hl, ?_⟩, ihr _ _ hb hr⟩
    rcases hs with rfl | ⟨b', o', e, hp, hs⟩
    · exact .inl rfl
    · by_cases hn : k = .nil
      · exact .inl hn
      · have hlt : b' < w.heap.size := by
          cases k with
          | nil => exact absurd rfl hn
          | cons a1 a2 a3 a4 a5 => exact World.block_lt_of_cell? w _ hs.1
        obtain ⟨x, q⟩ := hx b' hlt hp
        exact .inr ⟨b', o', e, q, ihk _ _ x hs⟩

theorem SelSlP.keep {P X Q : Nat → Prop} {w w' : World} {v : Value} {f : Sels} (h : SelSlP P w v f) (hk : Kept X w w') (hx : ∀ b, b < w.heap.size → P b → ¬ X b ∧ Q b) : SelSlP Q w' v f := by
  obtain ⟨ao, cap, hv, hl, hs⟩ := h
  refine ⟨ao, cap, hv, hl, ?_⟩
  rcases hs with rfl | ⟨b, o, e, hp, hs⟩
  · exact .inl rfl
  · by_cases hn : f = .nil
    · exact .inl hn
    · have hlt : b < w.heap.size := by
        cases f with
        | nil => exact absurd rfl hn
        | cons a1 a2 a3 a4 a5 => exact World.block_lt_of_cell? w _ hs.1
      obtain ⟨x, q⟩ := hx b hlt hp
      exact .inr ⟨b, o, e, q, SelAtP.keep hk hx _ _ _ x hs⟩

theorem SelSlP.nil (P : Nat → Prop) (w : World) : SelSlP P w (.slice none 0 0) .nil := ⟨none, 0, rfl, ⟨Nat.zero_le _, Nat.le_refl _⟩, .inl rfl⟩
theorem ArgSlP.nil (P : Nat → Prop) (w : World) : ArgSlP P w (.slice none 0 0) [] := ⟨none, 0, rfl, ⟨Nat.zero_le _, Nat.le_refl _⟩, fun i a h => by simp at h⟩

/-- selects as cells: each with where its arguments and its own selects lie -/
structure SelC where
  al : List UInt8
  nm : List UInt8
  args : List ArgT
  k : Sels
  va : Value
  vk : Value

def selC (p : SelC) : List Value := [.string ⟨p.al.toArray⟩, .string ⟨p.nm.toArray⟩, p.va, p.vk]
def selCells (l : List SelC) : List Value := l.flatMap selC
def selsOf : List SelC → Sels
  | [] => .nil
  | p :: r => .cons p.al p.nm p.args p.k (selsOf r)
theorem selsOf_len (l : List SelC) : (selsOf l).len = l.length := by
  induction l with
  | nil => rfl
  | cons p r ih => rw [selsOf, Sels.len, ih]; rfl
theorem selsOf_app (a b : List SelC) : selsOf (a ++ b) = appS (selsOf a) (selsOf b) := by
  induction a with
  | nil => rfl
  | cons p r ih => rw [List.cons_append, selsOf, selsOf, appS, ih]
theorem selCells_app (a b : List SelC) : selCells (a ++ b) = selCells a ++ selCells b := by simp [selCells]

/-- what a select's parts lie in -/
def partsOk (P : Nat → Prop) (w : World) (p : SelC) : Prop := ArgSlP P w p.va p.args ∧ SelSlP P w p.vk p.k

theorem selAt_cells {P : Nat → Prop} {w : World} {b : Nat} (l : List SelC) : ∀ o, (∀ j u, (selCells l)[j]? = some u → w.cell? ⟨b, o + j, none⟩ = some u) → (∀ p ∈ l, partsOk P w p) → SelAtP P w (selsOf l) b o := by
  induction l with
  | nil => intro o _ _; trivial
  | cons p r ih =>
    intro o hc hp
    have e : selCells (p :: r) = .string ⟨p.al.toArray⟩ :: .string ⟨p.nm.toArray⟩ :: p.va :: p.vk :: selCells r := by simp [selCells, selC]
    obtain ⟨ha, hk⟩ := hp p (by simp)
    obtain ⟨ak, ck, hvk, hl, hs⟩ := hk
    have c3 := hc 3 p.vk (by rw [e]; rfl)
    rw [hvk] at c3
    refine ⟨hc 0 _ (by rw [e]; rfl), hc 1 _ (by rw [e]; rfl), ⟨p.va, hc 2 _ (by rw [e]; rfl), ha⟩, ⟨ak, ck, c3, hl, hs⟩, ih (o + 4) (fun j u hj => ?_) (fun x hx => hp x (by simp [hx]))⟩
    have := hc (j + 4) u (by rw [e]; simpa using hj)
    rw [show o + 4 + j = o + (j + 4) from by omega]
    exact this

end Go.Proofs.YthiagmhijebbgaaGreatDoor

/- tokens.Row: tokens put one behind another. -/
namespace Go.Proofs.YthiagmhijebbgaaGreatDoor
open Go.RowKit

/-- the row at q holds the tokens T, in memory of its own -/
def RowAt (w : World) (q : Nat) (T : List Tok) : Prop :=
  ∃ v, w.heap[q]? = some (.cells #[v] 49 (0, 0)) ∧ w.ownsRow (q + 1) 58 3 v T.length (tokCells T)

/-- a block of tokens -/
def TB (w : World) (k : Nat) : Prop := ∃ cur fz, w.heap[k]? = some (.cells cur 58 fz)

/-- nothing is turned but the row at q and, behind it, blocks of tokens -/
def KT (q : Nat) (w w' : World) : Prop := Kept (fun k => k = q ∨ (q < k ∧ TB w k)) w w'

theorem KT.refl (q : Nat) (w : World) : KT q w w := Kept.refl _ _
theorem KT.trans {q : Nat} {a b c : World} (h : KT q a b) (k : KT q b c) : KT q a c := by
  refine Kept.trans h k (fun i hi e => ?_)
  rcases e with e | ⟨e, cur, fz, hb⟩
  · exact .inl e
  · by_cases hx : i = q ∨ (q < i ∧ TB a i)
    · exact hx
    · exact .inr ⟨e, cur, fz, by rw [← h.block i hi hx]; exact hb⟩
theorem KT.of_same {q : Nat} {w w' : World} (h : Same w w') : KT q w w' := Same.to h
theorem KT.same {q : Nat} {w w' w0 : World} (h : KT q w w') (h0 : Same w0 w) (hq : w0.heap.size ≤ q) : Same w0 w' := h0.trans h (fun i hi e => by rcases e with e | e <;> omega)
theorem KT.blk {q g : Nat} {w w' : World} {x : Array Value} {t : TypeId} {fz : Nat × Nat} (h : KT q w w') (hb : w.heap[g]? = some (.cells x t fz)) (hg : g ≠ q) (ht : t ≠ 58) : w'.heap[g]? = some (.cells x t fz) := by
  rw [h.block g (Array.getElem?_eq_some_iff.1 hb).1 (fun e => by
    rcases e with e | ⟨_, cur, fz, hc⟩
    · exact hg e
    · rw [hb] at hc; cases hc; exact ht rfl)]
  exact hb
theorem KT.cell {q : Nat} {w w' : World} {p : Addr} {v : Value} (h : KT q w w') (hv : w.cell? p = some v) (hp : p.block < q) : w'.cell? p = some v := Kept.cell h hv (fun e => by rcases e with e | e <;> omega)

theorem RowAt.lt {w : World} {q : Nat} {T : List Tok} (h : RowAt w q T) : q < w.heap.size := by
  obtain ⟨v, hh, _⟩ := h
  exact (Array.getElem?_eq_some_iff.1 hh).1
theorem RowAt.same {w w' : World} {q : Nat} {T : List Tok} (h : RowAt w q T) (hk : Same w w') : RowAt w' q T := by
  have hl := h.lt
  obtain ⟨v, hh, ho⟩ := h
  exact ⟨v, by rw [hk.block q hl (fun f => f)]; exact hh, own_kept ho hk (fun _ _ f => f)⟩

theorem tokCells_len3 (l : List Tok) : (tokCells l).length = l.length * 3 := by
  induction l with
  | nil => rfl
  | cons t l ih => simp [tokCells, tokC] at ih ⊢; omega
theorem tokCells_1 (l : List Tok) : ∀ u ∈ tokCells l, u.oneCell' = true := by
  intro u hu
  simp only [tokCells, List.mem_flatMap, tokC] at hu
  obtain ⟨t, _, hu⟩ := hu
  simp at hu
  rcases hu with rfl | rfl | rfl <;> rfl

theorem new_toks (w : World) (l : List Tok) : ∀ j u, (tokCells l)[j]? = some u → (w.alloc (.cells (tokCells l).toArray 58)).cell? ((⟨w.heap.size, 0, none⟩ : Addr).add j) = some u := by
  intro j u hj
  rw [add_none, Nat.zero_add, World.cell?_alloc_new]
  simpa using hj

theorem grown_k {w w' : World} {row : Option Nat} (h : w.grownBy w' row) : Kept (fun k => some k = row) w w' :=
  ⟨h.os, h.tape, h.output, h.size, fun k hk hx => h.block k hk hx⟩

theorem blk_kept' {w w' : World} {g : Nat} {o : Obj} (h : w.heap[g]? = some o) (hk : Same w w') : w'.heap[g]? = some o := by
  rw [hk.block g (Array.getElem?_eq_some_iff.1 h).1 (fun f => f)]; exact h

set_option maxRecDepth 20000 in
set_option maxHeartbeats 800000 in
/-- tokens in a block of their own are put behind -/
theorem put_any (w : World) (q g : Nat) (T N : List Tok) (c : Nat) (h : RowAt w q T) (hn : ∀ j u, (tokCells N)[j]? = some u → w.cell? ((⟨g, 0, none⟩ : Addr).add j) = some u) (h0 : 0 < N.length) (hb : T.length + N.length ≤ 1000000) :
    Calls Tryz.prog 41 #[.pointer (some ⟨q, 0, none⟩), .slice (some ⟨g, 0, none⟩) N.length c] w fun e w' => e = .returned (.tuple #[]) ∧ RowAt w' q (T ++ N) ∧ KT q w w' := by
  have hq := h.lt
  obtain ⟨v, hh, hown⟩ := h
  obtain ⟨i0, hi, hz0, hz1, hz2⟩ := info_parts info39
  obtain ⟨ao, cap, rfl⟩ := own_slice hown
  have c0 : w.cell? ⟨q, 0, none⟩ = some (.slice ao T.length cap) := by simp [World.cell?, hh]
  have HH := hide hh
  clear hh
  go_enter Tryz.func41, Tryz.ntmps41
  go_wp2_with (at_builtin; refine wpList_append_own_at _ rfl _ _ 35 rfl (q + 1) 58 i0 _ 3 32 Tryz.underlying35 hi hz0 hz1 hz2 rfl (by decide) _ _ _ rfl hown ⟨g, 0, none⟩ N.length c (tokCells N) rfl (tokCells_len3 N) hn (tokCells_1 N) ?a3 ?a4 ?a5 ?_)
  case a3 => unfold maxLen; omega
  case a4 => omega
  case a5 => omega
  intro v2 w2 hown2 hgr2 _ _
  obtain ⟨g2, cap2, hv2⟩ := own_form hown2 (by omega)
  subst hv2
  have hX : ∀ k, some k = (Value.slice ao T.length cap).ownBlock → q < k ∧ TB w k := fun k e => by
    have h1 := (hown.lt k e.symm).1
    refine ⟨by omega, ?_⟩
    rcases hown.2 with ⟨e2, _⟩ | ⟨g', cap', cur, e2, _, hc, _⟩
    · have e3 : ao = none := by injection e2
      subst e3
      cases e
    · have e3 : ao = some ⟨g', 0, none⟩ := by injection e2
      subst e3
      cases e
      exact ⟨cur, _, hc⟩
  have hK2 := grown_k hgr2
  have hB2 : w2.heap[q]? = some (.cells #[.slice ao T.length cap] 49 (0, 0)) := by
    rw [hK2.block q hq (fun e => by have := (hX q e).1; omega)]; exact HH.out
  have d0 : w2.cell? ⟨q, 0, none⟩ = some (.slice ao T.length cap) := by simp [World.cell?, hB2]
  have f0 : w2.frozen? ⟨q, 0, none⟩ = false := by simp [World.frozen?, hB2]
  have hS : Kept (· = q) w2 (w2.setCell ⟨q, 0, none⟩ (.slice (some ⟨g2, 0, none⟩) (T.length + N.length) cap2)) := (Kept.refl _ w2).setB 0 _
  have HX := hide (And.intro (show RowAt (w2.setCell ⟨q, 0, none⟩ (.slice (some ⟨g2, 0, none⟩) (T.length + N.length) cap2)) q (T ++ N) from
    ⟨.slice (some ⟨g2, 0, none⟩) (T.length + N.length) cap2, by simp [World.setCell, Array.getElem?_modify, hB2], by
      have := own_kept hown2 hS (fun k hk e => by omega)
      rw [List.length_append, show tokCells (T ++ N) = tokCells T ++ tokCells N by simp [tokCells]]
      exact this⟩)
    (show KT q w (w2.setCell ⟨q, 0, none⟩ (.slice (some ⟨g2, 0, none⟩) (T.length + N.length) cap2)) from
      (hK2.mono (Y := fun k => k = q ∨ (q < k ∧ TB w k)) (fun k _ e => .inr (hX k e))).trans hS (fun k _ e => .inl e)))
  clear hX hK2 hB2 hS hgr2 hown2 hown hn
  go_wp2_with fail
  go_end0
  exact ⟨rfl, HX.out⟩

end Go.Proofs.YthiagmhijebbgaaGreatDoor

/- New tokens put into a row. -/
namespace Go.Proofs.YthiagmhijebbgaaGreatDoor
open Go.RowKit

/-- tokens in a new block are put -/
theorem put_new (w : World) (q : Nat) (T N : List Tok) (h : RowAt w q T) (h0 : 0 < N.length) (hb : T.length + N.length ≤ 1000000) :
    Calls Tryz.prog 41 #[.pointer (some ⟨q, 0, none⟩), .slice (some ⟨w.heap.size, 0, none⟩) N.length N.length] (w.alloc (.cells (tokCells N).toArray 58)) fun e w' => e = .returned (.tuple #[]) ∧ RowAt w' q (T ++ N) ∧ KT q w w' := by
  have kA : Same w (w.alloc (.cells (tokCells N).toArray 58)) := (Kept.refl _ w).alloc _
  refine (put_any _ q w.heap.size T N N.length (h.same kA) (new_toks w N) h0 hb).mono ?_
  rintro e w' ⟨h1, h2, h3⟩
  exact ⟨h1, h2, (KT.of_same kA).trans h3⟩

theorem put_1 (w : World) (q : Nat) (T : List Tok) (k1 n1 : Int) (s1 : List UInt8) (h : RowAt w q T) (hb : T.length ≤ 900000) :
    Calls Tryz.prog 41 #[.pointer (some ⟨q, 0, none⟩), .slice (some ⟨w.heap.size, 0, none⟩) 1 1] (w.alloc (.cells #[.int .i64 k1, .string ⟨s1.toArray⟩, .int .i64 n1] 58)) fun e w' => e = .returned (.tuple #[]) ∧ RowAt w' q (T ++ [⟨k1, s1, n1⟩]) ∧ KT q w w' :=
  put_new w q T [⟨k1, s1, n1⟩] h (by simp) (by simp; omega)

theorem put_2 (w : World) (q : Nat) (T : List Tok) (k1 n1 k2 n2 : Int) (s1 s2 : List UInt8) (h : RowAt w q T) (hb : T.length ≤ 900000) :
    Calls Tryz.prog 41 #[.pointer (some ⟨q, 0, none⟩), .slice (some ⟨w.heap.size, 0, none⟩) 2 2] (w.alloc (.cells #[.int .i64 k1, .string ⟨s1.toArray⟩, .int .i64 n1, .int .i64 k2, .string ⟨s2.toArray⟩, .int .i64 n2] 58)) fun e w' => e = .returned (.tuple #[]) ∧ RowAt w' q (T ++ [⟨k1, s1, n1⟩, ⟨k2, s2, n2⟩]) ∧ KT q w w' :=
  put_new w q T [⟨k1, s1, n1⟩, ⟨k2, s2, n2⟩] h (by simp) (by simp; omega)

theorem put_3 (w : World) (q : Nat) (T : List Tok) (k1 n1 k2 n2 k3 n3 : Int) (s1 s2 s3 : List UInt8) (h : RowAt w q T) (hb : T.length ≤ 900000) :
    Calls Tryz.prog 41 #[.pointer (some ⟨q, 0, none⟩), .slice (some ⟨w.heap.size, 0, none⟩) 3 3] (w.alloc (.cells #[.int .i64 k1, .string ⟨s1.toArray⟩, .int .i64 n1, .int .i64 k2, .string ⟨s2.toArray⟩, .int .i64 n2, .int .i64 k3, .string ⟨s3.toArray⟩, .int .i64 n3] 58)) fun e w' => e = .returned (.tuple #[]) ∧ RowAt w' q (T ++ [⟨k1, s1, n1⟩, ⟨k2, s2, n2⟩, ⟨k3, s3, n3⟩]) ∧ KT q w w' :=
  put_new w q T [⟨k1, s1, n1⟩, ⟨k2, s2, n2⟩, ⟨k3, s3, n3⟩] h (by simp) (by simp; omega)

end Go.Proofs.YthiagmhijebbgaaGreatDoor
