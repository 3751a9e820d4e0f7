/- query.readSelect: what it wants. -/
import Derived.Test.YtkkjchfhgjfclaaGreatDoorQuerytellsupto21
import Derived.Test.YtkkjchfhgjfclaaGreatDoorQuerytellsupto16
import Derived.Deep.DeepCutAuto
namespace Go.Proofs.YtkkjchfhgjfclaaGreatDoor
open Go.RowKit

theorem skip_b (w : World) (q : Nat) (r : List Tok) (c : UInt8) (h : LineAt w q r) (b : Bool) (hb : isS c r = b) :
    Calls Tryz.prog 64 #[.pointer (some ⟨q, 0, none⟩), .string ⟨#[c]⟩] w fun e w' => e = .returned (.bool b) ∧ LineAt w' q (bif b then r.tail else r) ∧ Kept (· = q) w w' := by
  refine (skip_any w q r c h).mono ?_
  rintro e w' (⟨t, r', h1, h2, h3, h4, h5⟩ | ⟨h1, h2, h3⟩)
  · rw [hb] at h2
    subst h2
    rw [h1]
    exact ⟨h3, h4, h5⟩
  · rw [hb] at h1
    subst h1 h3
    exact ⟨h2, h, Kept.refl _ _⟩

/-- a select, what is selected of it read with f left -/
def pSel1 (f : Nat) (r : List Tok) : Option ((List UInt8 × List UInt8 × List ArgT × Sels) × List Tok) :=
  match pName r with
  | none => none
  | some (an, r1) => match pOpt r1 with
    | none => none
    | some (args, r2) => (if isS 123 r2 then pSels f r2.tail else some (.nil, r2)).map (fun x => ((an.1, an.2, args, x.1), x.2))

theorem pSels_1 (f : Nat) (r : List Tok) : pSels (f + 1) r = match pSel1 f r with
    | none => none
    | some (x, r3) => if isS 125 r3 then some (.cons x.1 x.2.1 x.2.2.1 x.2.2.2 .nil, r3.tail) else (pSels f r3).map (fun y => (.cons x.1 x.2.1 x.2.2.1 x.2.2.2 y.1, y.2)) := by
  rw [pSels, pSel1]
  cases pName r with
  | none => rfl
  | some y =>
    obtain ⟨an, r1⟩ := y
    simp only
    cases pOpt r1 with
    | none => rfl
    | some z =>
      obtain ⟨args, r2⟩ := z
      simp only
      cases (if isS 123 r2 = true then pSels f r2.tail else some (Sels.nil, r2)) with
      | none => rfl
      | some u => rfl

theorem pName_n1 {r : List Tok} (h : ∀ t r', r = t :: r' → t.k ≠ 1) : pName r = none := by
  cases r with
  | nil => rfl
  | cons a r => rw [pName, if_neg (h a r rfl)]
theorem pName_plain {a : Tok} {r : List Tok} (h : a.k = 1) (hs : isS 58 r = false) : pName (a :: r) = some (([], a.s), r) := by
  rw [pName, if_pos h, if_neg (by rw [hs]; simp)]
theorem pName_alias {a b : Tok} {r r2 : List Tok} (h : a.k = 1) (hs : isS 58 r = true) (ht : r.tail = b :: r2) (hb : b.k = 1) : pName (a :: r) = some ((a.s, b.s), r2) := by
  rw [pName, if_pos h, if_pos hs, ht]
  simp only
  rw [if_pos hb]
theorem pName_n2 {a : Tok} {r : List Tok} (h : a.k = 1) (hs : isS 58 r = true) (ht : ∀ t r', r.tail = t :: r' → t.k ≠ 1) : pName (a :: r) = none := by
  rw [pName, if_pos h, if_pos hs]
  cases hr : r.tail with
  | nil => rfl
  | cons b r2 => exact if_neg (ht b r2 hr)

/-- what readList answers, with f left -/
def RL (f : Nat) (w : World) (q : Nat) (r : List Tok) : Prop :=
  Calls Tryz.prog 40 #[.pointer (some ⟨q, 0, none⟩)] w fun e w' =>
    (∃ s r' v, pSels f r = some (s, r') ∧ e = .returned v ∧ SelSlP (fun b => w.heap.size ≤ b) w' v s ∧ LineAt w' q r' ∧ Kept (· = q) w w')
    ∨ (pSels f r = none ∧ e = fault 1 ∧ Kept (· = q) w w')

theorem enters_take (args : Array Value) (w : World) : (callFunc 99 args).run Tryz.prog w = .ok (.enter 99 args) w := by kernel_rfl

/-- the select under way lies at g, the line at q -/
def SelW (w wx : World) (q g : Nat) (rx : List Tok) (al nm : List UInt8) (va vk : Value) : Prop :=
  LineAt wx q rx ∧ Kept (· = q) w wx ∧ wx.heap[w.heap.size]? = some (.cells #[.string ⟨#[]⟩, .string ⟨#[]⟩, .slice none 0 0, .slice none 0 0] 28 (0, 0)) ∧
  wx.heap[g]? = some (.cells #[.string ⟨al.toArray⟩, .string ⟨nm.toArray⟩, va, vk] 28 (0, 0))

section
variable {w wx w' : World} {q g : Nat} {rx r' : List Tok} {al nm : List UInt8} {va vk : Value}

theorem SelW.step (h : SelW w wx q g rx al nm va vk) (k : Kept (· = q) wx w') (hL : LineAt w' q r') (hq : q < w.heap.size) (hg : w.heap.size < g) : SelW w w' q g r' al nm va vk :=
  ⟨hL, kq h.2.1 k, blk_kept h.2.2.1 k (by omega), blk_kept h.2.2.2 k (by omega)⟩
theorem SelW.cells (h : SelW w wx q g rx al nm va vk) : wx.cell? ⟨g, 0, none⟩ = some (.string ⟨al.toArray⟩) ∧ wx.cell? ⟨g, 1, none⟩ = some (.string ⟨nm.toArray⟩) ∧ wx.cell? ⟨g, 2, none⟩ = some va ∧ wx.cell? ⟨g, 3, none⟩ = some vk ∧ (∀ o, wx.frozen? ⟨g, o, none⟩ = false) ∧ g < wx.heap.size := by
  have e := h.2.2.2
  exact ⟨by simp [World.cell?, e], by simp [World.cell?, e], by simp [World.cell?, e], by simp [World.cell?, e], fun o => by simp [World.frozen?, e], (Array.getElem?_eq_some_iff.1 e).1⟩
theorem SelW.stored (h : SelW w wx q g rx al nm va vk) (i : Nat) (v : Value) (hq : q < w.heap.size) (hg : w.heap.size < g) : LineAt (wx.setCell ⟨g, i, none⟩ v) q rx ∧ Kept (· = q) w (wx.setCell ⟨g, i, none⟩ v) ∧ (wx.setCell ⟨g, i, none⟩ v).heap[w.heap.size]? = some (.cells #[.string ⟨#[]⟩, .string ⟨#[]⟩, .slice none 0 0, .slice none 0 0] 28 (0, 0)) := by
  have hS : Kept (· = g) wx (wx.setCell ⟨g, i, none⟩ v) := (Kept.refl _ wx).setB i v
  exact ⟨h.1.after hS (fun k e => by omega), h.2.1.trans hS (fun k hk e => by omega), blk_kept h.2.2.1 hS (by omega)⟩
theorem SelW.put0 (h : SelW w wx q g rx al nm va vk) (x : List UInt8) (hq : q < w.heap.size) (hg : w.heap.size < g) : SelW w (wx.setCell ⟨g, 0, none⟩ (.string ⟨x.toArray⟩)) q g rx x nm va vk := by
  obtain ⟨a, b, c⟩ := h.stored 0 (.string ⟨x.toArray⟩) hq hg
  exact ⟨a, b, c, by simp [World.setCell, Array.getElem?_modify, h.2.2.2]⟩
theorem SelW.put1 (h : SelW w wx q g rx al nm va vk) (x : List UInt8) (hq : q < w.heap.size) (hg : w.heap.size < g) : SelW w (wx.setCell ⟨g, 1, none⟩ (.string ⟨x.toArray⟩)) q g rx al x va vk := by
  obtain ⟨a, b, c⟩ := h.stored 1 (.string ⟨x.toArray⟩) hq hg
  exact ⟨a, b, c, by simp [World.setCell, Array.getElem?_modify, h.2.2.2]⟩
theorem SelW.put2 (h : SelW w wx q g rx al nm va vk) (x : Value) (hq : q < w.heap.size) (hg : w.heap.size < g) : SelW w (wx.setCell ⟨g, 2, none⟩ x) q g rx al nm x vk := by
  obtain ⟨a, b, c⟩ := h.stored 2 x hq hg
  exact ⟨a, b, c, by simp [World.setCell, Array.getElem?_modify, h.2.2.2]⟩
theorem SelW.put3 (h : SelW w wx q g rx al nm va vk) (x : Value) (hq : q < w.heap.size) (hg : w.heap.size < g) : SelW w (wx.setCell ⟨g, 3, none⟩ x) q g rx al nm va x := by
  obtain ⟨a, b, c⟩ := h.stored 3 x hq hg
  exact ⟨a, b, c, by simp [World.setCell, Array.getElem?_modify, h.2.2.2]⟩
end

theorem put4n {w w1 : World} {q g : Nat} {r : List Tok} {a b c d : Value} {t : TypeId} (hL : LineAt w1 q r) (hK : Kept (· = q) w w1) (hg : w1.heap[g]? = some (.cells #[a, b, c, d] t (0, 0))) (hq : q < g) (hw : w.heap.size ≤ g) :
    (∀ x y z u, LineAt ((((w1.setCell ⟨g, 0, none⟩ x).setCell ⟨g, 1, none⟩ y).setCell ⟨g, 2, none⟩ z).setCell ⟨g, 3, none⟩ u) q r ∧ Kept (· = q) w ((((w1.setCell ⟨g, 0, none⟩ x).setCell ⟨g, 1, none⟩ y).setCell ⟨g, 2, none⟩ z).setCell ⟨g, 3, none⟩ u) ∧ Kept (· = g) w1 ((((w1.setCell ⟨g, 0, none⟩ x).setCell ⟨g, 1, none⟩ y).setCell ⟨g, 2, none⟩ z).setCell ⟨g, 3, none⟩ u)) ∧
    w1.cell? ⟨g, 0, none⟩ = some a ∧ w1.cell? ⟨g, 1, none⟩ = some b ∧ w1.cell? ⟨g, 2, none⟩ = some c ∧ w1.cell? ⟨g, 3, none⟩ = some d ∧ ∀ o, w1.frozen? ⟨g, o, none⟩ = false := by
  refine ⟨fun x y z u => ?_, by simp [World.cell?, hg], by simp [World.cell?, hg], by simp [World.cell?, hg], by simp [World.cell?, hg], fun o => by simp [World.frozen?, hg]⟩
  have hKK : Kept (· = g) w1 ((((w1.setCell ⟨g, 0, none⟩ x).setCell ⟨g, 1, none⟩ y).setCell ⟨g, 2, none⟩ z).setCell ⟨g, 3, none⟩ u) := (((((Kept.refl _ _).setB 0 x).setB 1 y).setB 2 z).setB 3 u)
  exact ⟨hL.after hKK (by intro k hk; omega), hK.trans hKK (fun i hi e => by omega), hKK⟩

theorem isS_len1 {c : UInt8} {r : List Tok} (h : isS c r = true) : r.tail.length + 1 = r.length := by
  cases r with
  | nil => simp [isS] at h
  | cons a r => rfl

def takesB (q : Nat) (w3 : World) (b : Tok) (r2 : List Tok) : Prop := ∀ w4, Same w3 w4 → ∀ v, IntSl w4 v [1] → Calls Tryz.prog 99 #[.pointer (some ⟨q, 0, none⟩), v] w4 fun e w' => e = .returned (.agg #[.int .i64 1, .string ⟨b.s.toArray⟩, .int .i64 b.n]) ∧ LineAt w' q r2 ∧ Kept (· = q) w3 w'
theorem takesB_of {q : Nat} {w3 : World} {b : Tok} {r2 : List Tok} (h : LineAt w3 q (b :: r2)) (hb : b.k = 1) : takesB q w3 b r2 := by
  intro w4 hk v hv
  refine (take_ok w4 q b r2 v [1] (h.same hk) hv (by rw [hb]; rfl)).mono ?_
  rintro e w' ⟨h1, h2, h3⟩
  rw [hb] at h1
  exact ⟨h1, h2, kq (Kept.of_below hk.below).to h3⟩
def diesB (q : Nat) (w w3 : World) : Prop := ∀ w4, Same w3 w4 → ∀ v, IntSl w4 v [1] → Calls Tryz.prog 99 #[.pointer (some ⟨q, 0, none⟩), v] w4 fun e w' => e = fault 1 ∧ Kept (· = q) w w'
theorem diesB_of {q : Nat} {w w3 : World} {r : List Tok} (h : LineAt w3 q r) (hK : Kept (· = q) w w3) (hb : ∀ t r', r = t :: r' → t.k ≠ 1) : diesB q w w3 := by
  intro w4 hk v hv
  refine (take_bad w4 q r v [1] (h.same hk) hv (fun t r' e => by have := hb t r' e; simpa using this)).mono ?_
  rintro e w' ⟨h1, h3⟩
  exact ⟨h1, kq (kq hK (Kept.of_below hk.below).to) h3⟩

end Go.Proofs.YtkkjchfhgjfclaaGreatDoor
