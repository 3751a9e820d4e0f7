import Derived.Test.YthiagmhijebbgaaGreatDoorQuerytellsupto21
import Derived.Test.YthiagmhijebbgaaGreatDoorQuerytellsupto16
import Derived.Deep.DeepCutAuto
/- query.readArgs, whatever comes. -/
namespace Go.Proofs.YthiagmhijebbgaaGreatDoor
open Go.RowKit

def argC (a : ArgT) : List Value := [.string ⟨a.name.toArray⟩, .bool a.isText, .string ⟨a.text.toArray⟩, .int .i64 a.n]
def argCells (l : List ArgT) : List Value := l.flatMap argC
theorem argCells_snoc (l : List ArgT) (a : ArgT) : argCells (l ++ [a]) = argCells l ++ argC a := by simp [argCells]
theorem argC_one (a : ArgT) : ∀ u ∈ argC a, u.oneCell' = true := by intro u hu; simp [argC] at hu; rcases hu with rfl | rfl | rfl | rfl <;> rfl
theorem argCells_get (l : List ArgT) : ∀ (i : Nat) (a : ArgT), l[i]? = some a → (argCells l)[4 * i]? = some (.string ⟨a.name.toArray⟩) ∧ (argCells l)[4 * i + 1]? = some (.bool a.isText) ∧ (argCells l)[4 * i + 2]? = some (.string ⟨a.text.toArray⟩) ∧ (argCells l)[4 * i + 3]? = some (.int .i64 a.n) := by
  induction l with
  | nil => intro i t h; simp at h
  | cons x r ih =>
    intro i t h
    have e : argCells (x :: r) = .string ⟨x.name.toArray⟩ :: .bool x.isText :: .string ⟨x.text.toArray⟩ :: .int .i64 x.n :: argCells r := by simp [argCells, argC]
    cases i with
    | zero => simp at h; subst h; rw [e]; simp
    | succ i =>
      simp at h
      have := ih i t h
      rw [e, show 4 * (i + 1) = 4 * i + 1 + 1 + 1 + 1 from by omega, show 4 * i + 1 + 1 + 1 + 1 + 1 = (4 * i + 1) + 1 + 1 + 1 + 1 from rfl, show 4 * i + 1 + 1 + 1 + 1 + 2 = (4 * i + 2) + 1 + 1 + 1 + 1 from by omega, show 4 * i + 1 + 1 + 1 + 1 + 3 = (4 * i + 3) + 1 + 1 + 1 + 1 from by omega]
      simpa using this

theorem own_args {w : World} {base : Nat} {v : Value} {l : List ArgT} (h : w.ownsRow base 63 4 v l.length (argCells l)) (hl : l.length ≤ 9000000000000) : ArgSlP (fun b => base ≤ b) w v l := by
  have hc := fun g => World.ownsRow.cells h (g := g)
  rcases h.2 with ⟨rfl, h0⟩ | ⟨g, cap, cur, rfl, hg, hb, hc1, hc2, hc3, htk⟩
  · obtain rfl : l = [] := List.length_eq_zero_iff.1 h0
    exact ArgSlP.nil _ w
  · refine ⟨_, cap, rfl, ⟨by unfold maxLen; omega, hc1⟩, fun i t ht => ⟨g, 0, rfl, hg, ?_⟩⟩
    obtain ⟨h1, h2, h3, h4⟩ := argCells_get l i t ht
    have k1 := hc g rfl _ _ h1
    have k2 := hc g rfl _ _ h2
    have k3 := hc g rfl _ _ h3
    have k4 := hc g rfl _ _ h4
    rw [add_none] at k1 k2 k3 k4
    rw [show 0 + i * 4 = 0 + 4 * i from by omega]
    exact ⟨k1, k2, k3, k4⟩

theorem infoA : (Tryz.prog.info? 63).map (fun i => (i.zero, i.size, i.bytes)) = some (some (.agg #[.string ⟨#[]⟩, .bool false, .string ⟨#[]⟩, .int .i64 0]), 4, 48) := by kernel_rfl

def aRel (r0 : List Tok) (g : Nat) (rj : List Tok) (acc : List ArgT) : Prop := pArgs r0.length r0 = (pArgs g rj).map (fun x => (acc ++ x.1, x.2))
theorem aRel.start (r0 : List Tok) : aRel r0 r0.length r0 [] := by
  unfold aRel
  cases pArgs r0.length r0 <;> simp
theorem aRel.bad {r0 rj : List Tok} {g : Nat} {acc : List ArgT} (h : aRel r0 g rj acc) (hp : pArg rj = none) : pArgs r0.length r0 = none := by
  rw [h]
  cases g with
  | zero => rfl
  | succ g => rw [pArgs, hp]; rfl
theorem aRel.last {r0 rj r1 : List Tok} {g : Nat} {acc : List ArgT} {f : ArgT} (h : aRel r0 (g + 1) rj acc) (hp : pArg rj = some (f, r1)) (hs : isS 41 r1 = true) : pArgs r0.length r0 = some (acc ++ [f], r1.tail) := by
  rw [h, pArgs, hp]
  simp only [hs, if_true, Option.map_some]
theorem aRel.step {r0 rj r1 : List Tok} {g : Nat} {acc : List ArgT} {f : ArgT} (h : aRel r0 (g + 1) rj acc) (hp : pArg rj = some (f, r1)) (hs : isS 41 r1 = false) : aRel r0 g r1 (acc ++ [f]) := by
  unfold aRel
  rw [h, pArgs, hp]
  simp only [hs]
  cases pArgs g r1 <;> simp

theorem new_c4 (w : World) (x y z u : Value) (t : TypeId) : ∀ j v, [x, y, z, u][j]? = some v → (w.alloc (.cells #[x, y, z, u] t)).cell? ((⟨w.heap.size, 0, none⟩ : Addr).add j) = some v := by
  intro j v hj
  rw [add_none, Nat.zero_add, World.cell?_alloc_new]
  simpa using hj

set_option maxRecDepth 20000 in
set_option maxHeartbeats 1600000 in
theorem readArgs_any (w : World) (q : Nat) (r : List Tok) (h : LineAt w q r) (hlen : r.length ≤ 300) :
    Calls Tryz.prog 94 #[.pointer (some ⟨q, 0, none⟩)] w fun e w' =>
      (∃ l r' v, pArgs r.length r = some (l, r') ∧ e = .returned v ∧ ArgSlP (fun b => w.heap.size ≤ b) w' v l ∧ LineAt w' q r' ∧ Kept (· = q) w w')
      ∨ (pArgs r.length r = none ∧ e = fault 1 ∧ Kept (· = q) w w') := by
  have hq := h.lt
  obtain ⟨i0, hi, hz0, hz1, hz2⟩ := info_parts infoA
  obtain ⟨N, hN⟩ : ∃ N, N = r.length := ⟨_, rfl⟩
  have HNN := hide hN
  have hN1 : N ≤ 300 := by omega
  have HL := hide h
  clear hN hlen h
  go_enter Tryz.func94, Tryz.ntmps94
  go_wp2_with fail
  go_loopg [3] (N + 1) (fun g v wr => ∃ (m : Nat) (rj : List Tok) (acc : List ArgT), m + 1 ≤ g ∧ g ≤ m + 1 ∧ rj.length ≤ m ∧ acc.length + rj.length ≤ 300 ∧ LineAt wr q rj ∧ Kept (· = q) w wr ∧ wr.ownsRow w.heap.size 63 4 v acc.length (argCells acc) ∧ Hid (aRel r m rj acc))
  case atStart =>
    have e1 := HNN.out
    exact ⟨N, r, [], by omega, by omega, by omega, by simp; omega, HL.out, Kept.refl _ _, World.ownsRow_nil _ _ _ _, by rw [Hid, e1]; exact aRel.start r⟩
  case round =>
    obtain ⟨m, rj, acc, hg1, hg2, hrm, hacc, hLr, hKr, hown, HFR⟩ := hrel
    obtain ⟨ao, cap, hv⟩ := own_slice hown
    subst hv
    go_wp2_with fail
    refine (readArg_any _ q rj hLr).mono ?_
    rintro e w1 (⟨a, r1, hp, rfl, hL1, hK1⟩ | ⟨hp, rfl, hK1⟩)
    · have hl1 := pArg_len hp
      have hl1' : r1.length + 3 ≤ rj.length := by omega
      have HPT := hide hp
      obtain ⟨m1, hm1⟩ : ∃ m1, m = m1 + 1 := ⟨m - 1, by omega⟩
      have HFR1 : Hid (aRel r (m1 + 1) rj acc) := by rw [← hm1]; exact HFR
      have hmle : m ≤ m1 + 1 := by omega
      have hmge : m1 + 1 ≤ m := by omega
      have hown1 := own_kept hown hK1 (fun g hg e => by omega)
      have HKA := hide (kq hKr hK1)
      have hws : w.heap.size ≤ w1.heap.size := HKA.out.size
      have HL1 := hide hL1
      clear HFR hm1 hp hLr hKr hL1 hK1 hown hl1
      go_wp2_with (at_builtin; refine wpList_append_own _ rfl _ _ 26 rfl w.heap.size 63 i0 _ 4 48 Tryz.underlying26 hi hz0 hz1 hz2 rfl (by decide) _ _ _ rfl (hown1.alloc _) ⟨w1.heap.size, 0, none⟩ 1 1 (argC a) rfl rfl ?a1 ?a2 ?a3 ?a4 ?a5 ?_)
      case a1 => exact new_c4 w1 _ _ _ _ _
      case a2 => exact argC_one a
      case a3 => unfold maxLen; omega
      case a4 => omega
      case a5 => simp; omega
      intro v2 w2 hown2 hgr2 _
      obtain ⟨g2, cap2, hv2⟩ := own_form hown2 (by omega)
      subst hv2
      have hKb : Kept (fun k => some k = (Value.slice ao acc.length cap).ownBlock) w1 w2 := ((Kept.refl _ w1).alloc _).trans (grown_kept hgr2) (fun _ _ e => e)
      have hXb : ∀ k, some k = (Value.slice ao acc.length cap).ownBlock → w.heap.size ≤ k := fun k e => (hown1.lt k e.symm).1
      have hLb := HL1.out.after hKb (fun k e => by have := hXb k e; omega)
      have HKC := hide (show Kept (· = q) w w2 from HKA.out.trans hKb (fun k hk e => by have := hXb k e; omega))
      have HOW2 := hide (show w2.ownsRow w.heap.size 63 4 (.slice (some ⟨g2, 0, none⟩) (acc.length + 1) cap2) (acc ++ [a]).length (argCells (acc ++ [a])) by rw [argCells_snoc, List.length_append]; exact hown2)
      clear hgr2 hown2 hKb hXb hown1
      go_wp2_with fail
      refine (skip_any _ q r1 41 hLb).mono ?_
      rintro e w3 (⟨y, r2, hr2, hs2, rfl, hL3, hK3⟩ | ⟨hs2, rfl, rfl⟩)
      · have HE := hide (show pArgs r.length r = some (acc ++ [a], r2) by rw [HFR1.out.last HPT.out hs2, hr2]; rfl)
        have HAS := hide (own_args (own_kept HOW2.out hK3 (fun k hk e => by omega)) (by simp; omega))
        have HKE := hide (kq HKC.out hK3)
        have HL3 := hide hL3
        clear hr2 hs2 hL3 hK3 hLb
        go_wp2_with fail
        go_ret
        exact .inl ⟨acc ++ [a], r2, _, HE.out, rfl, HAS.out, HL3.out, HKE.out⟩
      · have HST := hide (HFR1.out.step HPT.out hs2)
        have HLB := hide hLb
        clear hs2 hLb
        go_wp2_with fail
        go_roundg (gk - 1)
        case measure => omega
        case rel => exact ⟨m1, r1, acc ++ [a], by omega, by omega, by omega, by simp; omega, HLB.out, HKC.out, HOW2.out, HST⟩
    · have HE := hide (show pArgs r.length r = none from HFR.out.bad hp)
      clear hp
      go_wp2_with fail
      exact ⟨rfl, .inr ⟨HE.out, rfl, kq hKr hK1⟩⟩

end Go.Proofs.YthiagmhijebbgaaGreatDoor

/- query.readSelect: what it wants. -/
namespace Go.Proofs.YthiagmhijebbgaaGreatDoor
open Go.RowKit

theorem skip_b (w : World) (q : Nat) (r : List Tok) (c : UInt8) (h : LineAt w q r) (b : Bool) (hb : isS c r = b) :
    Calls Tryz.prog 63 #[.pointer (some ⟨q, 0, none⟩), .string ⟨#[c]⟩] w fun e w' => e = .returned (.bool b) ∧ LineAt w' q (bif b then r.tail else r) ∧ Kept (· = q) w w' := by
  refine (skip_any w q r c h).mono ?_
  rintro e w' (⟨t, r', h1, h2, h3, h4, h5⟩ | ⟨h1, h2, h3⟩)
  · rw [hb] at h2
    subst h2
    rw [h1]
    exact ⟨h3, h4, h5⟩
  · rw [hb] at h1
    subst h1 h3
    exact ⟨h2, h, Kept.refl _ _⟩

/-- a select, what is selected of it read with f left -/
def pSel1 (f : Nat) (r : List Tok) : Option ((List UInt8 × List UInt8 × List ArgT × Sels) × List Tok) :=
  match pName r with
  | none => none
  | some (an, r1) => match pOpt r1 with
    | none => none
    | some (args, r2) => (if isS 123 r2 then pSels f r2.tail else some (.nil, r2)).map (fun x => ((an.1, an.2, args, x.1), x.2))

theorem pSels_1 (f : Nat) (r : List Tok) : pSels (f + 1) r = match pSel1 f r with
    | none => none
    | some (x, r3) => if isS 125 r3 then some (.cons x.1 x.2.1 x.2.2.1 x.2.2.2 .nil, r3.tail) else (pSels f r3).map (fun y => (.cons x.1 x.2.1 x.2.2.1 x.2.2.2 y.1, y.2)) := by
  rw [pSels, pSel1]
  cases pName r with
  | none => rfl
  | some y =>
    obtain ⟨an, r1⟩ := y
    simp only
    cases pOpt r1 with
    | none => rfl
    | some z =>
      obtain ⟨args, r2⟩ := z
      simp only
      cases (if isS 123 r2 = true then pSels f r2.tail else some (Sels.nil, r2)) with
      | none => rfl
      | some u => rfl

theorem pName_n1 {r : List Tok} (h : ∀ t r', r = t :: r' → t.k ≠ 1) : pName r = none := by
  cases r with
  | nil => rfl
  | cons a r => rw [pName, if_neg (h a r rfl)]
theorem pName_plain {a : Tok} {r : List Tok} (h : a.k = 1) (hs : isS 58 r = false) : pName (a :: r) = some (([], a.s), r) := by
  rw [pName, if_pos h, if_neg (by rw [hs]; simp)]
theorem pName_alias {a b : Tok} {r r2 : List Tok} (h : a.k = 1) (hs : isS 58 r = true) (ht : r.tail = b :: r2) (hb : b.k = 1) : pName (a :: r) = some ((a.s, b.s), r2) := by
  rw [pName, if_pos h, if_pos hs, ht]
  simp only
  rw [if_pos hb]
theorem pName_n2 {a : Tok} {r : List Tok} (h : a.k = 1) (hs : isS 58 r = true) (ht : ∀ t r', r.tail = t :: r' → t.k ≠ 1) : pName (a :: r) = none := by
  rw [pName, if_pos h, if_pos hs]
  cases hr : r.tail with
  | nil => rfl
  | cons b r2 => exact if_neg (ht b r2 hr)

/-- what readList answers, with f left -/
def RL (f : Nat) (w : World) (q : Nat) (r : List Tok) : Prop :=
  Calls Tryz.prog 39 #[.pointer (some ⟨q, 0, none⟩)] w fun e w' =>
    (∃ s r' v, pSels f r = some (s, r') ∧ e = .returned v ∧ SelSlP (fun b => w.heap.size ≤ b) w' v s ∧ LineAt w' q r' ∧ Kept (· = q) w w')
    ∨ (pSels f r = none ∧ e = fault 1 ∧ Kept (· = q) w w')

theorem enters_take (args : Array Value) (w : World) : (callFunc 93 args).run Tryz.prog w = .ok (.enter 93 args) w := by kernel_rfl

/-- the select under way lies at g, the line at q -/
def SelW (w wx : World) (q g : Nat) (rx : List Tok) (al nm : List UInt8) (va vk : Value) : Prop :=
  LineAt wx q rx ∧ Kept (· = q) w wx ∧ wx.heap[w.heap.size]? = some (.cells #[.string ⟨#[]⟩, .string ⟨#[]⟩, .slice none 0 0, .slice none 0 0] 28 (0, 0)) ∧
  wx.heap[g]? = some (.cells #[.string ⟨al.toArray⟩, .string ⟨nm.toArray⟩, va, vk] 28 (0, 0))

section
variable {w wx w' : World} {q g : Nat} {rx r' : List Tok} {al nm : List UInt8} {va vk : Value}

theorem SelW.step (h : SelW w wx q g rx al nm va vk) (k : Kept (· = q) wx w') (hL : LineAt w' q r') (hq : q < w.heap.size) (hg : w.heap.size < g) : SelW w w' q g r' al nm va vk :=
  ⟨hL, kq h.2.1 k, blk_kept h.2.2.1 k (by omega), blk_kept h.2.2.2 k (by omega)⟩
theorem SelW.cells (h : SelW w wx q g rx al nm va vk) : wx.cell? ⟨g, 0, none⟩ = some (.string ⟨al.toArray⟩) ∧ wx.cell? ⟨g, 1, none⟩ = some (.string ⟨nm.toArray⟩) ∧ wx.cell? ⟨g, 2, none⟩ = some va ∧ wx.cell? ⟨g, 3, none⟩ = some vk ∧ (∀ o, wx.frozen? ⟨g, o, none⟩ = false) ∧ g < wx.heap.size := by
  have e := h.2.2.2
  exact ⟨by simp [World.cell?, e], by simp [World.cell?, e], by simp [World.cell?, e], by simp [World.cell?, e], fun o => by simp [World.frozen?, e], (Array.getElem?_eq_some_iff.1 e).1⟩
theorem SelW.stored (h : SelW w wx q g rx al nm va vk) (i : Nat) (v : Value) (hq : q < w.heap.size) (hg : w.heap.size < g) : LineAt (wx.setCell ⟨g, i, none⟩ v) q rx ∧ Kept (· = q) w (wx.setCell ⟨g, i, none⟩ v) ∧ (wx.setCell ⟨g, i, none⟩ v).heap[w.heap.size]? = some (.cells #[.string ⟨#[]⟩, .string ⟨#[]⟩, .slice none 0 0, .slice none 0 0] 28 (0, 0)) := by
  have hS : Kept (· = g) wx (wx.setCell ⟨g, i, none⟩ v) := (Kept.refl _ wx).setB i v
  exact ⟨h.1.after hS (fun k e => by omega), h.2.1.trans hS (fun k hk e => by omega), blk_kept h.2.2.1 hS (by omega)⟩
theorem SelW.put0 (h : SelW w wx q g rx al nm va vk) (x : List UInt8) (hq : q < w.heap.size) (hg : w.heap.size < g) : SelW w (wx.setCell ⟨g, 0, none⟩ (.string ⟨x.toArray⟩)) q g rx x nm va vk := by
  obtain ⟨a, b, c⟩ := h.stored 0 (.string ⟨x.toArray⟩) hq hg
  exact ⟨a, b, c, by simp [World.setCell, Array.getElem?_modify, h.2.2.2]⟩
theorem SelW.put1 (h : SelW w wx q g rx al nm va vk) (x : List UInt8) (hq : q < w.heap.size) (hg : w.heap.size < g) : SelW w (wx.setCell ⟨g, 1, none⟩ (.string ⟨x.toArray⟩)) q g rx al x va vk := by
  obtain ⟨a, b, c⟩ := h.stored 1 (.string ⟨x.toArray⟩) hq hg
  exact ⟨a, b, c, by simp [World.setCell, Array.getElem?_modify, h.2.2.2]⟩
theorem SelW.put2 (h : SelW w wx q g rx al nm va vk) (x : Value) (hq : q < w.heap.size) (hg : w.heap.size < g) : SelW w (wx.setCell ⟨g, 2, none⟩ x) q g rx al nm x vk := by
  obtain ⟨a, b, c⟩ := h.stored 2 x hq hg
  exact ⟨a, b, c, by simp [World.setCell, Array.getElem?_modify, h.2.2.2]⟩
theorem SelW.put3 (h : SelW w wx q g rx al nm va vk) (x : Value) (hq : q < w.heap.size) (hg : w.heap.size < g) : SelW w (wx.setCell ⟨g, 3, none⟩ x) q g rx al nm va x := by
  obtain ⟨a, b, c⟩ := h.stored 3 x hq hg
  exact ⟨a, b, c, by simp [World.setCell, Array.getElem?_modify, h.2.2.2]⟩
end

theorem put4n {w w1 : World} {q g : Nat} {r : List Tok} {a b c d : Value} {t : TypeId} (hL : LineAt w1 q r) (hK : Kept (· = q) w w1) (hg : w1.heap[g]? = some (.cells #[a, b, c, d] t (0, 0))) (hq : q < g) (hw : w.heap.size ≤ g) :
    (∀ x y z u, LineAt ((((w1.setCell ⟨g, 0, none⟩ x).setCell ⟨g, 1, none⟩ y).setCell ⟨g, 2, none⟩ z).setCell ⟨g, 3, none⟩ u) q r ∧ Kept (· = q) w ((((w1.setCell ⟨g, 0, none⟩ x).setCell ⟨g, 1, none⟩ y).setCell ⟨g, 2, none⟩ z).setCell ⟨g, 3, none⟩ u) ∧ Kept (· = g) w1 ((((w1.setCell ⟨g, 0, none⟩ x).setCell ⟨g, 1, none⟩ y).setCell ⟨g, 2, none⟩ z).setCell ⟨g, 3, none⟩ u)) ∧
    w1.cell? ⟨g, 0, none⟩ = some a ∧ w1.cell? ⟨g, 1, none⟩ = some b ∧ w1.cell? ⟨g, 2, none⟩ = some c ∧ w1.cell? ⟨g, 3, none⟩ = some d ∧ ∀ o, w1.frozen? ⟨g, o, none⟩ = false := by
  refine ⟨fun x y z u => ?_, by simp [World.cell?, hg], by simp [World.cell?, hg], by simp [World.cell?, hg], by simp [World.cell?, hg], fun o => by simp [World.frozen?, hg]⟩
  have hKK : Kept (· = g) w1 ((((w1.setCell ⟨g, 0, none⟩ x).setCell ⟨g, 1, none⟩ y).setCell ⟨g, 2, none⟩ z).setCell ⟨g, 3, none⟩ u) := (((((Kept.refl _ _).setB 0 x).setB 1 y).setB 2 z).setB 3 u)
  exact ⟨hL.after hKK (by intro k hk; omega), hK.trans hKK (fun i hi e => by omega), hKK⟩

theorem isS_len1 {c : UInt8} {r : List Tok} (h : isS c r = true) : r.tail.length + 1 = r.length := by
  cases r with
  | nil => simp [isS] at h
  | cons a r => rfl

def takesB (q : Nat) (w3 : World) (b : Tok) (r2 : List Tok) : Prop := ∀ w4, Same w3 w4 → ∀ v, IntSl w4 v [1] → Calls Tryz.prog 93 #[.pointer (some ⟨q, 0, none⟩), v] w4 fun e w' => e = .returned (.agg #[.int .i64 1, .string ⟨b.s.toArray⟩, .int .i64 b.n]) ∧ LineAt w' q r2 ∧ Kept (· = q) w3 w'
theorem takesB_of {q : Nat} {w3 : World} {b : Tok} {r2 : List Tok} (h : LineAt w3 q (b :: r2)) (hb : b.k = 1) : takesB q w3 b r2 := by
  intro w4 hk v hv
  refine (take_ok w4 q b r2 v [1] (h.same hk) hv (by rw [hb]; rfl)).mono ?_
  rintro e w' ⟨h1, h2, h3⟩
  rw [hb] at h1
  exact ⟨h1, h2, kq (Kept.of_below hk.below).to h3⟩
def diesB (q : Nat) (w w3 : World) : Prop := ∀ w4, Same w3 w4 → ∀ v, IntSl w4 v [1] → Calls Tryz.prog 93 #[.pointer (some ⟨q, 0, none⟩), v] w4 fun e w' => e = fault 1 ∧ Kept (· = q) w w'
theorem diesB_of {q : Nat} {w w3 : World} {r : List Tok} (h : LineAt w3 q r) (hK : Kept (· = q) w w3) (hb : ∀ t r', r = t :: r' → t.k ≠ 1) : diesB q w w3 := by
  intro w4 hk v hv
  refine (take_bad w4 q r v [1] (h.same hk) hv (fun t r' e => by have := hb t r' e; simpa using this)).mono ?_
  rintro e w' ⟨h1, h3⟩
  exact ⟨h1, kq (kq hK (Kept.of_below hk.below).to) h3⟩

end Go.Proofs.YthiagmhijebbgaaGreatDoor
