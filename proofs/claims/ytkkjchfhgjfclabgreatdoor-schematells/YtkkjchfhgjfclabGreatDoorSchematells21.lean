/- schema.readTypes, whatever comes. -/
import Derived.Test.YtkkjchfhgjfclabGreatDoorSchematells20
namespace Go.Proofs.YtkkjchfhgjfclabGreatDoor
open Go.RowKit

theorem pFields_len (f : Nat) : ∀ (r r' : List Tok) (l : List FieldT), pFields f r = some (l, r') → r'.length + 1 ≤ r.length := by
  induction f with
  | zero => intro r r' l h; cases h
  | succ f ih =>
    intro r r' l h
    rw [pFields] at h
    cases ha : pField r with
    | none => rw [ha] at h; cases h
    | some y =>
      obtain ⟨a, r1⟩ := y
      rw [ha] at h
      simp only at h
      have h3 := pField_len ha
      by_cases hs : isS 125 r1 = true
      · rw [if_pos hs] at h
        have := isS_len hs
        cases h
        omega
      · rw [if_neg hs] at h
        cases hp : pFields f r1 with
        | none => rw [hp] at h; cases h
        | some z =>
          obtain ⟨l2, r2⟩ := z
          rw [hp] at h
          cases h
          have := ih _ _ _ hp
          show r2.length + 1 ≤ r.length
          omega
theorem pType_len {r r' : List Tok} {t : TypeT} (h : pType r = some (t, r')) : r'.length + 1 ≤ r.length := by
  match r, h with
  | a :: b :: c :: r, h =>
    rw [pType] at h
    split at h
    · cases hp : pFields r.length r with
      | none => rw [hp] at h; cases h
      | some z =>
        rw [hp] at h
        cases h
        have := pFields_len _ _ _ _ hp
        simp; omega
    · cases h
  | [], h => cases h
  | [_], h => cases h
  | [_, _], h => cases h

def tyRel (r0 : List Tok) (g : Nat) (rj : List Tok) (acc : List TypeT) : Prop := pTypes r0.length r0 = (pTypes g rj).map (fun x => acc ++ x)
theorem tyRel.start (r0 : List Tok) : tyRel r0 r0.length r0 [] := by
  unfold tyRel
  cases pTypes r0.length r0 <;> simp
theorem tyRel.bad {r0 rj : List Tok} {g : Nat} {acc : List TypeT} (h : tyRel r0 g rj acc) (hp : pType rj = none) : pTypes r0.length r0 = none := by
  rw [h]
  cases g with
  | zero => rfl
  | succ g => rw [pTypes, hp]; rfl
theorem tyRel.last {r0 rj : List Tok} {g : Nat} {acc : List TypeT} {t : TypeT} (h : tyRel r0 (g + 1) rj acc) (hp : pType rj = some (t, [])) : pTypes r0.length r0 = some (acc ++ [t]) := by
  rw [h, pTypes, hp]
  rfl
theorem tyRel.step {r0 rj r1 : List Tok} {g : Nat} {acc : List TypeT} {t : TypeT} (h : tyRel r0 (g + 1) rj acc) (hp : pType rj = some (t, r1)) (hs : r1 ≠ []) : tyRel r0 g r1 (acc ++ [t]) := by
  unfold tyRel
  rw [h, pTypes, hp]
  cases r1 with
  | nil => exact absurd rfl hs
  | cons u r2 =>
    simp only
    cases pTypes g (u :: r2) <;> simp

/-- a type and where its fields lie, as cells -/
def tyC (p : TypeT × Value) : List Value := [.string ⟨p.1.name.toArray⟩, p.2]
def tyCells (l : List (TypeT × Value)) : List Value := l.flatMap tyC
theorem tyCells_snoc (l : List (TypeT × Value)) (p : TypeT × Value) : tyCells (l ++ [p]) = tyCells l ++ tyC p := by simp [tyCells]
theorem tyCells_get (l : List (TypeT × Value)) : ∀ (i : Nat) (p : TypeT × Value), l[i]? = some p → (tyCells l)[2 * i]? = some (.string ⟨p.1.name.toArray⟩) ∧ (tyCells l)[2 * i + 1]? = some p.2 := by
  induction l with
  | nil => intro i t h; simp at h
  | cons x r ih =>
    intro i t h
    have e : tyCells (x :: r) = .string ⟨x.1.name.toArray⟩ :: x.2 :: tyCells r := by simp [tyCells, tyC]
    cases i with
    | zero => simp at h; subst h; rw [e]; simp
    | succ i =>
      simp at h
      have := ih i t h
      rw [e, show 2 * (i + 1) = 2 * i + 1 + 1 from by omega, show 2 * i + 1 + 1 + 1 = (2 * i + 1) + 1 + 1 from rfl]
      simpa using this

theorem own_typs {w : World} {base : Nat} {v : Value} {l : List (TypeT × Value)} (h : w.ownsRow base 38 2 v l.length (tyCells l)) (hl : l.length ≤ 9000000000000) (hf : ∀ p ∈ l, FldSl (fun b => base ≤ b) w p.2 p.1.fields) :
    TypSl (fun b => base ≤ b) w v (l.map (·.1)) := by
  have hc := fun g => World.ownsRow.cells h (g := g)
  rcases h.2 with ⟨rfl, h0⟩ | ⟨g, cap, cur, rfl, hg, hb, hc1, hc2, hc3, htk⟩
  · obtain rfl : l = [] := List.length_eq_zero_iff.1 h0
    exact TypSl.nil _ w
  · refine ⟨_, cap, by rw [List.length_map], ⟨by rw [List.length_map]; unfold maxLen; omega, by rw [List.length_map]; exact hc1⟩, fun i t ht => ?_⟩
    rw [List.getElem?_map] at ht
    obtain ⟨p, hp, rfl⟩ := Option.map_eq_some_iff.1 ht
    obtain ⟨h1, h2⟩ := tyCells_get l i p hp
    have k1 := hc g rfl _ _ h1
    have k2 := hc g rfl _ _ h2
    rw [add_none] at k1 k2
    rw [show 0 + 2 * i = 0 + i * 2 from by omega] at k1
    rw [show 0 + (2 * i + 1) = 0 + i * 2 + 1 from by omega] at k2
    exact ⟨g, 0, p.2, rfl, hg, k1, k2, hf p (List.mem_of_getElem? hp)⟩

theorem infoT : (Tryz.prog.info? 38).map (fun i => (i.zero, i.size, i.bytes)) = some (some (.agg #[.string ⟨#[]⟩, .slice none 0 0]), 2, 40) := by kernel_rfl

theorem new_c2 (w : World) (x y : Value) (t : TypeId) : ∀ j u, [x, y][j]? = some u → (w.alloc (.cells #[x, y] t)).cell? ((⟨w.heap.size, 0, none⟩ : Addr).add j) = some u := by
  intro j u hj
  rw [add_none, Nat.zero_add, World.cell?_alloc_new]
  simpa using hj

set_option maxRecDepth 20000 in
set_option maxHeartbeats 3200000 in
theorem readTypes_any (w : World) (q : Nat) (r : List Tok) (h : LineAt w q r) (hlen : r.length ≤ 300) :
    Calls Tryz.prog 41 #[.pointer (some ⟨q, 0, none⟩)] w fun e w' =>
      (∃ l v, pTypes r.length r = some l ∧ e = .returned v ∧ TypSl (fun b => w.heap.size ≤ b) w' v l ∧ Kept (· = q) w w')
      ∨ (pTypes r.length r = none ∧ e = fault 1 ∧ Kept (· = q) w w') := by
  have hq := h.lt
  obtain ⟨i0, hi, hz0, hz1, hz2⟩ := info_parts infoT
  obtain ⟨N, hN⟩ : ∃ N, N = r.length := ⟨_, rfl⟩
  have HNN := hide hN
  have hN1 : N ≤ 300 := by omega
  have HL := hide h
  clear hN hlen h
  go_enter Tryz.func41, Tryz.ntmps41
  go_wp2_with fail
  go_loopg [3] (N + 1) (fun g v wr => ∃ (m : Nat) (rj : List Tok) (acc : List (TypeT × Value)), m + 1 ≤ g ∧ g ≤ m + 1 ∧ rj.length ≤ m ∧ acc.length + rj.length ≤ 300 ∧ LineAt wr q rj ∧ Kept (· = q) w wr ∧ wr.ownsRow w.heap.size 38 2 v acc.length (tyCells acc) ∧ Hid (∀ p ∈ acc, FldSl (fun b => w.heap.size ≤ b ∧ some b ≠ v.ownBlock) wr p.2 p.1.fields) ∧ Hid (tyRel r m rj (acc.map (·.1))))
  case atStart =>
    have e1 := HNN.out
    exact ⟨N, r, [], by omega, by omega, by omega, by simp; omega, HL.out, Kept.refl _ _, World.ownsRow_nil _ _ _ _, (fun p hp => by cases hp), by rw [Hid, e1]; exact tyRel.start r⟩
  case round =>
    obtain ⟨m, rj, acc, hg1, hg2, hrm, hacc, hLr, hKr, hown, HFS, HFR⟩ := hrel
    obtain ⟨ao, cap, hv⟩ := own_slice hown
    subst hv
    have hrj : rj.length ≤ 300 := by omega
    go_wp2_with fail
    refine (readType_any _ q rj hLr hrj).mono ?_
    rintro e w1 (⟨t, r1, af, nf, cf, hp, rfl, hfs, hL1, hK1⟩ | ⟨hp, rfl, hK1⟩)
    · have hl1 := pType_len hp
      have HPT := hide hp
      obtain ⟨m1, hm1⟩ : ∃ m1, m = m1 + 1 := ⟨m - 1, by omega⟩
      have HFR1 : Hid (tyRel r (m1 + 1) rj (acc.map (·.1))) := by rw [← hm1]; exact HFR
      have hmle : m ≤ m1 + 1 := by omega
      have hmge : m1 + 1 ≤ m := by omega
      have hown1 := own_kept hown hK1 (fun g hg e => by omega)
      have HKA := hide (kq hKr hK1)
      have hws : w.heap.size ≤ w1.heap.size := HKA.out.size
      have HF1 := hide hfs
      have HL1 := hide hL1
      have HWR := hide hKr.size
      have HF0 := hide (show ∀ p ∈ acc, FldSl (fun b => w.heap.size ≤ b ∧ some b ≠ (Value.slice ao acc.length cap).ownBlock) w1 p.2 p.1.fields from fun p hp => (HFS.out p hp).keep hK1 (fun b hb e => by have := hb.1; omega))
      have HOW := hide hown
      clear HFR hm1 hp HFS hLr hKr hfs hL1 hK1 hown
      go_wp2_with (at_builtin; refine wpList_append_own_at _ rfl _ _ 34 rfl w.heap.size 38 i0 _ 2 40 Tryz.underlying34 hi hz0 hz1 hz2 rfl (by decide) _ _ _ rfl (hown1.alloc _) ⟨w1.heap.size, 0, none⟩ 1 1 (tyC (t, .slice af nf cf)) rfl rfl ?a1 ?a2 ?a3 ?a4 ?a5 ?_)
      case a1 => exact new_c2 w1 _ _ _
      case a2 => intro u hu; simp [tyC] at hu; rcases hu with rfl | rfl <;> rfl
      case a3 => unfold maxLen; omega
      case a4 => omega
      case a5 => simp; omega
      intro v2 w2 hown2 hgr2 _ hat2
      obtain ⟨g2, cap2, hv2⟩ := own_form hown2 (by omega)
      subst hv2
      have hKb : Kept (fun k => some k = (Value.slice ao acc.length cap).ownBlock) w1 w2 := ((Kept.refl _ w1).alloc _).trans (grown_kept hgr2) (fun _ _ e => e)
      have hXb : ∀ k, some k = (Value.slice ao acc.length cap).ownBlock → w.heap.size ≤ k ∧ k < wr.heap.size := fun k e => own_up HOW.out k e.symm
      have hLb := HL1.out.after hKb (fun k e => by have := (hXb k e).1; omega)
      have HKC := hide (show Kept (· = q) w w2 from HKA.out.trans hKb (fun k hk e => by have := (hXb k e).1; omega))
      have hat3 : some g2 = (Value.slice ao acc.length cap).ownBlock ∨ w1.heap.size ≤ g2 := by
        rcases hat2 with e | e
        · exact .inl e
        · right
          have e2 : g2 = _ := Option.some.inj e
          rw [e2]; simp
      have HFA := hide (show ∀ p ∈ acc ++ [(t, Value.slice af nf cf)], FldSl (fun b => w.heap.size ≤ b ∧ some b ≠ (Value.slice (some ⟨g2, 0, none⟩) (acc.length + 1) cap2).ownBlock) w2 p.2 p.1.fields from fun p hp => by
        rcases List.mem_append.1 hp with hp | hp
        · have h1 := (HF0.out p hp).mono (Q := fun b => (w.heap.size ≤ b ∧ some b ≠ (Value.slice ao acc.length cap).ownBlock) ∧ b < w1.heap.size) (fun b hb hh => ⟨hh, hb⟩)
          refine (h1.keep hKb (fun b hb e => hb.1.2 e)).mono (fun b _ hb => ⟨hb.1.1, fun e => ?_⟩)
          have e2 : b = g2 := Option.some.inj e
          rcases hat3 with e3 | e3
          · exact hb.1.2 (by rw [e2]; exact e3)
          · omega
        · simp only [List.mem_singleton] at hp
          subst hp
          have h1 := HF1.out.mono (Q := fun b => wr.heap.size ≤ b ∧ b < w1.heap.size) (fun b hb hh => ⟨hh, hb⟩)
          refine (h1.keep hKb (fun b hb e => by have := (hXb b e).2; omega)).mono (fun b _ hb => ⟨by have := HWR.out; omega, fun e => ?_⟩)
          have e2 : b = g2 := Option.some.inj e
          rcases hat3 with e3 | e3
          · have := (hXb g2 e3).2; omega
          · omega)
      have HOW2 := hide (show w2.ownsRow w.heap.size 38 2 (.slice (some ⟨g2, 0, none⟩) (acc.length + 1) cap2) (acc ++ [(t, Value.slice af nf cf)]).length (tyCells (acc ++ [(t, Value.slice af nf cf)])) by rw [tyCells_snoc, List.length_append]; exact hown2)
      clear hgr2 hown2 hat2 hat3 hKb hXb hown1
      by_cases he : r1.length = 0
      · have HEN := hide (ended_is w2 q r1 hLb true (by simp [he]))
        have hr1 : r1 = [] := List.length_eq_zero_iff.1 he
        have HE := hide (show pTypes r.length r = some ((acc ++ [(t, Value.slice af nf cf)]).map (·.1)) by
          have h2 := HPT.out
          rw [hr1] at h2
          rw [HFR1.out.last h2, List.map_append]; rfl)
        clear he hLb hr1
        go_wp2_with fail
        refine HEN.out.mono ?_
        rintro e w3 ⟨rfl, rfl⟩
        go_wp2_with fail
        go_ret
        refine .inl ⟨_, _, HE.out, rfl, ?_, HKC.out⟩
        exact own_typs HOW2.out (by simp; omega) (fun p hp => (HFA.out p hp).mono (fun b _ hb => hb.1))
      · have HEN := hide (ended_is w2 q r1 hLb false (by simpa using he))
        have HST := hide (HFR1.out.step HPT.out (by intro e; exact he (by rw [e]; rfl)))
        have HLB := hide hLb
        clear he hLb
        go_wp2_with fail
        refine HEN.out.mono ?_
        rintro e w3 ⟨rfl, rfl⟩
        go_wp2_with fail
        go_roundg (gk - 1)
        case measure => omega
        case rel => exact ⟨m1, r1, acc ++ [(t, Value.slice af nf cf)], by omega, by omega, by omega, by simp; omega, HLB.out, HKC.out, HOW2.out, HFA.out, by rw [List.map_append]; exact HST.out⟩
    · have HE := hide (show pTypes r.length r = none from HFR.out.bad hp)
      clear hp
      go_wp2_with fail
      exact ⟨rfl, .inr ⟨HE.out, rfl, kq hKr hK1⟩⟩

end Go.Proofs.YtkkjchfhgjfclabGreatDoor
