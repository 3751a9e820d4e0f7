import Derived.Test.YtidodjbmlbjchaaGreatHistorystaysupto44
import Derived.RangeFuncNested
import Derived.RangeFuncBound
import Derived.RangeFuncCalls
import Derived.RangeFuncLeaves
import Derived.RangeFuncFrom
import Derived.RangeFuncBox
import Derived.Shelf.Abstract
import Derived.OwnWalkIn
import Derived.TacticsInMore
import Derived.LoopNIn
import Derived.LoopIn
/- history.At, All, Group. -/
namespace Go.Proofs.YtidodjbmlbjchaaGreat
open Go.RowKit

theorem doA_form {w w' : World} {r : Ending} {x : Except Int StateT} (h : doA w w' r x) : ∃ a1 n1 c1 a2 n2 c2 m, r = .returned (.tuple #[stV (.slice a1 n1 c1) (.slice a2 n2 c2), .int .i64 m]) := by
  cases x with
  | error m => exact ⟨none, 0, 0, none, 0, 0, m, h.2⟩
  | ok s =>
    obtain ⟨vt, vh, e, h1, h2⟩ := h.2
    obtain ⟨a1, c1, rfl, _, _⟩ := id h1
    obtain ⟨a2, c2, rfl, _, _⟩ := id h2
    exact ⟨a1, _, c1, a2, _, c2, 0, e⟩

theorem doA_end {w W wy : World} {gr : Nat} {x : Except Int StateT} {v1 v2 : Value} {m : Int} (hK : Same w W) (h1 : w.heap.size ≤ gr) (h2 : gr < W.heap.size) (hm : doA W wy (.returned (.tuple #[stV v1 v2, .int .i64 m])) x) :
    doA w ((wy.setCell ⟨gr, 0, none⟩ v1).setCell ⟨gr, 1, none⟩ v2) (.returned (.tuple #[stV v1 v2, .int .i64 m])) x := by
  have hKg : Kept (· = gr) wy ((wy.setCell ⟨gr, 0, none⟩ v1).setCell ⟨gr, 1, none⟩ v2) := ((Kept.refl _ wy).setB 0 _).setB 1 _
  have hs := hK.size
  refine ⟨(tra hK hm.1).trans hKg (fun i hi e => by omega), ?_⟩
  cases x with
  | error n => exact hm.2
  | ok s =>
    obtain ⟨vt, vh, e, g1, g2⟩ := hm.2
    exact ⟨vt, vh, e, (g1.keep hKg (fun k hk e => by omega)).mono (fun k _ hk => Nat.le_trans hs hk), (g2.keep hKg (fun k hk e => by omega)).mono (fun k _ hk => Nat.le_trans hs hk)⟩

theorem EvSl.take {P : Nat → Prop} {w : World} {ao : Option Addr} {n cap : Nat} {l : List EventT} (h : EvSl P w (.slice ao n cap) l) (j : Nat) (hj : j ≤ l.length) : EvSl P w (.slice ao j cap) (l.take j) := by
  obtain ⟨ao', cap', hv, hl, hc⟩ := h
  cases hv
  have hlen : (l.take j).length = j := by rw [List.length_take]; omega
  refine ⟨ao, cap, by rw [hlen], by rw [hlen]; unfold maxLen at *; omega, fun i e he => hc i e ?_⟩
  rw [List.getElem?_take] at he
  split at he
  · exact he
  · cases he

theorem small_types {types : List TypeT} (h : checkSc types = 0) : Small types [] := right_small (right_empty h)

set_option maxRecDepth 20000 in
set_option maxHeartbeats 3200000 in
theorem at_any (P : Nat → Prop) (w : World) (tv lv : Value) (types : List TypeT) (l : List EventT) (n : Int) (hn : n ≤ 9223372036854775807) (ht : TypSl anyB w tv types) (hl : EvSl P w lv l) :
    Calls Tryz.prog 16 #[tv, lv, .int .i64 n] w fun r w' => doA w w' r (atS types l n) := by
  obtain ⟨at', ct, rfl, _, _⟩ := id ht
  obtain ⟨al, cl, rfl⟩ := hl.form
  obtain ⟨hz1, hmax, hcap⟩ := hl.len
  clear hz1
  obtain ⟨W, hW⟩ : ∃ W, W = w.alloc (.cells #[.slice none 0 0, .slice none 0 0] 25) := ⟨_, rfl⟩
  obtain ⟨gr, hgr⟩ : ∃ g, g = w.heap.size := ⟨_, rfl⟩
  have HKW := hide (show Same w W by rw [hW]; exact (Kept.refl _ w).alloc _)
  have HGR := hide (show W.heap[gr]? = some (.cells #[.slice none 0 0, .slice none 0 0] 25 (0, 0)) by rw [hW, hgr]; exact heap_alloc_new _ _)
  have HLT := hide (show w.heap.size ≤ gr ∧ gr < W.heap.size by rw [hW, hgr]; simp)
  have HCK := hide (scCheck_any W _ types anyB (ht.same HKW.out))
  have HT := hide (fun wy (hy : Same W wy) => (ht.same HKW.out).same hy)
  have HL := hide (fun wy (hy : Same W wy) => (hl.same HKW.out).same hy)
  obtain ⟨x, hx⟩ : ∃ x, atS types l n = x := ⟨_, rfl⟩
  have HX := hide (show x = if checkSc types ≠ 0 then .error (checkSc types) else if n < 0 ∨ (l.length : Int) < n then .error 3 else allS ⟨types, []⟩ (l.take n.toNat) from hx.symm)
  rw [hx]
  have HSM := hide (fun (h : checkSc types = 0) => small_types h)
  obtain ⟨q, hq⟩ : ∃ q, checkSc types = q := ⟨_, rfl⟩
  rw [hq] at HCK HX HSM
  clear hx hq ht hl
  have HERR := hide (fun (wy : World) (hy : Same W wy) (m : Int) (hm : x = .error m) => doA_end (x := x) (v1 := .slice none 0 0) (v2 := .slice none 0 0) (m := m) HKW.out HLT.out.1 HLT.out.2 (wy := wy) ⟨hy, by rw [hm]⟩)
  go_enter Tryz.func16, Tryz.ntmps16
  go_upto_region 1 with fail
  rw [← hW, ← hgr]
  clear hW hgr
  go_wp2_with fail
  refine HCK.out.mono ?_
  clear HCK
  rintro r w1 ⟨rfl, hK1⟩
  have HK1 := hide hK1
  have hR := blk_kept HGR.out hK1 (fun f => f)
  have HR := hide hR
  obtain ⟨p0, p1⟩ := blk2' hR
  have p2 := fro2' hR
  obtain ⟨q0', q1'⟩ := blk2' (set2b' hR (.slice none 0 0) (.slice none 0 0))
  clear hK1 hR
  by_cases h1 : q = 0
  rotate_left
  · have hqb : (q != 0) = true := by simp [h1]
    have HF := hide (HERR.out w1 HK1.out q (by rw [HX.out, if_pos h1]))
    clear h1
    go_wp2_with fail
    exact bodyPost_ret (v := .tuple #[stV (.slice none 0 0) (.slice none 0 0), .int .i64 q]) (by simp [results, Tryz.results16, go_sem, q0', q1']) rfl HF.out
  have hsm := HSM.out h1
  subst h1
  by_cases h2 : n < 0
  · have HF := hide (HERR.out w1 HK1.out 3 (by rw [HX.out, if_neg (by simp), if_pos (.inl h2)]))
    clear hsm
    go_wp2_with fail
    exact bodyPost_ret (v := .tuple #[stV (.slice none 0 0) (.slice none 0 0), .int .i64 3]) (by simp [results, Tryz.results16, go_sem, q0', q1']) rfl HF.out
  by_cases h3 : (l.length : Int) < n
  · have HF := hide (HERR.out w1 HK1.out 3 (by rw [HX.out, if_neg (by simp), if_pos (.inr h3)]))
    clear hsm
    go_wp2_with fail
    exact bodyPost_ret (v := .tuple #[stV (.slice none 0 0) (.slice none 0 0), .int .i64 3]) (by simp [results, Tryz.results16, go_sem, q0', q1']) rfl HF.out
  obtain ⟨k, rfl⟩ : ∃ k : Nat, n = k := ⟨n.toNat, by omega⟩
  have hkl : k ≤ l.length := by omega
  have HXA := hide (show x = allS ⟨types, []⟩ (l.take k) by rw [HX.out, if_neg (by simp), if_neg (by omega), Int.toNat_natCast])
  have HBE := hide (behind_any P w1 _ (.slice none 0 0) _ ⟨types, []⟩ (l.take k) (HT.out w1 HK1.out) (ThgSl.nil _ _) hsm ((HL.out w1 HK1.out).take k hkl))
  rw [← HXA.out] at HBE
  have hb0 : (0 : Int) ≤ (k : Int) := by omega
  have hb1 : (k : Int) ≤ (cl : Int) := by omega
  have hb2 : k ≤ cl := by omega
  clear hsm h2 h3 q0' q1'
  have h2 : ¬ ((k : Int) < 0) := by omega
  have h3 : ¬ ((l.length : Int) < (k : Int)) := by omega
  go_wp2_with fail
  refine HBE.out.mono ?_
  clear HBE
  intro r w2 hQ
  obtain ⟨a1, n1, c1, a2, n2, c2, m, rfl⟩ := doA_form hQ
  have hK2 := hQ.1
  have hR := blk_kept HR.out hK2 (fun f => f)
  obtain ⟨p0, p1⟩ := blk2' hR
  have p2 := fro2' hR
  obtain ⟨q0', q1'⟩ := blk2' (set2b' hR (.slice a1 n1 c1) (.slice a2 n2 c2))
  have HF := hide (doA_end (tra HKW.out HK1.out) HLT.out.1 (Nat.lt_of_lt_of_le HLT.out.2 HK1.out.size) hQ)
  clear hQ hK2 hR
  go_wp2_with fail
  exact bodyPost_ret (v := .tuple #[stV (.slice a1 n1 c1) (.slice a2 n2 c2), .int .i64 m]) (by simp [results, Tryz.results16, go_sem, q0', q1']) rfl HF.out

set_option maxRecDepth 20000 in
set_option maxHeartbeats 3200000 in
theorem all_any (P : Nat → Prop) (w : World) (tv lv : Value) (types : List TypeT) (l : List EventT) (ht : TypSl anyB w tv types) (hl : EvSl P w lv l) :
    Calls Tryz.prog 15 #[tv, lv] w fun r w' => doA w w' r (atS types l l.length) := by
  obtain ⟨at', ct, rfl, _, _⟩ := id ht
  obtain ⟨al, cl, rfl⟩ := hl.form
  obtain ⟨hz1, hmax, hcap⟩ := hl.len
  clear hz1
  obtain ⟨W, hW⟩ : ∃ W, W = w.alloc (.cells #[.slice none 0 0, .slice none 0 0] 25) := ⟨_, rfl⟩
  obtain ⟨gr, hgr⟩ : ∃ g, g = w.heap.size := ⟨_, rfl⟩
  have HKW := hide (show Same w W by rw [hW]; exact (Kept.refl _ w).alloc _)
  have HGR := hide (show W.heap[gr]? = some (.cells #[.slice none 0 0, .slice none 0 0] 25 (0, 0)) by rw [hW, hgr]; exact heap_alloc_new _ _)
  have HLT := hide (show w.heap.size ≤ gr ∧ gr < W.heap.size by rw [hW, hgr]; simp)
  have HAT := hide (at_any P W _ _ types l l.length (by omega) (ht.same HKW.out) (hl.same HKW.out))
  clear ht hl
  go_enter Tryz.func15, Tryz.ntmps15
  go_upto_region 1 with fail
  rw [← hW, ← hgr]
  clear hW hgr
  go_wp2_with fail
  refine HAT.out.mono ?_
  clear HAT
  intro r w2 hQ
  obtain ⟨a1, n1, c1, a2, n2, c2, m, rfl⟩ := doA_form hQ
  have hK2 := hQ.1
  have hR := blk_kept HGR.out hK2 (fun f => f)
  obtain ⟨p0, p1⟩ := blk2' hR
  have p2 := fro2' hR
  obtain ⟨q0', q1'⟩ := blk2' (set2b' hR (.slice a1 n1 c1) (.slice a2 n2 c2))
  have HF := hide (doA_end HKW.out HLT.out.1 HLT.out.2 hQ)
  clear hQ hK2 hR
  go_wp2_with fail
  exact bodyPost_ret (v := .tuple #[stV (.slice a1 n1 c1) (.slice a2 n2 c2), .int .i64 m]) (by simp [results, Tryz.results15, go_sem, q0', q1']) rfl HF.out

set_option maxRecDepth 20000 in
set_option maxHeartbeats 3200000 in
theorem group_any (P : Nat → Prop) (w : World) (vt vh lv : Value) (s : StateT) (l : List EventT) (ht : TypSl anyB w vt s.types) (hh : ThgSl anyB w vh s.things) (hl : EvSl P w lv l) :
    Calls Tryz.prog 17 #[stV vt vh, lv] w fun r w' => doA w w' r (groupS s l) := by
  obtain ⟨at', ct, rfl, _, _⟩ := id ht
  obtain ⟨ah, ch, rfl, _, _⟩ := id hh
  obtain ⟨al, cl, rfl⟩ := hl.form
  obtain ⟨W, hW⟩ : ∃ W, W = (w.alloc (.cells #[.slice at' s.types.length ct, .slice ah s.things.length ch] 25)).alloc (.cells #[.slice none 0 0, .slice none 0 0] 25) := ⟨_, rfl⟩
  obtain ⟨gs, hgs⟩ : ∃ g, g = w.heap.size := ⟨_, rfl⟩
  obtain ⟨gr, hgr⟩ : ∃ g, g = w.heap.size + 1 := ⟨_, rfl⟩
  have HKW := hide (show Same w W by rw [hW]; exact ((Kept.refl _ w).alloc _).alloc _)
  have hGS : W.heap[gs]? = some (.cells #[.slice at' s.types.length ct, .slice ah s.things.length ch] 25 (0, 0)) := by rw [hW, hgs]; exact al_o _ _ _
  have HGR := hide (show W.heap[gr]? = some (.cells #[.slice none 0 0, .slice none 0 0] 25 (0, 0)) by rw [hW, hgr]; exact al_n _ _ _)
  have HLT := hide (show w.heap.size ≤ gr ∧ gr < W.heap.size by rw [hW, hgr]; simp)
  have HS := hide (fun wy (hy : Same W wy) => blk2' (blk_kept hGS hy (fun f => f)))
  have HCK := hide (stCheck_any W _ _ s (ht.same HKW.out) (hh.same HKW.out))
  have HT := hide (fun wy (hy : Same W wy) => (ht.same HKW.out).same hy)
  have HH := hide (fun wy (hy : Same W wy) => (hh.same HKW.out).same hy)
  have HL := hide (fun wy (hy : Same W wy) => (hl.same HKW.out).same hy)
  obtain ⟨x, hx⟩ : ∃ x, groupS s l = x := ⟨_, rfl⟩
  have HX := hide (show x = if checkSt s ≠ 0 then .error (checkSt s) else if 8 < l.length then .error 2 else allS s l from hx.symm)
  rw [hx]
  have HSM := hide (fun (h : checkSt s = 0) => right_small ((checkSt_iff s).1 h))
  obtain ⟨q, hq⟩ : ∃ q, checkSt s = q := ⟨_, rfl⟩
  rw [hq] at HCK HX HSM
  obtain ⟨c0, c1⟩ := HS.out W (Kept.refl _ _)
  clear hx hq ht hh hl hGS
  have HERR := hide (fun (wy : World) (hy : Same W wy) (m : Int) (hm : x = .error m) => doA_end (x := x) (v1 := .slice none 0 0) (v2 := .slice none 0 0) (m := m) HKW.out HLT.out.1 HLT.out.2 (wy := wy) ⟨hy, by rw [hm]⟩)
  go_enter Tryz.func17, Tryz.ntmps17
  go_upto_region 1 with fail
  rw [← hW, ← hgr, ← hgs]
  clear hW hgr hgs
  go_wp2_with fail
  refine HCK.out.mono ?_
  clear HCK c0 c1
  rintro r w1 ⟨rfl, hK1⟩
  have HK1 := hide hK1
  have hR := blk_kept HGR.out hK1 (fun f => f)
  have HR := hide hR
  obtain ⟨p0, p1⟩ := blk2' hR
  have p2 := fro2' hR
  obtain ⟨q0', q1'⟩ := blk2' (set2b' hR (.slice none 0 0) (.slice none 0 0))
  clear hK1 hR
  by_cases h1 : q = 0
  rotate_left
  · have hqb : (q != 0) = true := by simp [h1]
    have HF := hide (HERR.out w1 HK1.out q (by rw [HX.out, if_pos h1]))
    clear h1
    go_wp2_with fail
    exact bodyPost_ret (v := .tuple #[stV (.slice none 0 0) (.slice none 0 0), .int .i64 q]) (by simp [results, Tryz.results17, go_sem, q0', q1']) rfl HF.out
  have hsm := HSM.out h1
  subst h1
  by_cases h2 : 8 < l.length
  · have HF := hide (HERR.out w1 HK1.out 2 (by rw [HX.out, if_neg (by simp), if_pos h2]))
    have h2i : (8 : Int) < (l.length : Int) := by omega
    clear hsm h2
    go_wp2_with fail
    exact bodyPost_ret (v := .tuple #[stV (.slice none 0 0) (.slice none 0 0), .int .i64 2]) (by simp [results, Tryz.results17, go_sem, q0', q1']) rfl HF.out
  have HXA := hide (show x = allS s l by rw [HX.out, if_neg (by simp), if_neg h2])
  have HBE := hide (behind_any P w1 _ _ _ s l (HT.out w1 HK1.out) (HH.out w1 HK1.out) hsm (HL.out w1 HK1.out))
  rw [← HXA.out] at HBE
  have h2i : ¬ ((8 : Int) < (l.length : Int)) := by omega
  obtain ⟨c0, c1⟩ := HS.out w1 HK1.out
  clear hsm h2 q0' q1'
  go_wp2_with fail
  refine HBE.out.mono ?_
  clear HBE c0 c1
  intro r w2 hQ
  obtain ⟨a1, n1, c1, a2, n2, c2, m, rfl⟩ := doA_form hQ
  have hK2 := hQ.1
  have hR := blk_kept HR.out hK2 (fun f => f)
  obtain ⟨p0, p1⟩ := blk2' hR
  have p2 := fro2' hR
  obtain ⟨q0', q1'⟩ := blk2' (set2b' hR (.slice a1 n1 c1) (.slice a2 n2 c2))
  have HF := hide (doA_end (tra HKW.out HK1.out) HLT.out.1 (Nat.lt_of_lt_of_le HLT.out.2 HK1.out.size) hQ)
  clear hQ hK2 hR
  go_wp2_with fail
  exact bodyPost_ret (v := .tuple #[stV (.slice a1 n1 c1) (.slice a2 n2 c2), .int .i64 m]) (by simp [results, Tryz.results17, go_sem, q0', q1']) rfl HF.out

end Go.Proofs.YtidodjbmlbjchaaGreat

/- slices.Backward over events. -/
namespace Go.Proofs.YtidodjbmlbjchaaGreat
open Go.RowKit Go.Shelf

attribute [local go_sem] Oper.semAt_some

/-- the undoing of event j -/
def undoAt (s : StateT) (L : List EventT) (j : Nat) : Except Int EventT := match allS s (L.take j) with
  | .error m => .error m
  | .ok a => match L[j]? with | none => .error 0 | some e => undoSt a e

theorem backN_step (s : StateT) (L : List EventT) (k : Nat) (acc : List EventT) : backN s L (k + 1) acc = match undoAt s L k with | .error m => .error m | .ok u => backN s L k (acc ++ [u]) := by
  rw [backN, undoAt]
  cases allS s (L.take k) with
  | error m => rfl
  | ok a =>
    simp only
    cases L[k]? with
    | none => rfl
    | some e =>
      simp only
      cases undoSt a e <;> rfl

abbrev Ix (L : List EventT) := { j : Nat // j < L.length }
/-- the last one first -/
def Seqq (L : List EventT) (ys : List (Ix L)) : Prop := ∀ (i : Nat) (y : Ix L), ys[i]? = some y → y.1 + i + 1 = L.length
/-- what was undone -/
def Undos (s : StateT) (L : List EventT) (ys : List (Ix L)) (acc : List EventT) : Prop := acc.length = ys.length ∧ ∀ (i : Nat) (y : Ix L) (u : EventT), ys[i]? = some y → acc[i]? = some u → undoAt s L y.1 = .ok u

theorem Undos.nil (s : StateT) (L : List EventT) : Undos s L [] [] := ⟨rfl, fun i y u h => by simp at h⟩
theorem Undos.snoc {s : StateT} {L : List EventT} {ys : List (Ix L)} {acc : List EventT} (h : Undos s L ys acc) {x : Ix L} {u : EventT} (hu : undoAt s L x.1 = .ok u) : Undos s L (ys ++ [x]) (acc ++ [u]) := by
  refine ⟨by simp [h.1], fun i y v hy hv => ?_⟩
  rw [List.getElem?_append] at hy hv
  rw [h.1] at hv
  split at hy
  · rename_i hi
    rw [if_pos hi] at hv
    exact h.2 i y v hy hv
  · rename_i hi
    rw [if_neg hi] at hv
    cases hz : i - ys.length with
    | zero =>
      rw [hz] at hy hv
      simp at hy hv
      subst hy hv
      exact hu
    | succ m => rw [hz] at hy; simp at hy

theorem undos_take {s : StateT} {L : List EventT} {ys : List (Ix L)} {acc : List EventT} (hq : Seqq L ys) (h : Undos s L ys acc) : ∀ n, n ≤ ys.length → backN s L L.length [] = backN s L (L.length - n) (acc.take n) := by
  intro n
  induction n with
  | zero => intro _; simp
  | succ n ih =>
    intro hn
    rw [ih (by omega)]
    have hl : n < ys.length := by omega
    have hla : n < acc.length := by rw [h.1]; exact hl
    have h1 := hq n ys[n] (List.getElem?_eq_getElem hl)
    have h2 := h.2 n ys[n] acc[n] (List.getElem?_eq_getElem hl) (List.getElem?_eq_getElem hla)
    obtain ⟨k, hk⟩ : ∃ k, L.length - n = k + 1 := ⟨L.length - n - 1, by omega⟩
    have hk2 : ys[n].1 = k := by omega
    rw [hk, backN_step, ← hk2, h2]
    simp only
    rw [show L.length - (n + 1) = ys[n].1 by omega, List.take_add_one, List.getElem?_eq_getElem hla]
    rfl
theorem undos_all {s : StateT} {L : List EventT} {ys : List (Ix L)} {acc : List EventT} (hq : Seqq L ys) (h : Undos s L ys acc) (hl : ys.length = L.length) : backN s L L.length [] = .ok acc := by
  rw [undos_take hq h ys.length (Nat.le_refl _), hl, Nat.sub_self, ← hl, ← h.1, List.take_length]
  rfl
theorem undos_stop {s : StateT} {L : List EventT} {ys : List (Ix L)} {x : Ix L} {acc : List EventT} {m : Int} (hq : Seqq L (ys ++ [x])) (h : Undos s L ys acc) (hm : undoAt s L x.1 = .error m) : backN s L L.length [] = .error m := by
  have hq' : Seqq L ys := fun i y hy => hq i y (by rw [List.getElem?_append_left (List.getElem?_eq_some_iff.1 hy).1]; exact hy)
  have hx := hq ys.length x (by simp)
  rw [undos_take hq' h ys.length (Nat.le_refl _), show L.length - ys.length = x.1 + 1 by omega, backN_step, hm]

/-- what an iteration hands over -/
def encB (L : List EventT) (x : Ix L) : Array Value := #[.int .i64 x.1, evV (L[x.1]'x.2)]

theorem back_in (F : Fence) (n : Nat) (h5 : F.fn 45) (hro : F.round = none) (a : Option Addr) (len cap : Nat) (w : World) :
    CallsIn F n Tryz.prog 45 #[.slice a len cap] w fun e w' => e = .returned (.func (.func 68) #[] #[.pointer (some ⟨w.heap.size, 0, none⟩)]) ∧ w' = w.alloc (.cells #[.slice a len cap] 37) := by
  have hmf : ∀ (fn : Fn) (first cap : Array Value) (w : World), (Instr.makeFunc fn first cap).run Tryz.prog w = .ok (.func fn first cap) w := fun _ _ _ _ => rfl
  refine callsIn_of_wp Tryz.func45 rfl h5 ?_ hro
  simp only [Tryz.ntmps45, List.size_toArray, List.length_cons, List.length_nil, Nat.reduceAdd, Nat.reduceSub, Array.replicate_succ, Array.replicate_zero, List.push_toArray, List.append_toArray, List.nil_append, List.cons_append]
  gi_wp2
  go_ret
  exact ⟨rfl, rfl⟩

set_option maxRecDepth 100000 in
set_option maxHeartbeats 2000000 in
theorem back1_in (P : Nat → Prop) (F : Fence) (n : Nat) (h7 : F.fn 68) (hro : F.round = none) (hn : 1 ≤ n) (l Bs cap : Nat) (ao : Option Addr) (L : List EventT) (hlen : L.length ≤ 1000) (Kp : World → World → Prop) (hKr : ∀ W, Kp W W) (hKt : ∀ {A B C : World}, Kp A B → Kp B C → Kp A C) (J Jx : List (Ix L) → World → Prop)
    (hY : ∀ pre x W, J pre W → pre.length < L.length → YieldAt F (n - 1) Tryz.prog l (encB L x) W fun e W' =>
      (e = .returned (.bool true) ∧ J (pre ++ [x]) W' ∧ Kp W W') ∨ (e = .returned (.bool false) ∧ Jx (pre ++ [x]) W'))
    (W : World) (hW : ∀ W', Kp W W' → W'.cell? ⟨Bs, 0, none⟩ = some (.slice ao L.length cap) ∧ EvSl P W' (.slice ao L.length cap) L) (h0 : J [] W) :
    CallsIn F n Tryz.prog 68 #[.func (.yield l) #[] #[], .pointer (some ⟨Bs, 0, none⟩)] W fun e W' => (∃ v, e = .returned v) ∧
      ((∃ ys, (Seqq L ys ∧ ys.length = L.length) ∧ J ys W') ∨ (∃ pre, Seqq L pre ∧ Jx pre W')) := by
  obtain ⟨c0, _⟩ := hW W (hKr W)
  refine callsIn_of_wp Tryz.func68 rfl h7 ?_ hro
  simp only [Tryz.ntmps68, List.size_toArray, List.length_cons, List.length_nil, Nat.reduceAdd, Nat.reduceSub, Array.replicate_succ, Array.replicate_zero, List.push_toArray, List.append_toArray, List.nil_append, List.cons_append]
  have hw0 : IntKind.i64.wrap ((L.length : Int) - 1) = (L.length : Int) - 1 := by rw [IntKind.wrap_i64]; omega
  gi_wp2
  clear c0 hw0
  gi_loopw [3] (fun i wr => ∃ (r : Nat) (ys : List (Ix L)), i = .int .i64 ((r : Int) - 1) ∧ Hid (ys.length + r = L.length) ∧ Hid (Seqq L ys) ∧ J ys wr ∧ Hid (Kp W wr))
    (fun i _ => (intOf i + 1).toNat)
  case atStart => exact ⟨L.length, [], rfl, by simp [Hid], (fun i y h => by simp at h), h0, hKr W⟩
  case round =>
    obtain ⟨r, ys, rfl, HL, HS, hJs, HKp⟩ := hrel
    obtain ⟨c0, hev⟩ := hW wr HKp.out
    have HEV := hide hev
    clear hev
    cases r with
    | zero =>
      have hneg : ¬ ((0 : Int) ≤ ((0 : Nat) : Int) - 1) := by omega
      gi_wp2
      go_end0
      exact ⟨⟨_, rfl⟩, .inl ⟨ys, ⟨HS.out, by have := HL.out; omega⟩, hJs⟩⟩
    | succ m =>
      have hm1 : ((m + 1 : Nat) : Int) - 1 = (m : Int) := by omega
      have hlt : m < L.length := by have := HL.out; omega
      obtain ⟨b, off, rfl, _, f0, f1, f2, f3, f4, f5⟩ := HEV.out.at m hlt
      have hb0 : (0 : Int) ≤ (m : Int) := by omega
      have hb1 : (m : Int) < (L.length : Int) := by omega
      have hwm : IntKind.i64.wrap ((m : Int) - 1) = (m : Int) - 1 := by rw [IntKind.wrap_i64]; omega
      rw [hm1]
      obtain ⟨fn, tmps, assign, body, hy, hR⟩ := hY ys ⟨m, hlt⟩ wr hJs (by have := HL.out; omega)
      dsimp only [encB] at hy
      have HR := hide hR
      clear hR hm1
      gi_wp2
      refine HR.out.mono ?_
      rintro e W3 (⟨rfl, hJ3, hk3⟩ | ⟨rfl, hJx3⟩)
      · have HK3 := hide (hKt HKp.out hk3)
        clear c0 f0 f1 f2 f3 f4 f5 hk3
        gi_wp2
        go_roundw
        case rel =>
          refine ⟨m, ys ++ [⟨m, hlt⟩], rfl, ?_, ?_, hJ3, HK3⟩
          · show (ys ++ [(⟨m, hlt⟩ : Ix L)]).length + m = L.length
            rw [List.length_append, List.length_singleton]
            have := HL.out
            omega
          · show Seqq L (ys ++ [⟨m, hlt⟩])
            intro i y h
            rw [List.getElem?_append] at h
            split at h
            · exact HS.out i y h
            · have hlk := HL.out
              cases hz : i - ys.length with
              | zero =>
                rw [hz] at h
                simp at h
                subst h
                show m + i + 1 = L.length
                omega
              | succ q => rw [hz] at h; simp at h
        case measure => simp [intOf]; try omega
      · have HSq := hide (show Seqq L (ys ++ [⟨m, hlt⟩]) by
          intro i y h
          rw [List.getElem?_append] at h
          split at h
          · exact HS.out i y h
          · have hlk := HL.out
            cases hz : i - ys.length with
            | zero =>
              rw [hz] at h
              simp at h
              subst h
              show m + i + 1 = L.length
              omega
            | succ q => rw [hz] at h; simp at h)
        gi_wp2
        refine bodyPost_ret (results_none rfl _ _ _) rfl ?_
        exact ⟨⟨_, rfl⟩, .inr ⟨_, HSq.out, hJx3⟩⟩

theorem back_stops (P : Nat → Prop) (F : Fence) (n : Nat) (h7 : F.fn 68) (hro : F.round = none) (hn : 1 ≤ n) (Bs cap : Nat) (ao : Option Addr) (L : List EventT) (hlen : L.length ≤ 1000) (Kp : World → World → Prop) (hKr : ∀ W, Kp W W) (hKt : ∀ {A B C : World}, Kp A B → Kp B C → Kp A C) (w : World)
    (hW : ∀ W W', Below w.heap.size w W → Kp W W' → W'.cell? ⟨Bs, 0, none⟩ = some (.slice ao L.length cap) ∧ EvSl P W' (.slice ao L.length cap) L) :
    SeqStopsK F n Tryz.prog 68 #[.pointer (some ⟨Bs, 0, none⟩)] (encB L) Kp (fun ys => Seqq L ys ∧ ys.length = L.length) (Seqq L) L.length w := fun l J Jx W hb _ _ hY h0 =>
  back1_in P F n h7 hro hn l Bs cap ao L hlen Kp hKr hKt J Jx hY W (fun W' hk => hW W W' hb hk) h0

end Go.Proofs.YtidodjbmlbjchaaGreat
