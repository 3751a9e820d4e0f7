/- slices.Chunk over tokens: its iterator. -/
import Derived.RangeFuncNested
import Derived.RangeFuncBound
import Derived.RangeFuncCalls
import Derived.RangeFuncLeaves
import Derived.RangeFuncFrom
import Derived.RangeFuncBox
import Derived.Shelf.Abstract
import Derived.OwnWalkIn
import Derived.TacticsInMore
import Derived.LoopNIn
import Derived.LoopIn
import Derived.Test.YtkkjchfhgjfclabGreatDoorSchematells22
namespace Go.Proofs.YtkkjchfhgjfclabGreatDoor
open Go.RowKit Go.Shelf

attribute [local go_sem] Oper.semAt_some

/-- how many tokens piece j has, of L -/
def chM (L j : Nat) : Nat := if 300 ≤ L - 300 * j then 300 else L - 300 * j

/-- what a round keeps: all that lies below n₀ but block B -/
def KpX (B n₀ : Nat) (W W' : World) : Prop := W.heap.size ≤ W'.heap.size ∧ ∀ k, k < n₀ → k ≠ B → W'.heap[k]? = W.heap[k]?
theorem KpX.refl (B n₀ : Nat) (W : World) : KpX B n₀ W W := ⟨Nat.le_refl _, fun _ _ _ => rfl⟩
theorem KpX.trans {B n₀ : Nat} {a b c : World} (h : KpX B n₀ a b) (k : KpX B n₀ b c) : KpX B n₀ a c := ⟨Nat.le_trans h.1 k.1, fun i hi hb => (k.2 i hi hb).trans (h.2 i hi hb)⟩
theorem KpX.cell {B n₀ : Nat} {W W' : World} {p : Addr} {v : Value} (h : KpX B n₀ W W') (hv : W.cell? p = some v) (h1 : p.block < n₀) (h2 : p.block ≠ B) : W'.cell? p = some v :=
  (World.cell?_of_block (w := W) (h.2 p.block h1 h2)).trans hv
theorem kpX_b {B n₀ : Nat} {w : World} (hn : n₀ ≤ w.heap.size) (W : World) (l : Nat) (o o' : Obj) (hl : w.heap.size ≤ l) (h : W.heap[l]? = some o) (_ : o.isCells = false) (_ : o.isWalk = false) : KpX B n₀ W (W.putObj l o') := by
  have hg := grownBy_putObj' W l o'
  exact ⟨hg.size, fun k hk _ => hg.block k (by have := (Array.getElem?_eq_some_iff.1 h).1; omega) (by intro e; cases e; omega)⟩

/-- slices.Chunk: what it is handed is boxed -/
theorem chunk_in (F : Fence) (n : Nat) (h5 : F.fn 61) (hro : F.round = none) (a : Option Addr) (len cap : Nat) (w : World) :
    CallsIn F n Tryz.prog 61 #[.slice a len cap, .int .i64 300] w fun e w' => e = .returned (.func (.func 95) #[] #[.pointer (some ⟨w.heap.size, 0, none⟩), .pointer (some ⟨w.heap.size + 1, 0, none⟩)]) ∧ w' = (w.alloc (.cells #[.slice a len cap] 29)).alloc (.cells #[.int .i64 300] 3) := by
  have hmf : ∀ (fn : Fn) (first cap : Array Value) (w : World), (Instr.makeFunc fn first cap).run Tryz.prog w = .ok (.func fn first cap) w := fun _ _ _ _ => rfl
  refine callsIn_of_wp Tryz.func61 rfl h5 ?_ hro
  simp only [Tryz.ntmps61, List.size_toArray, List.length_cons, List.length_nil, Nat.reduceAdd, Nat.reduceSub, Array.replicate_succ, Array.replicate_zero, List.push_toArray, List.append_toArray, List.nil_append, List.cons_append]
  gi_wp2
  go_ret
  exact ⟨rfl, rfl⟩

def encC (g L : Nat) (j : Nat) : Array Value := #[.slice (some ⟨g, 300 * j * 3, none⟩) (chM L j) (chM L j)]

set_option maxRecDepth 100000 in
set_option maxHeartbeats 2000000 in
theorem chunk1_in (F : Fence) (n : Nat) (h7 : F.fn 95) (hro : F.round = none) (hn : 1 ≤ n) (l Bs Bn B n₀ g len cap : Nat) (hlen : len ≤ 1000000) (hcap : len ≤ cap) (hBs : Bs < n₀) (hBn : Bn < n₀) (hBs' : Bs ≠ B) (hBn' : Bn ≠ B) (J Jx : List { j : Nat // 300 * j < len } → World → Prop) (hJ : ∀ s A B, J s A → World.grownBy A B none → J s B)
    (hY : ∀ pre x W, J pre W → pre.length < len → YieldAt F (n - 1) Tryz.prog l (encC g len x.1) W fun e W' =>
      (e = .returned (.bool true) ∧ J (pre ++ [x]) W' ∧ KpX B n₀ W W') ∨ (e = .returned (.bool false) ∧ Jx (pre ++ [x]) W'))
    (W : World) (hs : W.cell? ⟨Bs, 0, none⟩ = some (.slice (some ⟨g, 0, none⟩) len cap)) (hnn : W.cell? ⟨Bn, 0, none⟩ = some (.int .i64 300)) (h0 : J [] W) :
    CallsIn F n Tryz.prog 95 #[.func (.yield l) #[] #[], .pointer (some ⟨Bs, 0, none⟩), .pointer (some ⟨Bn, 0, none⟩)] W fun e W' => (∃ v, e = .returned v) ∧
      ((∃ ys : List { j : Nat // 300 * j < len }, (∀ (i : Nat) (y : { j : Nat // 300 * j < len }), ys[i]? = some y → y.1 = i) ∧ (len ≤ 300 * ys.length ∧ 300 * ys.length < len + 300) ∧ J ys W') ∨ (∃ pre, Jx pre W')) := by
  refine callsIn_of_wp Tryz.func95 rfl h7 ?_ hro
  simp only [Tryz.ntmps95, List.size_toArray, List.length_cons, List.length_nil, Nat.reduceAdd, Nat.reduceSub, Array.replicate_succ, Array.replicate_zero, List.push_toArray, List.append_toArray, List.nil_append, List.cons_append]
  gi_wp2
  gi_loopw [4] (fun i wr => ∃ (k : Nat) (ys : List { j : Nat // 300 * j < len }), 300 * k < len + 300 ∧ i = .int .i64 (300 * k : Nat) ∧ Hid (ys.length = k) ∧ Hid (∀ (i : Nat) (y : { j : Nat // 300 * j < len }), ys[i]? = some y → y.1 = i) ∧ J ys wr ∧ Hid (KpX B n₀ W wr))
    (fun i _ => len + 300 - (intOf i).toNat)
  case atStart => exact ⟨0, [], by omega, rfl, rfl, (fun i y h => by simp at h), h0, KpX.refl _ _ _⟩
  case round =>
    obtain ⟨k, ys, hk, rfl, HL, HI, hJs, HKp⟩ := hrel
    have cs := HKp.out.cell hs hBs hBs'
    have cn := HKp.out.cell hnn hBn hBn'
    by_cases hlt : 300 * k < len
    · have hJd : J ys wr.drew := hJ _ _ _ hJs ⟨rfl, rfl, rfl, Nat.le_refl _, fun _ _ _ => rfl⟩
      have hltz : 300 * (k : Int) < (len : Int) := by omega
      by_cases hm : 300 ≤ len - 300 * k
      · have hmin : min (300 : Int) ((len - 300 * k : Nat) : Int) = 300 := by omega
        obtain ⟨fn, tmps, assign, body, hy, hR⟩ := hY ys ⟨k, hlt⟩ wr.drew hJd (by rw [HL.out]; omega)
        dsimp only [encC] at hy
        rw [show chM len k = 300 from if_pos hm] at hy
        have HR := hide hR
        clear hR hY
        gi_wp2
        gi_region
        all_goals
          try rw [hmin]
          gi_wp2
          refine HR.out.mono ?_
          rintro e W3 (⟨rfl, hJ3, hk3⟩ | ⟨rfl, hJx3⟩)
          · have hkd : KpX B n₀ wr wr.drew := ⟨Nat.le_refl _, fun _ _ _ => rfl⟩
            have HK3 := hide ((HKp.out.trans hkd).trans hk3)
            have cn3 := HK3.out.cell hnn hBn hBn'
            gi_wp2
            go_roundw
            case rel =>
              refine ⟨k + 1, ys ++ [⟨k, hlt⟩], by omega, by go_num, by rw [Hid, List.length_append, HL.out]; rfl, fun i y h => ?_, hJ3, HK3⟩
              rw [List.getElem?_append] at h
              split at h
              · exact HI.out i y h
              · rename_i hge
                have hlk := HL.out
                have : i = k := by
                  cases hz : i - ys.length with
                  | zero => omega
                  | succ m => rw [hz] at h; simp at h
                subst this
                rw [hlk, Nat.sub_self] at h
                simp at h
                rw [← h]
            case measure => simp [intOf]; omega
          · gi_wp2
            refine bodyPost_ret (results_none rfl _ _ _) rfl ?_
            exact ⟨⟨_, rfl⟩, .inr ⟨_, hJx3⟩⟩
      · have hmin : min (300 : Int) ((len - 300 * k : Nat) : Int) = ((len - 300 * k : Nat) : Int) := by omega
        obtain ⟨fn, tmps, assign, body, hy, hR⟩ := hY ys ⟨k, hlt⟩ wr.drew hJd (by rw [HL.out]; omega)
        dsimp only [encC] at hy
        rw [show chM len k = len - 300 * k from if_neg hm] at hy
        have HR := hide hR
        clear hR hY
        gi_wp2
        gi_region
        all_goals
          try rw [hmin]
          gi_wp2
          refine HR.out.mono ?_
          rintro e W3 (⟨rfl, hJ3, hk3⟩ | ⟨rfl, hJx3⟩)
          · have hkd : KpX B n₀ wr wr.drew := ⟨Nat.le_refl _, fun _ _ _ => rfl⟩
            have HK3 := hide ((HKp.out.trans hkd).trans hk3)
            have cn3 := HK3.out.cell hnn hBn hBn'
            gi_wp2
            go_roundw
            case rel =>
              refine ⟨k + 1, ys ++ [⟨k, hlt⟩], by omega, by go_num, by rw [Hid, List.length_append, HL.out]; rfl, fun i y h => ?_, hJ3, HK3⟩
              rw [List.getElem?_append] at h
              split at h
              · exact HI.out i y h
              · rename_i hge
                have hlk := HL.out
                have : i = k := by
                  cases hz : i - ys.length with
                  | zero => omega
                  | succ m => rw [hz] at h; simp at h
                subst this
                rw [hlk, Nat.sub_self] at h
                simp at h
                rw [← h]
            case measure => simp [intOf]; omega
          · gi_wp2
            refine bodyPost_ret (results_none rfl _ _ _) rfl ?_
            exact ⟨⟨_, rfl⟩, .inr ⟨_, hJx3⟩⟩
    · gi_wp2
      go_end0
      exact ⟨⟨_, rfl⟩, .inl ⟨ys, HI.out, by have := HL.out; omega, hJs⟩⟩

end Go.Proofs.YtkkjchfhgjfclabGreatDoor
