import Derived.Test.YtillhpepfpldcaaDiskcrash06
import Derived.Test.YtillhpepfpldcaaDiskcrash03
import Derived.Test.YtillhpepfpldcaaChecked
import Derived.Test.YtillhpepfpldcaaDiskcrash01
import Derived.Lib.AppendStr
import Derived.Lib.UnsafeStr
import Derived.Maps.AppendAt
/- batch.wrong, batch.Check. -/
namespace Go.Proofs.Ytillhpepfpldcaa
open Go.RowKit

theorem pIntB_eq (n : Int) : pIntB n = (decide (-999999999 ≤ n) && decide (n ≤ 999999999)) := rfl

set_option maxHeartbeats 800000 in
theorem inRange_any (e : EventT) (w : World) :
    Calls Try.prog 61 #[evV e] w fun r w' => r = .returned (.bool (rangeE e)) ∧ Same w w' := by
  obtain ⟨k, ty, i, f, n, t⟩ := e
  go_enter Try.func61, Try.ntmps61
  go_wp2_with (first
    | (go_at_call 76; refine (pIsIndex _ _ _).mono ?_; rintro e w' ⟨rfl, rfl⟩)
    | (go_at_call 77; refine (pIsId _ _).mono ?_; rintro e w' ⟨rfl, rfl⟩)
    | (go_at_call 78; refine (pIsInt _ _).mono ?_; rintro e w' ⟨rfl, rfl⟩))
  all_goals go_ret
  all_goals refine ⟨ret_bool ?_, (by repeat' (first | assumption | exact Kept.refl _ _ | refine Kept.drewN ?_ _ | refine Kept.drew ?_ | refine Kept.alloc ?_ _ | refine Kept.setB ?_ _ _))⟩
  all_goals (unfold rangeE; rw [← pIntB_eq, isIx_I, isIx_I]; simp_all)

set_option maxHeartbeats 800000 in
theorem wrong_ev (e : EventT) (w : World) :
    Calls Try.prog 44 #[evV e] w fun r w' => r = .returned (.int .i64 (wrongE e)) ∧ Same w w' := by
  have HS := hide (fun wx => pShape e wx)
  have HR := hide (fun wx => inRange_any e wx)
  by_cases h0 : shapeE e = 0
  · have h0' : (shapeE e != 0) = false := by simp [h0]
    cases hr : rangeE e with
    | false =>
      have HF := hide (show wrongE e = 3 by unfold wrongE; rw [if_neg (by simp [h0]), if_pos hr])
      have HRf := hide hr
      clear h0 hr
      obtain ⟨k, ty, i, f, n, t⟩ := e
      go_enter Try.func44, Try.ntmps44
      go_wp2_with fail
      refine (HS.out _).mono ?_
      rintro r w1 ⟨rfl, hK1⟩
      have hg := new_kept (w := w) hK1 (fun f => f)
      obtain ⟨z0, z1, z2, z3, z4, z5, _⟩ := cells6 hg
      go_wp2_with fail
      refine (HR.out _).mono ?_
      rintro r w2 ⟨rfl, hK2⟩
      rw [HRf.out]
      go_wp2_with fail
      go_ret
      exact ⟨ret_int HF.out.symm, (hK1.trans hK2 (fun _ _ f => f)).unA⟩
    | true =>
      have HRf := hide hr
      by_cases hl : 40 < e.text.length
      · have HF := hide (show wrongE e = 2 by unfold wrongE; rw [if_neg (by simp [h0]), if_neg (by simp [hr]), if_pos hl])
        clear h0 hr
        obtain ⟨k, ty, i, f, n, t⟩ := e
        simp only at hl
        have hl' : ¬ (⟨t.toArray⟩ : ByteArray).size ≤ 40 := by show ¬ t.toArray.size ≤ 40; rw [List.size_toArray]; omega
        go_enter Try.func44, Try.ntmps44
        go_wp2_with fail
        refine (HS.out _).mono ?_
        rintro r w1 ⟨rfl, hK1⟩
        have hg := new_kept (w := w) hK1 (fun f => f)
        obtain ⟨z0, z1, z2, z3, z4, z5, _⟩ := cells6 hg
        go_wp2_with fail
        refine (HR.out _).mono ?_
        rintro r w2 ⟨rfl, hK2⟩
        rw [HRf.out]
        have hg2 := new_kept (w := w) (hK1.trans hK2 (fun _ _ f => f)) (fun f => f)
        obtain ⟨y0, y1, y2, y3, y4, y5, _⟩ := cells6 hg2
        go_wp2_with fail
        go_ret
        exact ⟨ret_int HF.out.symm, (hK1.trans hK2 (fun _ _ f => f)).unA⟩
      · have HF := hide (show wrongE e = 0 by unfold wrongE; rw [if_neg (by simp [h0]), if_neg (by simp [hr]), if_neg hl])
        clear h0 hr
        obtain ⟨k, ty, i, f, n, t⟩ := e
        simp only at hl
        have hl' : (⟨t.toArray⟩ : ByteArray).size ≤ 40 := by show t.toArray.size ≤ 40; rw [List.size_toArray]; omega
        go_enter Try.func44, Try.ntmps44
        go_wp2_with fail
        refine (HS.out _).mono ?_
        rintro r w1 ⟨rfl, hK1⟩
        have hg := new_kept (w := w) hK1 (fun f => f)
        obtain ⟨z0, z1, z2, z3, z4, z5, _⟩ := cells6 hg
        go_wp2_with fail
        refine (HR.out _).mono ?_
        rintro r w2 ⟨rfl, hK2⟩
        rw [HRf.out]
        have hg2 := new_kept (w := w) (hK1.trans hK2 (fun _ _ f => f)) (fun f => f)
        obtain ⟨y0, y1, y2, y3, y4, y5, _⟩ := cells6 hg2
        go_wp2_with fail
        go_ret
        exact ⟨ret_int HF.out.symm, (hK1.trans hK2 (fun _ _ f => f)).unA⟩
  · have h0' : (shapeE e != 0) = true := by simp [h0]
    have HF := hide (show wrongE e = shapeE e by unfold wrongE; rw [if_pos h0])
    clear h0
    obtain ⟨k, ty, i, f, n, t⟩ := e
    go_enter Try.func44, Try.ntmps44
    go_wp2_with fail
    refine (HS.out _).mono ?_
    rintro r w1 ⟨rfl, hK1⟩
    go_wp2_with fail
    go_ret
    exact ⟨ret_int HF.out.symm, hK1.unA⟩

def badE (e : EventT) : Bool := decide (wrongE e ≠ 0)

theorem check1_ev (e : EventT) (w : World) :
    Calls Try.prog 43 #[evV e] w fun r w' => r = .returned (.bool (badE e)) ∧ Same w w' := by
  have HW := hide (fun wx => wrong_ev e wx)
  have HB := hide (show (wrongE e != 0) = badE e by unfold badE; rw [Bool.eq_iff_iff]; simp)
  obtain ⟨k, ty, i, f, n, t⟩ := e
  go_enter Try.func43, Try.ntmps43
  go_wp2_with fail
  refine (HW.out _).mono ?_
  rintro r w1 ⟨rfl, hK1⟩
  go_wp2_with fail
  go_ret
  exact ⟨ret_bool HB.out, hK1.unA⟩

theorem enters_c1 (args : Array Value) (w : World) : (callFunc 43 args).run Try.prog w = .ok (.enter 43 args) w := by kernel_rfl

theorem wrongEs_first (l : List EventT) : wrongEs l = if l.any badE then wrongE (firstE badE l) else 0 := by
  induction l with
  | nil => rfl
  | cons e r ih =>
    rw [wrongEs]
    by_cases h : wrongE e = 0
    · have hb : badE e = false := by unfold badE; simp [h]
      rw [if_neg (by simp [h]), ih]
      simp only [List.any_cons, hb, Bool.false_or, firstE, List.find?_cons]
    · have hb : badE e = true := by unfold badE; simp [h]
      rw [if_pos h]
      simp only [List.any_cons, hb, Bool.true_or, if_true, firstE, List.find?_cons, Option.getD_some]

set_option maxHeartbeats 1600000 in
theorem checkBa_any (P : Nat → Prop) (b : BatchT) (v : Value) (w : World) (h : EvSl P w v b.events) :
    Calls Try.prog 14 #[baV b.number v] w fun r w' => r = .returned (.int .i64 (checkBa b)) ∧ Same w w' := by
  obtain ⟨num, l⟩ := b
  simp only at h ⊢
  have HFi := hide (fun wx hK => firstE_any 43 badE enters_c1 check1_ev P wx v l (h.same hK))
  obtain ⟨ao, cap, rfl⟩ := h.form
  obtain ⟨_, hl, hcap⟩ := h.len
  clear h
  by_cases h1 : num < 1 ∨ 65535 < num
  · have HF := hide (show checkBa ⟨num, l⟩ = 3 by unfold checkBa; rw [if_pos h1])
    rcases Decidable.em (num < 1) with h2 | h2
    · clear h1
      go_enter Try.func14, Try.ntmps14
      go_wp2_with fail
      go_ret
      exact ⟨ret_int HF.out.symm, (by repeat' (first | assumption | exact Kept.refl _ _ | refine Kept.drewN ?_ _ | refine Kept.drew ?_ | refine Kept.alloc ?_ _ | refine Kept.setB ?_ _ _))⟩
    · have h3 : 65535 < num := by omega
      have h2' : ¬ num ≤ 65535 := by omega
      clear h1
      go_enter Try.func14, Try.ntmps14
      go_wp2_with fail
      go_ret
      exact ⟨ret_int HF.out.symm, (by repeat' (first | assumption | exact Kept.refl _ _ | refine Kept.drewN ?_ _ | refine Kept.drew ?_ | refine Kept.alloc ?_ _ | refine Kept.setB ?_ _ _))⟩
  · have h2 : ¬ num < 1 := by omega
    have h3 : num ≤ 65535 := by omega
    by_cases h4 : l.length = 0
    · have HF := hide (show checkBa ⟨num, l⟩ = 1 by unfold checkBa; rw [if_neg h1, if_pos h4])
      have h4' : ((l.length : Int) == 0) = true := by simp; exact List.length_eq_zero_iff.1 h4
      clear h1 h4
      go_enter Try.func14, Try.ntmps14
      go_wp2_with fail
      go_ret
      exact ⟨ret_int HF.out.symm, (by repeat' (first | assumption | exact Kept.refl _ _ | refine Kept.drewN ?_ _ | refine Kept.drew ?_ | refine Kept.alloc ?_ _ | refine Kept.setB ?_ _ _))⟩
    · have h4' : ((l.length : Int) == 0) = false := by rw [beq_eq_false_iff_ne]; omega
      by_cases h5 : 8 < l.length
      · have HF := hide (show checkBa ⟨num, l⟩ = 2 by unfold checkBa; rw [if_neg h1, if_neg h4, if_pos h5])
        clear h1 h4
        go_enter Try.func14, Try.ntmps14
        go_wp2_with fail
        go_ret
        exact ⟨ret_int HF.out.symm, (by repeat' (first | assumption | exact Kept.refl _ _ | refine Kept.drewN ?_ _ | refine Kept.drew ?_ | refine Kept.alloc ?_ _ | refine Kept.setB ?_ _ _))⟩
      · have hF : checkBa ⟨num, l⟩ = wrongEs l := by unfold checkBa; rw [if_neg h1, if_neg h4, if_neg h5]
        rw [wrongEs_first] at hF
        clear h1 h4
        cases hb : l.any badE with
        | false =>
          rw [hb] at hF
          have HF := hide hF
          have HB := hide hb
          clear hF hb
          obtain ⟨x0, x1, x2, x3, x4, x5⟩ := firstE badE l
          go_enter Try.func14, Try.ntmps14
          go_wp2_with fail
          refine (HFi.out _ (by repeat' (first | assumption | exact Kept.refl _ _ | refine Kept.drewN ?_ _ | refine Kept.drew ?_ | refine Kept.alloc ?_ _ | refine Kept.setB ?_ _ _))).mono ?_
          rintro r w1 ⟨rfl, hK1⟩
          rw [HB.out]
          go_wp2_with fail
          go_ret
          exact ⟨ret_int HF.out.symm, hK1.unA.alloc _⟩
        | true =>
          rw [hb] at hF
          have HF := hide hF
          have HB := hide hb
          have HW := hide (fun wx => wrong_ev (firstE badE l) wx)
          clear hF hb
          generalize firstE badE l = x at *
          obtain ⟨x0, x1, x2, x3, x4, x5⟩ := x
          go_enter Try.func14, Try.ntmps14
          go_wp2_with fail
          refine (HFi.out _ (by repeat' (first | assumption | exact Kept.refl _ _ | refine Kept.drewN ?_ _ | refine Kept.drew ?_ | refine Kept.alloc ?_ _ | refine Kept.setB ?_ _ _))).mono ?_
          rintro r w1 ⟨rfl, hK1⟩
          rw [HB.out]
          go_wp2_with fail
          refine (HW.out _).mono ?_
          rintro r w2 ⟨rfl, hK2⟩
          go_wp2_with fail
          go_ret
          exact ⟨ret_int HF.out.symm, (hK1.unA.alloc _).trans hK2 (fun _ _ f => f)⟩

end Go.Proofs.Ytillhpepfpldcaa

/- Bytes and strings: a row of bytes as a string. -/
namespace Go.Proofs.Ytillhpepfpldcaa
open Go.RowKit

theorem push_bytes (l : List UInt8) : ∀ acc : ByteArray, (l.map fun b => (b.toNat : Int)).foldl (fun r n => r.push (UInt8.ofNat n.toNat)) acc = ⟨acc.data ++ l.toArray⟩ := by
  induction l with
  | nil => intro acc; apply ByteArray.ext; simp
  | cons c r ih =>
    intro acc
    rw [List.map_cons, List.foldl_cons, ih]
    apply ByteArray.ext
    apply Array.ext'
    simp [ByteArray.push]

theorem own_string {w : World} {base n : Nat} {v : Value} {l : List UInt8} (h : w.ownsRow base 5 1 v n (Lib.byteCells l)) :
    (convert 56 9 v).run Try.prog w = .ok (.string ⟨l.toArray⟩) w := by
  obtain ⟨hl, h2⟩ := h
  have hn : l.length = n := by rw [Lib.byteCells_length] at hl; omega
  rcases h2 with ⟨rfl, rfl⟩ | ⟨g, cap, cur, rfl, hg, hb, hc1, hc2, hc3, htk⟩
  · rw [run_convert_bytes_string w 56 9 5 none 0 0 Try.underlying56 Try.underlying5 Try.underlying9]
    obtain rfl : l = [] := List.length_eq_zero_iff.1 hn
    rfl
  · rw [run_convert_bytes_string w 56 9 5 _ n cap Try.underlying56 Try.underlying5 Try.underlying9]
    have hcells : ∀ j u, (Lib.byteCells l)[j]? = some u → w.cell? ((⟨g, 0, none⟩ : Addr).add j) = some u :=
      World.ownsRow.cells (v := .slice (some ⟨g, 0, none⟩) n cap) ⟨hl, .inr ⟨g, cap, cur, rfl, hg, hb, hc1, hc2, hc3, htk⟩⟩ (g := g) rfl
    have hld := run_loadCells_list (P := Try.prog) w ⟨g, 0, none⟩ (Lib.byteCells l) hcells
    have e1 : Lib.byteCells l = (l.map fun b => (b.toNat : Int)).map (Value.int .u8) := by simp [Lib.byteCells]
    rw [Lib.byteCells_length, hn, e1] at hld
    rw [run_bytesToString w _ n cap _ hld, push_bytes]
    congr 2
    apply ByteArray.ext
    simp

theorem info5 : (Try.prog.info? 5).map (fun i => (i.zero, i.size, i.bytes)) = some (some (.int .u8 0), 1, 1) := by kernel_rfl

theorem one_string (X : World) (g : Nat) (c : UInt8) (h : X.cell? ⟨g, 0, none⟩ = some (.int .u8 c.toNat)) :
    (convert 56 9 (.slice (some ⟨g, 0, none⟩) 1 1)).run Try.prog X = .ok (.string ⟨#[c]⟩) X := by
  rw [run_convert_bytes_string X 56 9 5 _ 1 1 Try.underlying56 Try.underlying5 Try.underlying9]
  have hld := run_loadCells_list (P := Try.prog) X ⟨g, 0, none⟩ [.int .u8 c.toNat] (by
    intro j v hj
    match j, hj with
    | 0, hj => simp at hj; subst hj; simpa [Addr.add] using h)
  rw [run_bytesToString X _ 1 1 [(c.toNat : Int)] hld]
  have e := push_bytes [c] ByteArray.empty
  rw [show [(c.toNat : Int)] = [c].map (fun b => (b.toNat : Int)) from rfl, e]
  rfl

theorem same_freeze {a w : World} {p : Addr} {n : Nat} (h : Same a w) (hp : a.heap.size ≤ p.block) : Same a (w.freeze p n) := by
  unfold World.freeze
  split
  · exact h
  · refine ⟨h.os, h.tape, h.output, by simpa using h.size, fun k hk hx => ?_⟩
    rw [← h.block k hk hx]
    simp only [Array.getElem?_modify]
    rw [if_neg (by omega)]

end Go.Proofs.Ytillhpepfpldcaa

/- A struct of three cells; a row owned. -/
namespace Go.Proofs.Ytillhpepfpldcaa
open Go.RowKit

theorem cells3 {w : World} {g : Nat} {x y z : Value} {t : TypeId} (h : w.heap[g]? = some (.cells #[x, y, z] t (0, 0))) :
    w.cell? ⟨g, 0, none⟩ = some x ∧ w.cell? ⟨g, 1, none⟩ = some y ∧ w.cell? ⟨g, 2, none⟩ = some z ∧ w.frozen? ⟨g, 0, none⟩ = false ∧ w.frozen? ⟨g, 1, none⟩ = false ∧ w.frozen? ⟨g, 2, none⟩ = false := by
  simp [World.cell?, World.frozen?, h]

theorem set3 {w : World} {g : Nat} {x y z : Value} {t : TypeId} (h : w.heap[g]? = some (.cells #[x, y, z] t (0, 0))) (a b c : Value) :
    (((w.setCell ⟨g, 0, none⟩ a).setCell ⟨g, 1, none⟩ b).setCell ⟨g, 2, none⟩ c).heap[g]? = some (.cells #[a, b, c] t (0, 0)) := by
  simp [World.setCell, Array.getElem?_modify, h]

theorem keep_set3 {X : Nat → Prop} {w w1 : World} (h : Kept X w w1) (x y z : Value) :
    Kept X w (((w1.setCell ⟨w.heap.size, 0, none⟩ x).setCell ⟨w.heap.size, 1, none⟩ y).setCell ⟨w.heap.size, 2, none⟩ z) :=
  ((h.setCell (fun hl => absurd hl (Nat.lt_irrefl _)) _).setCell (fun hl => absurd hl (Nat.lt_irrefl _)) _).setCell (fun hl => absurd hl (Nat.lt_irrefl _)) _

theorem own_base {w : World} {base base' : Nat} {e : TypeId} {size : Nat} {v : Value} {n : Nat} {xs : List Value} (h : w.ownsRow base e size v n xs) (hb : base' ≤ base) : w.ownsRow base' e size v n xs := by
  obtain ⟨h1, h2⟩ := h
  refine ⟨h1, ?_⟩
  rcases h2 with h2 | ⟨g, cap, cur, hv, hg, r⟩
  · exact Or.inl h2
  · exact Or.inr ⟨g, cap, cur, hv, Nat.le_trans hb hg, r⟩

theorem own_slice {w : World} {base : Nat} {e : TypeId} {size : Nat} {v : Value} {n : Nat} {xs : List Value} (h : w.ownsRow base e size v n xs) : ∃ ao cap, v = .slice ao n cap := by
  rcases h.2 with ⟨rfl, rfl⟩ | ⟨g, cap, cur, hv, _⟩
  · exact ⟨none, 0, rfl⟩
  · exact ⟨_, cap, hv⟩

end Go.Proofs.Ytillhpepfpldcaa

/- batch.putNumber. -/
namespace Go.Proofs.Ytillhpepfpldcaa
open Go.RowKit

/-- v is a row of the bytes T, owned from block base on -/
abbrev Own8 (base : Nat) (w : World) (v : Value) (T : List UInt8) : Prop := w.ownsRow base 5 1 v T.length (Lib.byteCells T)
abbrev Up (base : Nat) (w w' : World) : Prop := Kept (base ≤ ·) w w'

/-- the block that a row lies in -/
abbrev Row (v : Value) (k : Nat) : Prop := v.ownBlock = some k
/-- a row has grown: all other blocks stand; it lies where it lay, or anew -/
structure Grow (w : World) (v : Value) (w' : World) (v' : Value) : Prop where
  kept : Kept (Row v) w w'
  row : ∀ k, Row v' k → Row v k ∨ w.heap.size ≤ k

theorem Grow.refl (w : World) (v : Value) : Grow w v w v := ⟨Kept.refl _ _, fun _ h => .inl h⟩
theorem Grow.trans {a b c : World} {u v x : Value} (h : Grow a u b v) (k : Grow b v c x) : Grow a u c x :=
  ⟨h.kept.trans k.kept (fun i hi hr => (h.row i hr).resolve_right (by omega)), fun i hr => (k.row i hr).elim (fun hr => h.row i hr) (fun hl => .inr (Nat.le_trans h.kept.size hl))⟩
theorem Grow.up {base : Nat} {w w' : World} {v v' : Value} {T : List UInt8} (h : Grow w v w' v') (ho : Own8 base w v T) : Up base w w' := h.kept.mono (fun i _ hr => own_row ho i hr)
theorem Grow.al {w : World} {v : Value} (o : Obj) : Grow w v (w.alloc o) v := ⟨(Kept.refl _ w).alloc o, fun _ h => .inl h⟩

theorem beN_step (size k n : Nat) (h : k < size) : beN (size - k) (n / 256 ^ k) = beN (size - (k + 1)) (n / 256 ^ (k + 1)) ++ [UInt8.ofNat (n / 256 ^ k % 256)] := by
  obtain ⟨m, hm⟩ : ∃ m, size - k = m + 1 := ⟨size - k - 1, by omega⟩
  rw [hm, show size - (k + 1) = m by omega, beN, Nat.div_div_eq_div_mul, ← Nat.pow_succ]

theorem shr_byte (n k : Nat) : (n : Int) / 2 ^ (8 * k) % 256 = ((UInt8.ofNat (n / 256 ^ k % 256)).toNat : Int) := by
  have e : (2 : Int) ^ (8 * k) = ((256 ^ k : Nat) : Int) := by rw [Int.pow_mul]; norm_cast
  rw [e]
  simp only [UInt8.toNat_ofNat']
  omega

set_option maxHeartbeats 1600000 in
theorem putNumber_any (base : Nat) (w : World) (v : Value) (T : List UInt8) (size n : Nat) (hs : size ≤ 8) (_hn : n < 4611686018427387904) (hT : T.length ≤ 1000000000000) (h : Own8 base w v T) (hb : base ≤ w.heap.size) :
    Calls Try.prog 30 #[v, .int .i64 size, .int .i64 n] w fun r w' => ∃ v', r = .returned v' ∧ Own8 base w' v' (T ++ beN size n) ∧ Grow w v w' v' := by
  obtain ⟨i0, hi, hz0, hz1, hz2⟩ := info_parts info5
  go_enter Try.func30, Try.ntmps30
  go_wp2_with fail
  go_loopg [0, 7] size (fun g tv iv wr => ∃ (B : List UInt8), g ≤ size ∧ iv = .int .i64 ((g : Int) - 1) ∧ Hid (B = T ++ beN (size - g) (n / 256 ^ g)) ∧ B.length + g ≤ T.length + size ∧ Own8 base wr tv B ∧ Grow w v wr tv)
  case atStart =>
    refine ⟨T, Nat.le_refl _, rfl, hide ?_, by omega, h, Grow.refl _ _⟩
    rw [Nat.sub_self, beN, List.append_nil]
  case round =>
    obtain ⟨B, hg, rfl, HB, hBl, hown, hK⟩ := hrel
    by_cases hlt : 0 < gk
    · obtain ⟨k, hk⟩ : ∃ k, gk = k + 1 := ⟨gk - 1, by omega⟩
      subst hk
      have hv := shr_byte n k
      obtain ⟨c, hc⟩ : ∃ c, c = UInt8.ofNat (n / 256 ^ k % 256) := ⟨_, rfl⟩
      rw [← hc] at hv
      have HC := hide hc
      clear hc
      go_wp2_with (at_builtin; refine wpList_append_own_at _ rfl _ _ 56 rfl base 5 i0 (.int .u8 0) 1 1 Try.underlying56 hi hz0 hz1 hz2 rfl (by decide) _ _ _ rfl (hown.alloc _) ⟨wr.heap.size, 0, none⟩ 1 1 [.int .u8 c.toNat] rfl rfl ?a1 ?a2 ?a3 ?a4 ?a5 ?_)
      case a1 =>
        intro jj u hjj
        match jj, hjj with
        | 0, hjj => simp at hjj; subst hjj; simp [Addr.add]
      case a2 => intro u hu; simp at hu; subst hu; rfl
      case a3 => unfold maxLen; omega
      case a4 => omega
      case a5 => have := hK.kept.size; simp; omega
      intro v5 w5 hown5 hgr5 _ hat5
      have hB5 : Own8 base w5 v5 (B ++ [c]) := by
        have e1 : Lib.byteCells (B ++ [c]) = Lib.byteCells B ++ [.int .u8 c.toNat] := by simp [Lib.byteCells]
        show w5.ownsRow base 5 1 v5 (B ++ [c]).length (Lib.byteCells (B ++ [c]))
        rw [e1, List.length_append]; exact hown5
      have hK8 : Grow w v w5 v5 := (hK.trans (Grow.al _)).trans ⟨(Kept.refl _ _).grown hgr5 (fun k hk _ => hk), fun k hr => hat5.elim (fun e => .inl (e.symm.trans hr)) (fun e => .inr (by have : some _ = some k := e.symm.trans hr; cases this; simp))⟩
      have HB2 := hide (show B ++ [c] = T ++ beN (size - k) (n / 256 ^ k) by rw [HB.out, HC.out, beN_step size k n (by omega), List.append_assoc])
      clear hown5 hgr5 hat5
      go_wp2_with fail
      go_roundg k
      case measure => omega
      case rel => exact ⟨B ++ [c], by omega, by go_num, HB2, by rw [List.length_append]; simp; omega, hB5, hK8⟩
    · obtain rfl : gk = 0 := by omega
      have HB2 := hide (show B = T ++ beN size n by rw [HB.out]; simp)
      obtain ⟨ao, cap, hv⟩ := own_slice hown
      subst hv
      go_wp2_with fail
      go_ret
      exact ⟨_, rfl, by rw [← HB2.out]; exact hown, hK⟩

end Go.Proofs.Ytillhpepfpldcaa
