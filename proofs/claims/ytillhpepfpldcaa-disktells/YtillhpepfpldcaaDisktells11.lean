import Derived.Test.YtillhpepfpldcaaChecked
import Derived.Test.YtillhpepfpldcaaDisktells01
import Derived.Lib.AppendStr
import Derived.Lib.UnsafeStr
import Derived.Test.YtillhpepfpldcaaDisktells09
import Derived.Test.YtillhpepfpldcaaDisktells06
import Derived.Maps.AppendAt
/- Bytes and strings: a row of bytes as a string. -/
namespace Go.Proofs.Ytillhpepfpldcaa
open Go.RowKit

theorem push_bytes (l : List UInt8) : ∀ acc : ByteArray, (l.map fun b => (b.toNat : Int)).foldl (fun r n => r.push (UInt8.ofNat n.toNat)) acc = ⟨acc.data ++ l.toArray⟩ := by
  induction l with
  | nil => intro acc; apply ByteArray.ext; simp
  | cons c r ih =>
    intro acc
    rw [List.map_cons, List.foldl_cons, ih]
    apply ByteArray.ext
    apply Array.ext'
    simp [ByteArray.push]

theorem own_string {w : World} {base n : Nat} {v : Value} {l : List UInt8} (h : w.ownsRow base 5 1 v n (Lib.byteCells l)) :
    (convert 56 9 v).run Try.prog w = .ok (.string ⟨l.toArray⟩) w := by
  obtain ⟨hl, h2⟩ := h
  have hn : l.length = n := by rw [Lib.byteCells_length] at hl; omega
  rcases h2 with ⟨rfl, rfl⟩ | ⟨g, cap, cur, rfl, hg, hb, hc1, hc2, hc3, htk⟩
  · rw [run_convert_bytes_string w 56 9 5 none 0 0 Try.underlying56 Try.underlying5 Try.underlying9]
    obtain rfl : l = [] := List.length_eq_zero_iff.1 hn
    rfl
  · rw [run_convert_bytes_string w 56 9 5 _ n cap Try.underlying56 Try.underlying5 Try.underlying9]
    have hcells : ∀ j u, (Lib.byteCells l)[j]? = some u → w.cell? ((⟨g, 0, none⟩ : Addr).add j) = some u :=
      World.ownsRow.cells (v := .slice (some ⟨g, 0, none⟩) n cap) ⟨hl, .inr ⟨g, cap, cur, rfl, hg, hb, hc1, hc2, hc3, htk⟩⟩ (g := g) rfl
    have hld := run_loadCells_list (P := Try.prog) w ⟨g, 0, none⟩ (Lib.byteCells l) hcells
    have e1 : Lib.byteCells l = (l.map fun b => (b.toNat : Int)).map (Value.int .u8) := by simp [Lib.byteCells]
    rw [Lib.byteCells_length, hn, e1] at hld
    rw [run_bytesToString w _ n cap _ hld, push_bytes]
    congr 2
    apply ByteArray.ext
    simp

theorem info5 : (Try.prog.info? 5).map (fun i => (i.zero, i.size, i.bytes)) = some (some (.int .u8 0), 1, 1) := by kernel_rfl

theorem one_string (X : World) (g : Nat) (c : UInt8) (h : X.cell? ⟨g, 0, none⟩ = some (.int .u8 c.toNat)) :
    (convert 56 9 (.slice (some ⟨g, 0, none⟩) 1 1)).run Try.prog X = .ok (.string ⟨#[c]⟩) X := by
  rw [run_convert_bytes_string X 56 9 5 _ 1 1 Try.underlying56 Try.underlying5 Try.underlying9]
  have hld := run_loadCells_list (P := Try.prog) X ⟨g, 0, none⟩ [.int .u8 c.toNat] (by
    intro j v hj
    match j, hj with
    | 0, hj => simp at hj; subst hj; simpa [Addr.add] using h)
  rw [run_bytesToString X _ 1 1 [(c.toNat : Int)] hld]
  have e := push_bytes [c] ByteArray.empty
  rw [show [(c.toNat : Int)] = [c].map (fun b => (b.toNat : Int)) from rfl, e]
  rfl

theorem same_freeze {a w : World} {p : Addr} {n : Nat} (h : Same a w) (hp : a.heap.size ≤ p.block) : Same a (w.freeze p n) := by
  unfold World.freeze
  split
  · exact h
  · refine ⟨h.os, h.tape, h.output, by simpa using h.size, fun k hk hx => ?_⟩
    rw [← h.block k hk hx]
    simp only [Array.getElem?_modify]
    rw [if_neg (by omega)]

end Go.Proofs.Ytillhpepfpldcaa

/- batch.putNumber. -/
namespace Go.Proofs.Ytillhpepfpldcaa
open Go.RowKit

/-- v is a row of the bytes T, owned from block base on -/
abbrev Own8 (base : Nat) (w : World) (v : Value) (T : List UInt8) : Prop := w.ownsRow base 5 1 v T.length (Lib.byteCells T)
abbrev Up (base : Nat) (w w' : World) : Prop := Kept (base ≤ ·) w w'

/-- the block that a row lies in -/
abbrev Row (v : Value) (k : Nat) : Prop := v.ownBlock = some k
/-- a row has grown: all other blocks stand; it lies where it lay, or anew -/
structure Grow (w : World) (v : Value) (w' : World) (v' : Value) : Prop where
  kept : Kept (Row v) w w'
  row : ∀ k, Row v' k → Row v k ∨ w.heap.size ≤ k

theorem Grow.refl (w : World) (v : Value) : Grow w v w v := ⟨Kept.refl _ _, fun _ h => .inl h⟩
theorem Grow.trans {a b c : World} {u v x : Value} (h : Grow a u b v) (k : Grow b v c x) : Grow a u c x :=
  ⟨h.kept.trans k.kept (fun i hi hr => (h.row i hr).resolve_right (by omega)), fun i hr => (k.row i hr).elim (fun hr => h.row i hr) (fun hl => .inr (Nat.le_trans h.kept.size hl))⟩
theorem Grow.up {base : Nat} {w w' : World} {v v' : Value} {T : List UInt8} (h : Grow w v w' v') (ho : Own8 base w v T) : Up base w w' := h.kept.mono (fun i _ hr => own_row ho i hr)
theorem Grow.al {w : World} {v : Value} (o : Obj) : Grow w v (w.alloc o) v := ⟨(Kept.refl _ w).alloc o, fun _ h => .inl h⟩

theorem beN_step (size k n : Nat) (h : k < size) : beN (size - k) (n / 256 ^ k) = beN (size - (k + 1)) (n / 256 ^ (k + 1)) ++ [UInt8.ofNat (n / 256 ^ k % 256)] := by
  obtain ⟨m, hm⟩ : ∃ m, size - k = m + 1 := ⟨size - k - 1, by omega⟩
  rw [hm, show size - (k + 1) = m by omega, beN, Nat.div_div_eq_div_mul, ← Nat.pow_succ]

theorem shr_byte (n k : Nat) : (n : Int) / 2 ^ (8 * k) % 256 = ((UInt8.ofNat (n / 256 ^ k % 256)).toNat : Int) := by
  have e : (2 : Int) ^ (8 * k) = ((256 ^ k : Nat) : Int) := by rw [Int.pow_mul]; norm_cast
  rw [e]
  simp only [UInt8.toNat_ofNat']
  omega

set_option maxHeartbeats 1600000 in
theorem putNumber_any (base : Nat) (w : World) (v : Value) (T : List UInt8) (size n : Nat) (hs : size ≤ 8) (_hn : n < 4611686018427387904) (hT : T.length ≤ 1000000000000) (h : Own8 base w v T) (hb : base ≤ w.heap.size) :
    Calls Try.prog 30 #[v, .int .i64 size, .int .i64 n] w fun r w' => ∃ v', r = .returned v' ∧ Own8 base w' v' (T ++ beN size n) ∧ Grow w v w' v' := by
  obtain ⟨i0, hi, hz0, hz1, hz2⟩ := info_parts info5
  go_enter Try.func30, Try.ntmps30
  go_wp2_with fail
  go_loopg [0, 7] size (fun g tv iv wr => ∃ (B : List UInt8), g ≤ size ∧ iv = .int .i64 ((g : Int) - 1) ∧ Hid (B = T ++ beN (size - g) (n / 256 ^ g)) ∧ B.length + g ≤ T.length + size ∧ Own8 base wr tv B ∧ Grow w v wr tv)
  case atStart =>
    refine ⟨T, Nat.le_refl _, rfl, hide ?_, by omega, h, Grow.refl _ _⟩
    rw [Nat.sub_self, beN, List.append_nil]
  case round =>
    obtain ⟨B, hg, rfl, HB, hBl, hown, hK⟩ := hrel
    by_cases hlt : 0 < gk
    · obtain ⟨k, hk⟩ : ∃ k, gk = k + 1 := ⟨gk - 1, by omega⟩
      subst hk
      have hv := shr_byte n k
      obtain ⟨c, hc⟩ : ∃ c, c = UInt8.ofNat (n / 256 ^ k % 256) := ⟨_, rfl⟩
      rw [← hc] at hv
      have HC := hide hc
      clear hc
      go_wp2_with (at_builtin; refine wpList_append_own_at _ rfl _ _ 56 rfl base 5 i0 (.int .u8 0) 1 1 Try.underlying56 hi hz0 hz1 hz2 rfl (by decide) _ _ _ rfl (hown.alloc _) ⟨wr.heap.size, 0, none⟩ 1 1 [.int .u8 c.toNat] rfl rfl ?a1 ?a2 ?a3 ?a4 ?a5 ?_)
      case a1 =>
        intro jj u hjj
        match jj, hjj with
        | 0, hjj => simp at hjj; subst hjj; simp [Addr.add]
      case a2 => intro u hu; simp at hu; subst hu; rfl
      case a3 => unfold maxLen; omega
      case a4 => omega
      case a5 => have := hK.kept.size; simp; omega
      intro v5 w5 hown5 hgr5 _ hat5
      have hB5 : Own8 base w5 v5 (B ++ [c]) := by
        have e1 : Lib.byteCells (B ++ [c]) = Lib.byteCells B ++ [.int .u8 c.toNat] := by simp [Lib.byteCells]
        show w5.ownsRow base 5 1 v5 (B ++ [c]).length (Lib.byteCells (B ++ [c]))
        rw [e1, List.length_append]; exact hown5
      have hK8 : Grow w v w5 v5 := (hK.trans (Grow.al _)).trans ⟨(Kept.refl _ _).grown hgr5 (fun k hk _ => hk), fun k hr => hat5.elim (fun e => .inl (e.symm.trans hr)) (fun e => .inr (by have : some _ = some k := e.symm.trans hr; cases this; simp))⟩
      have HB2 := hide (show B ++ [c] = T ++ beN (size - k) (n / 256 ^ k) by rw [HB.out, HC.out, beN_step size k n (by omega), List.append_assoc])
      clear hown5 hgr5 hat5
      go_wp2_with fail
      go_roundg k
      case measure => omega
      case rel => exact ⟨B ++ [c], by omega, by go_num, HB2, by rw [List.length_append]; simp; omega, hB5, hK8⟩
    · obtain rfl : gk = 0 := by omega
      have HB2 := hide (show B = T ++ beN size n by rw [HB.out]; simp)
      obtain ⟨ao, cap, hv⟩ := own_slice hown
      subst hv
      go_wp2_with fail
      go_ret
      exact ⟨_, rfl, by rw [← HB2.out]; exact hown, hK⟩

end Go.Proofs.Ytillhpepfpldcaa

/- batch.putEvent, batch.putBatch, batch.Encode. -/
namespace Go.Proofs.Ytillhpepfpldcaa
open Go.RowKit

/-- a block apart from the row stays, as the row grows -/
theorem Grow.blk {w w' : World} {v v' : Value} {g : Nat} (h : Grow w v w' v') (hg : g < w.heap.size) (hr : ¬ Row v g) : w'.heap[g]? = w.heap[g]? ∧ ¬ Row v' g ∧ g < w'.heap.size :=
  ⟨h.kept.block g hg hr, fun hx => (h.row g hx).elim hr (fun hl => by omega), Nat.lt_of_lt_of_le hg h.kept.size⟩

theorem up_tr {base : Nat} {a b c : World} (h : Up base a b) (k : Up base b c) : Up base a c := h.trans k (fun _ _ h => h)

/-- appending a text's bytes -/
theorem own_text {base : Nat} {w : World} {v : Value} {T t : List UInt8} (h : w.ownsRow base 5 1 v (T.length + (⟨t.toArray⟩ : ByteArray).size) (Lib.byteCells T ++ Lib.strCells ⟨t.toArray⟩)) : Own8 base w v (T ++ t) := by
  show w.ownsRow base 5 1 v (T ++ t).length (Lib.byteCells (T ++ t))
  have e1 : Lib.byteCells (T ++ t) = Lib.byteCells T ++ Lib.strCells ⟨t.toArray⟩ := by simp [Lib.byteCells, Lib.strCells]
  have e2 : (⟨t.toArray⟩ : ByteArray).size = t.length := by simp [ByteArray.size]
  rw [e1, List.length_append, ← e2]; exact h

set_option maxHeartbeats 3200000 in
theorem putEvent_any (base : Nat) (w : World) (v : Value) (T : List UInt8) (e : EventT) (he : wrongE e = 0) (hT : T.length ≤ 1000000000) (h : Own8 base w v T) (hb : base ≤ w.heap.size) :
    Calls Try.prog 54 #[v, evV e] w fun r w' => ∃ v', r = .returned v' ∧ Own8 base w' v' (T ++ evB e) ∧ Up base w w' := by
  obtain ⟨i0, hi, hz0, hz1, hz2⟩ := info_parts info5
  obtain ⟨hk, _, _, _, hr, hl⟩ := wrongE_ok he
  obtain ⟨t1, t2, i1, i2, f1, f2, n1, n2⟩ := range_ok hr
  obtain ⟨k1, k2⟩ := kind_ok hk
  obtain ⟨k, hkn⟩ : ∃ k : Nat, e.kind = k := ⟨e.kind.toNat, by omega⟩
  obtain ⟨ty, hty⟩ : ∃ k : Nat, e.ty = k := ⟨e.ty.toNat, by omega⟩
  obtain ⟨i, hid⟩ : ∃ k : Nat, e.id = k := ⟨e.id.toNat, by omega⟩
  obtain ⟨f, hfi⟩ : ∃ k : Nat, e.field = k := ⟨e.field.toNat, by omega⟩
  obtain ⟨m, hm⟩ : ∃ m : Nat, e.n + 999999999 = m := ⟨(e.n + 999999999).toNat, by omega⟩
  obtain ⟨kk, ety, eid, ef, en, t⟩ := e
  simp only at hkn hty hid hfi hm hl t1 t2 i1 i2 f1 f2 n1 n2 k1 k2
  subst hkn hty hid hfi
  have HE : Hid (evB ⟨k, ty, i, f, en, t⟩ = beN 1 k ++ (beN 1 ty ++ (beN 2 i ++ (if namesF k then beN 1 f ++ (if namesT k then beN 1 t.length ++ t else beN 4 m) else [])))) := by
    show evB _ = _
    unfold evB
    simp only [Int.toNat_natCast]
    rw [show (en + 999999999).toNat = m by omega]
  have hsz : (⟨t.toArray⟩ : ByteArray).size = t.length := by simp [ByteArray.size]
  clear he hk hr
  -- the head: kind, type, id
  go_enter Try.func54, Try.ntmps54
  go_wp2_with fail
  refine (putNumber_any base _ v T 1 k (by omega) (by omega) (by omega) (h.alloc _) (by simp; omega)).mono ?_
  rintro r w1 ⟨v1, rfl, o1, K1⟩
  have hg0 : (w.alloc (.cells #[.int .i64 k, .int .i64 ty, .int .i64 i, .int .i64 f, .int .i64 en, .string ⟨t.toArray⟩] 66)).heap[w.heap.size]? = some (.cells #[.int .i64 k, .int .i64 ty, .int .i64 i, .int .i64 f, .int .i64 en, .string ⟨t.toArray⟩] 66 (0, 0)) := heap_alloc_new w _
  have hr0 : ¬ Row v w.heap.size := fun hx => by have := h.lt _ hx; omega
  obtain ⟨b1, hr1, hl1⟩ := K1.blk (g := w.heap.size) (by simp) hr0
  obtain ⟨z0, z1, z2, z3, z4, z5, _⟩ := cells6 (b1.trans hg0)
  have hU1 : Up base w w1 := up_tr ((Kept.refl _ w).alloc _) (K1.up (h.alloc _))
  have hb1 : base ≤ w1.heap.size := Nat.le_trans hb hU1.size
  go_wp2_with fail
  refine (putNumber_any base _ v1 (T ++ beN 1 k) 1 ty (by omega) (by omega) (by rw [List.length_append, beN_len]; omega) o1 hb1).mono ?_
  rintro r w2 ⟨v2, rfl, o2, K2⟩
  obtain ⟨b2, hr2, hl2⟩ := K2.blk (g := w.heap.size) hl1 hr1
  obtain ⟨y0, y1, y2, y3, y4, y5, _⟩ := cells6 (b2.trans (b1.trans hg0))
  have hU2 : Up base w w2 := up_tr hU1 (K2.up o1)
  have hb2 : base ≤ w2.heap.size := Nat.le_trans hb hU2.size
  go_wp2_with fail
  refine (putNumber_any base _ v2 (T ++ beN 1 k ++ beN 1 ty) 2 i (by omega) (by omega) (by rw [List.length_append, List.length_append, beN_len, beN_len]; omega) o2 hb2).mono ?_
  rintro r w3 ⟨v3, rfl, o3, K3⟩
  obtain ⟨b3, hr3, hl3⟩ := K3.blk (g := w.heap.size) hl2 hr2
  have hblk := b3.trans (b2.trans (b1.trans hg0))
  have hU3 : Up base w w3 := up_tr hU2 (K3.up o2)
  have hb3 : base ≤ w3.heap.size := Nat.le_trans hb hU3.size
  have e3 : T ++ beN 1 k ++ beN 1 ty ++ beN 2 i = T ++ (beN 1 k ++ (beN 1 ty ++ beN 2 i)) := by simp
  rw [e3] at o3
  have hT3 : (T ++ (beN 1 k ++ (beN 1 ty ++ beN 2 i))).length ≤ 1000000004 := by simp only [List.length_append, beN_len]; omega
  have HT3 := hide (show ∀ x, T ++ (beN 1 k ++ (beN 1 ty ++ (beN 2 i ++ x))) = T ++ (beN 1 k ++ (beN 1 ty ++ beN 2 i)) ++ x by intro x; simp)
  generalize T ++ (beN 1 k ++ (beN 1 ty ++ beN 2 i)) = T3 at *
  clear K1 K2 K3 o1 o2 b1 b2 b3 z0 z1 z2 z3 z4 z5 y0 y1 y2 y3 y4 y5 hr1 hr2 hl1 hl2 hU1 hU2 hb1 hb2 hg0 hr0 e3
  obtain ⟨z0, z1, z2, z3, z4, z5, _⟩ := cells6 hblk
  cases hF : namesF (k : Int) with
  | false =>
    have hN : namesN (k : Int) = false := by unfold namesF at hF; simp at hF; exact hF.1
    have hTx : namesT (k : Int) = false := by unfold namesF at hF; simp at hF; exact hF.2
    have HF := hide hF
    have HN := hide hN
    have HTx := hide hTx
    clear hF hN hTx
    obtain ⟨ao3, cap3, hv3⟩ := own_slice o3
    subst hv3
    go_wp2_with (first
      | (go_at_call 68; refine (pNamesF _ _).mono ?_; rintro e w' ⟨rfl, rfl⟩; rw [HF.out])
      | (go_at_call 69; refine (pNamesN _ _).mono ?_; rintro e w' ⟨rfl, rfl⟩; rw [HN.out])
      | (go_at_call 70; refine (pNamesT _ _).mono ?_; rintro e w' ⟨rfl, rfl⟩; rw [HTx.out]))
    go_ret
    refine ⟨_, rfl, ?_, hU3⟩
    rw [HE.out, HF.out]
    simp only [Bool.false_eq_true, if_false]
    rw [HT3.out, List.append_nil]
    exact o3
  | true =>
    have HF := hide hF
    go_wp2_with fail
    refine (pNamesF _ _).mono ?_
    rintro r w' ⟨rfl, rfl⟩
    rw [HF.out]
    go_wp2_with fail
    refine (putNumber_any base _ v3 T3 1 f (by omega) (by omega) (by omega) o3 hb3).mono ?_
    rintro r w4 ⟨v4, rfl, o4, K4⟩
    obtain ⟨b4, hr4, hl4⟩ := K4.blk (g := w.heap.size) hl3 hr3
    have hblk4 := b4.trans hblk
    have hU4 : Up base w w4 := up_tr hU3 (K4.up o3)
    have hb4 : base ≤ w4.heap.size := Nat.le_trans hb hU4.size
    have hT4 : (T3 ++ beN 1 f).length ≤ 1000000005 := by simp only [List.length_append, beN_len]; omega
    clear K4 b4 o3 hU3 z0 z1 z2 z3 z4 z5 hblk hr3 hl3 hb3
    obtain ⟨z0, z1, z2, z3, z4, z5, _⟩ := cells6 hblk4
    cases hTx : namesT (k : Int) with
    | true =>
      have HN := hide (show namesN (k : Int) = false by unfold namesT at hTx; unfold namesN; simp at hTx ⊢; omega)
      have HTx := hide hTx
      clear hTx hF
      have hsz' : ((⟨t.toArray⟩ : ByteArray).size : Int) = (t.length : Nat) := by rw [hsz]
      have HPut := hide (putNumber_any base w4 v4 (T3 ++ beN 1 f) 1 t.length (by omega) (by omega) (by omega) o4 hb4)
      go_wp2_with fail
      refine (pNamesN _ _).mono ?_
      rintro r w' ⟨rfl, rfl⟩
      rw [HN.out]
      go_wp2_with fail
      refine (pNamesT _ _).mono ?_
      rintro r w' ⟨rfl, rfl⟩
      rw [HTx.out]
      go_wp2_with fail
      refine HPut.out.mono ?_
      rintro r w5 ⟨v5, rfl, o5, K5⟩
      obtain ⟨b5, hr5, hl5⟩ := K5.blk (g := w.heap.size) hl4 hr4
      have hblk5 := b5.trans hblk4
      have hU5 : Up base w w5 := up_tr hU4 (K5.up o4)
      have hb5 : base ≤ w5.heap.size := Nat.le_trans hb hU5.size
      have hT5 : (T3 ++ beN 1 f ++ beN 1 t.length).length ≤ 1000000006 := by rw [List.length_append, beN_len]; omega
      clear K5 b5 o4 hU4 z0 z1 z2 z3 z4 z5 hblk4 hr4 hl4 hb4 HPut
      obtain ⟨z0, z1, z2, z3, z4, z5, _⟩ := cells6 hblk5
      have HT5 := hide (show T3 ++ (beN 1 f ++ (beN 1 t.length ++ t)) = T3 ++ beN 1 f ++ beN 1 t.length ++ t by simp)
      generalize T3 ++ beN 1 f ++ beN 1 t.length = T5 at *
      go_wp2_with (at_builtin; refine Lib.wpList_append_own_string _ rfl _ _ 56 9 rfl base 5 i0 Try.underlying56 Try.underlying9 hi hz0 hz1 hz2 _ _ _ rfl o5 _ rfl ?q1 ?q2 ?q3 ?_)
      case q1 => rw [hsz]; unfold maxLen; omega
      case q2 => rw [hsz]; omega
      case q3 => exact hb5
      intro v6 w6 o6 g6 _
      have o7 := own_text o6
      have hU6 : Up base w w6 := hU5.grown g6 (fun k hk _ => own_row o5 k hk)
      obtain ⟨ao6, cap6, hv6⟩ := own_slice o7
      subst hv6
      go_wp2_with fail
      go_ret
      refine ⟨_, rfl, ?_, hU6⟩
      rw [HE.out, HF.out, HTx.out]
      simp only [if_true]
      rw [HT3.out, HT5.out]
      exact o7
    | false =>
      have HN := hide (show namesN (k : Int) = true by unfold namesF at hF; rw [hTx] at hF; simpa using hF)
      have HTx := hide hTx
      clear hTx hF
      go_wp2_with fail
      refine (pNamesN _ _).mono ?_
      rintro r w' ⟨rfl, rfl⟩
      rw [HN.out]
      go_wp2_with fail
      refine (putNumber_any base _ v4 (T3 ++ beN 1 f) 4 m (by omega) (by omega) (by omega) o4 hb4).mono ?_
      rintro r w5 ⟨v5, rfl, o5, K5⟩
      obtain ⟨b5, hr5, hl5⟩ := K5.blk (g := w.heap.size) hl4 hr4
      have hblk5 := b5.trans hblk4
      have hU5 : Up base w w5 := up_tr hU4 (K5.up o4)
      clear K5 b5 o4 hU4 z0 z1 z2 z3 z4 z5 hblk4 hr4 hl4 hb4
      obtain ⟨z0, z1, z2, z3, z4, z5, _⟩ := cells6 hblk5
      have HT5 := hide (show T3 ++ (beN 1 f ++ beN 4 m) = T3 ++ beN 1 f ++ beN 4 m by simp)
      generalize T3 ++ beN 1 f ++ beN 4 m = T5 at *
      obtain ⟨ao5, cap5, hv5⟩ := own_slice o5
      subst hv5
      go_wp2_with fail
      refine (pNamesT _ _).mono ?_
      rintro r w' ⟨rfl, rfl⟩
      rw [HTx.out]
      go_wp2_with fail
      go_ret
      refine ⟨_, rfl, ?_, hU5⟩
      rw [HE.out, HF.out, HTx.out]
      simp only [if_true, Bool.false_eq_true, if_false]
      rw [HT3.out, HT5.out]
      exact o5

theorem flat_snoc (l : List EventT) (e : EventT) : (l ++ [e]).flatMap evB = l.flatMap evB ++ evB e := by simp

set_option maxHeartbeats 3200000 in
/-- of a batch that is right, from no bytes on -/
theorem putBatch_any (P : Nat → Prop) (w : World) (b : BatchT) (v : Value) (hc : checkBa b = 0) (h : EvSl P w v b.events) :
    Calls Try.prog 29 #[.slice none 0 0, baV b.number v] w fun r w' => ∃ v', r = .returned v' ∧ Own8 (w.heap.size + 1) w' v' (innerB b) ∧ Same w w' := by
  obtain ⟨h1, h2, h3, h4, h5⟩ := checkBa_ok hc
  obtain ⟨num, l⟩ := b
  simp only at h h1 h2 h3 h4 h5 ⊢
  obtain ⟨ao, cap, rfl⟩ := h.form
  obtain ⟨_, hl, hcap⟩ := h.len
  obtain ⟨nu, hnu⟩ : ∃ n : Nat, num = n := ⟨num.toNat, by omega⟩
  subst hnu
  have HI : Hid (innerB ⟨nu, l⟩ = beN 2 nu ++ beN 1 l.length ++ l.flatMap evB) := by
    show innerB _ = _
    unfold innerB
    simp
  have hbs : w.heap.size < (w.alloc (.cells #[.int .i64 nu, .slice ao l.length cap] 24)).heap.size := by simp
  have hg0 := heap_alloc_new w (.cells #[.int .i64 nu, .slice ao l.length cap] 24)
  have HS := hide h
  clear h hc
  go_enter Try.func29, Try.ntmps29
  go_wp2_with fail
  refine (putNumber_any (w.heap.size + 1) _ _ [] 2 nu (by omega) (by omega) (by simp) (World.ownsRow_nil _ _ _ _) (by simp)).mono ?_
  rintro r w1 ⟨v1, rfl, o1, K1⟩
  rw [List.nil_append] at o1
  have U1 := K1.up (base := w.heap.size + 1) (T := []) (World.ownsRow_nil _ _ _ _)
  have b1 := (U1.block w.heap.size hbs (by show ¬ w.heap.size + 1 ≤ w.heap.size; omega)).trans hg0
  obtain ⟨z0, z1⟩ : w1.cell? ⟨w.heap.size, 0, none⟩ = some (.int .i64 nu) ∧ w1.cell? ⟨w.heap.size, 1, none⟩ = some (.slice ao l.length cap) := by simp [World.cell?, b1]
  have hs1 : w.heap.size + 1 ≤ w1.heap.size := by have := U1.size; simpa using this
  go_wp2_with fail
  refine (putNumber_any (w.heap.size + 1) _ v1 (beN 2 nu) 1 l.length (by omega) (by omega) (by rw [beN_len]; omega) o1 hs1).mono ?_
  rintro r w2 ⟨v2, rfl, o2, K2⟩
  have U2 : Up (w.heap.size + 1) _ w2 := up_tr U1 (K2.up o1)
  have b2 := (U2.block w.heap.size hbs (by show ¬ w.heap.size + 1 ≤ w.heap.size; omega)).trans hg0
  obtain ⟨y0, y1⟩ : w2.cell? ⟨w.heap.size, 0, none⟩ = some (.int .i64 nu) ∧ w2.cell? ⟨w.heap.size, 1, none⟩ = some (.slice ao l.length cap) := by simp [World.cell?, b2]
  have S2 : Same w w2 := ⟨U2.os, U2.tape, U2.output, by have := U2.size; simp at this; omega, fun k hk _ => (U2.block k (by simp; omega) (by show ¬ w.heap.size + 1 ≤ k; omega)).trans (Below.heap_alloc _ _ _ hk)⟩
  have s2 : w.heap.size + 1 ≤ w2.heap.size := by have := U2.size; simpa using this
  clear K1 K2 o1 U1 U2 b1 b2 z0 z1 hs1
  go_wp2_with fail
  go_loopg [0, 19] l.length (fun g tv iv wr => ∃ (i : Nat) (B : List UInt8), i + g = l.length ∧ iv = .int .i64 i ∧ Hid (B = beN 2 nu ++ beN 1 l.length ++ (l.take i).flatMap evB) ∧ B.length ≤ 3 + 46 * i ∧ Own8 (w.heap.size + 1) wr tv B ∧ Same w wr ∧ w.heap.size + 1 ≤ wr.heap.size)
  case atStart => exact ⟨0, beN 2 nu ++ beN 1 l.length, by omega, rfl, hide (by simp), by simp [beN_len], o2, S2, s2⟩
  case round =>
    obtain ⟨i, B, hi, rfl, HB, hBl, ho, hK, hs⟩ := hrel
    clear y0 y1 o2 S2 s2
    by_cases hlt : i < l.length
    · obtain ⟨b, off, hao, _, e0, e1, e2, e3, e4, e5⟩ := (HS.out.same hK).at i hlt
      subst hao
      have he := h5 l[i] (List.getElem_mem hlt)
      have HB2 := hide (show B ++ evB l[i] = beN 2 nu ++ beN 1 l.length ++ (l.take (i + 1)).flatMap evB by
        rw [HB.out, List.take_succ_eq_append_getElem hlt, flat_snoc, List.append_assoc])
      have hBl2 : (B ++ evB l[i]).length ≤ 3 + 46 * (i + 1) := by have := evB_len he; rw [List.length_append]; omega
      have HP := hide (fun o => putEvent_any (w.heap.size + 1) (wr.alloc o) _ B l[i] he (by omega) (ho.alloc o) (by simp; omega))
      clear he
      go_wp2_with fail
      refine (HP.out _).mono ?_
      rintro r w3 ⟨v3, rfl, o3, U3⟩
      have hs3 : w.heap.size + 1 ≤ w3.heap.size := by have := U3.size; simp at this; omega
      have K3 : Same w w3 := ⟨U3.os.trans hK.os, U3.tape.trans hK.tape, U3.output.trans hK.output, by omega, fun k hk _ => (U3.block k (by simp; omega) (by show ¬ w.heap.size + 1 ≤ k; omega)).trans ((Below.heap_alloc _ _ _ (by omega)).trans (hK.block k hk (fun f => f)))⟩
      clear HP U3
      go_wp2_with fail
      go_roundg (gk - 1)
      case measure => omega
      case rel => exact ⟨i + 1, B ++ evB l[i], by omega, by go_num, HB2, hBl2, o3, K3, hs3⟩
    · have HB2 := hide (show innerB ⟨nu, l⟩ = B by rw [HI.out, HB.out, List.take_of_length_le (by omega)])
      obtain ⟨ao6, cap6, hv6⟩ := own_slice ho
      subst hv6
      go_wp2_with fail
      go_ret
      exact ⟨_, rfl, by rw [HB2.out]; exact ho, hK⟩

end Go.Proofs.Ytillhpepfpldcaa
