import Derived.Test.YtillhpepfpldcaaDisktells11
import Derived.Test.YtillhpepfpldcaaDisktells01
import Derived.Laws.StructEq
import Derived.Test.YtillhpepfpldcaaDisktells03
/- batch.Encode. -/
namespace Go.Proofs.Ytillhpepfpldcaa
open Go.RowKit

theorem byteCells_one (l : List UInt8) : ∀ u ∈ Lib.byteCells l, u.oneCell' = true := by
  intro u hu
  simp [Lib.byteCells] at hu
  obtain ⟨c, _, rfl⟩ := hu
  rfl

set_option maxHeartbeats 1600000 in
theorem encode_any (P : Nat → Prop) (w : World) (b : BatchT) (v : Value) (h : EvSl P w v b.events) :
    Calls Try.prog 8 #[baV b.number v] w fun r w' =>
      (checkBa b = 0 ∧ r = .returned (.tuple #[.string ⟨(bytesB b).toArray⟩, .int .i64 0]) ∧ Same w w')
      ∨ (checkBa b ≠ 0 ∧ r = .returned (.tuple #[.string ⟨#[]⟩, .int .i64 (checkBa b)]) ∧ Same w w') := by
  obtain ⟨i0, hi, hz0, hz1, hz2⟩ := info_parts info5
  have HC := hide (fun wx hK => checkBa_any P b v wx (h.same hK))
  by_cases hc : checkBa b = 0
  · have HP := hide (fun wx hK => putBatch_any P wx b v hc (h.same hK))
    have hlen := inner_len hc
    have hpos : 0 < (innerB b).length := by unfold innerB; simp only [List.length_append, beN_len]; omega
    have HB : Hid (bytesB b = beN 2 (innerB b).length ++ innerB b) := rfl
    have HZ := hide hc
    obtain ⟨ao, cap, rfl⟩ := h.form
    rw [hc] at HC
    obtain ⟨num, l⟩ := b
    simp only at HC HP h ⊢
    clear hc h
    generalize innerB ⟨num, l⟩ = I at *
    go_enter Try.func8, Try.ntmps8
    go_wp2_with fail
    refine (HC.out _ (by repeat' (first | assumption | exact Kept.refl _ _ | refine Kept.drewN ?_ _ | refine Kept.drew ?_ | refine Kept.alloc ?_ _ | refine Kept.setB ?_ _ _))).mono ?_
    rintro r w1 ⟨rfl, hK1⟩
    have hg1 := new_kept (w := w) hK1 (fun f => f)
    obtain ⟨z0, z1⟩ : w1.cell? ⟨w.heap.size, 0, none⟩ = some (.int .i64 num) ∧ w1.cell? ⟨w.heap.size, 1, none⟩ = some (.slice ao l.length cap) := by simp [World.cell?, hg1]
    have hKw : Same w w1 := hK1.unA
    go_wp2_with fail
    refine (HP.out _ hKw).mono ?_
    rintro r w2 ⟨v2, rfl, o2, hK2⟩
    have hK3 : Same w w2 := hKw.trans hK2 (fun _ _ f => f)
    obtain ⟨g, cap2, hv2⟩ := own_form o2 hpos
    subst hv2
    have hcells := World.ownsRow.cells o2 (g := g) rfl
    have hgl : g < w2.heap.size := (o2.lt g rfl).2
    go_wp2_with fail
    refine (putNumber_any w2.heap.size _ _ [] 2 I.length (by omega) (by omega) (by simp) (World.ownsRow_nil _ _ _ _) (Nat.le_refl _)).mono ?_
    rintro r w3 ⟨v3, rfl, o3, K3⟩
    rw [List.nil_append] at o3
    have U3 := K3.up (base := w2.heap.size) (T := []) (World.ownsRow_nil _ _ _ _)
    have hcells3 : ∀ j u, (Lib.byteCells I)[j]? = some u → w3.cell? ((⟨g, 0, none⟩ : Addr).add j) = some u := by
      intro j u hj
      have := hcells j u hj
      rw [addr_add] at this ⊢
      exact U3.cell this (by show ¬ w2.heap.size ≤ g; omega)
    have hK4 : Same w w3 := hK3.trans U3 (fun i hi hx => by have := hK3.size; omega)
    have hb3 : w2.heap.size ≤ w3.heap.size := U3.size
    have hsz2 := hK3.size
    clear K3 U3 hcells hKw hK1 hK2 hK3 z0 z1 hg1
    go_wp2_with (at_builtin; refine wpList_append_own _ rfl _ _ 56 rfl w2.heap.size 5 i0 (.int .u8 0) 1 1 Try.underlying56 hi hz0 hz1 hz2 rfl (by decide) _ _ _ rfl o3 ⟨g, 0, none⟩ I.length cap2 (Lib.byteCells I) rfl ?a0 ?a1 ?a2 ?a3 ?a4 ?a5 ?_)
    case a0 => rw [Lib.byteCells_length]; omega
    case a1 => exact hcells3
    case a2 => exact byteCells_one I
    case a3 => rw [beN_len]; unfold maxLen; omega
    case a4 => rw [beN_len]; omega
    case a5 => exact hb3
    intro v5 w5 o5 g5 _
    have o6 : Own8 w2.heap.size w5 v5 (beN 2 I.length ++ I) := by
      show w5.ownsRow w2.heap.size 5 1 v5 (beN 2 I.length ++ I).length (Lib.byteCells (beN 2 I.length ++ I))
      have e1 : Lib.byteCells (beN 2 I.length ++ I) = Lib.byteCells (beN 2 I.length) ++ Lib.byteCells I := by simp [Lib.byteCells]
      rw [e1, List.length_append]; exact o5
    have hK5 : Same w w5 := hK4.grown g5 (fun k hk hlt => by have := own_row o3 k hk; have := hK4.size; omega)
    have hconv := own_string o6
    go_wp2_with fail
    go_ret2
    exact .inl ⟨HZ.out, by rw [HB.out]; rfl, hK5⟩
  · have hc' : (checkBa b != 0) = true := by simp [hc]
    have HZ := hide hc
    obtain ⟨ao, cap, rfl⟩ := h.form
    clear hc h
    generalize checkBa b = no at *
    obtain ⟨num, l⟩ := b
    simp only at HC ⊢
    go_enter Try.func8, Try.ntmps8
    go_wp2_with fail
    refine (HC.out _ (by repeat' (first | assumption | exact Kept.refl _ _ | refine Kept.drewN ?_ _ | refine Kept.drew ?_ | refine Kept.alloc ?_ _ | refine Kept.setB ?_ _ _))).mono ?_
    rintro r w1 ⟨rfl, hK1⟩
    go_wp2_with fail
    go_ret2
    exact .inr ⟨HZ.out, rfl, hK1.unA⟩

end Go.Proofs.Ytillhpepfpldcaa

/- halyardref.SameEvents. -/
namespace Go.Proofs.Ytillhpepfpldcaa
open Go.RowKit

theorem neq_ev (x y : EventT) (w : World) :
    (binOp .neq 66 (evV x) (evV y)).run Try.prog w = .ok (.bool (!decide (x = y))) w := by
  rw [run_neq_struct, run_equalIn_agg _ _ _ _ _ (by kernel_rfl) (by kernel_rfl)]
  rw [show (Try.prog.fieldsOf 66).toList = [{ name := "Kind", type := 3, offset := 0, embedded := false, tag := "", pkgPath := "", byteOffset := 0 }, { name := "Type", type := 3, offset := 1, embedded := false, tag := "", pkgPath := "", byteOffset := 8 }, { name := "Id", type := 3, offset := 2, embedded := false, tag := "", pkgPath := "", byteOffset := 16 }, { name := "Field", type := 3, offset := 3, embedded := false, tag := "", pkgPath := "", byteOffset := 24 }, { name := "N", type := 3, offset := 4, embedded := false, tag := "", pkgPath := "", byteOffset := 32 }, { name := "Text", type := 9, offset := 5, embedded := false, tag := "", pkgPath := "", byteOffset := 40 }] from by kernel_rfl]
  simp [Op.eqFields, go_sem]
  obtain ⟨x0, x1, x2, x3, x4, x5⟩ := x
  obtain ⟨y0, y1, y2, y3, y4, y5⟩ := y
  by_cases h0 : x0 = y0 <;> by_cases h1 : x1 = y1 <;> by_cases h2 : x2 = y2 <;> by_cases h3 : x3 = y3 <;> by_cases h4 : x4 = y4 <;> by_cases h5 : x5 = y5 <;> simp [h0, h1, h2, h3, h4, h5]

set_option maxHeartbeats 1600000 in
theorem sameEvents_any (P Q : Nat → Prop) (w : World) (va vb : Value) (a b : List EventT) (ha : EvSl P w va a) (hb : EvSl Q w vb b) :
    Calls Try.prog 45 #[va, vb] w fun e w' => e = .returned (.bool (decide (a = b))) ∧ ∃ n, w' = w.drewN n := by
  obtain ⟨aa, ca, rfl⟩ := ha.form
  obtain ⟨ab, cb, rfl⟩ := hb.form
  obtain ⟨_, hla, _⟩ := ha.len
  obtain ⟨_, hlb, _⟩ := hb.len
  by_cases hne : a.length = b.length
  · have hne' : ((a.length : Int) != (b.length : Int)) = false := by simp; omega
    have hl1 : a.length ≤ b.length := by omega
    have hl2 : b.length ≤ a.length := by omega
    clear hne
    go_enter Try.func45, Try.ntmps45
    go_wp2_with fail
    go_loopg [5] a.length (fun g i wr => ∃ k n : Nat, k + g = a.length ∧ i = .int .i64 k ∧ wr = w.drewN n ∧ Hid (a.take k = b.take k))
    case atStart => exact ⟨0, 0, by omega, rfl, rfl, hide rfl⟩
    case round =>
      obtain ⟨k, n, hk, rfl, rfl, HE⟩ := hrel
      by_cases hlt : k < a.length
      · obtain ⟨b1, o1, e1, _, p0, p1, p2, p3, p4, p5⟩ := ha.at k hlt
        obtain ⟨b2, o2, e2, _, q0, q1, q2, q3, q4, q5⟩ := hb.at k (by omega)
        subst e1 e2
        have hkb : k < b.length := by omega
        have hnq := neq_ev a[k] b[k]
        by_cases he : a[k] = b[k]
        · rw [decide_eq_true he] at hnq
          have HT := hide he
          clear he
          go_wp2_with fail
          go_quiet (fail)
          go_wp2_with fail
          go_roundg (gk - 1)
          case measure => omega
          case rel => exact ⟨k + 1, _, by omega, by go_num, rfl, hide (by rw [List.take_succ_eq_append_getElem hlt, List.take_succ_eq_append_getElem hkb, HE.out, HT.out])⟩
        · rw [decide_eq_false he] at hnq
          have HT := hide he
          clear he
          go_wp2_with fail
          go_quiet (fail)
          go_wp2_with fail
          go_ret
          refine ⟨ret_bool (decide_eq_false ?_).symm, n + nq, by rw [World.drewN_drewN]⟩
          intro e
          subst e
          exact HT.out rfl
      · go_wp2_with fail
        go_ret
        refine ⟨ret_bool ?_, _, rfl⟩
        have e1 : a.take k = a := List.take_of_length_le (by omega)
        have e2 : b.take k = b := List.take_of_length_le (by omega)
        have := HE.out
        rw [e1, e2] at this
        exact (decide_eq_true this).symm
  · have hne' : ((a.length : Int) != (b.length : Int)) = true := by simp; omega
    have HF := hide (decide_eq_false (p := a = b) (fun e => hne (by rw [e])))
    go_enter Try.func45, Try.ntmps45
    go_wp2_with fail
    go_ret
    exact ⟨ret_bool HF.out.symm, 0, rfl⟩

end Go.Proofs.Ytillhpepfpldcaa

/- Slices of batches; halyardref.SameBatches. -/
namespace Go.Proofs.Ytillhpepfpldcaa
open Go.RowKit

/-- v is a slice of the batches l -/
def BaSl (P : Nat → Prop) (w : World) (v : Value) (l : List BatchT) : Prop :=
  ∃ ao cap, v = .slice ao l.length cap ∧ (l.length ≤ maxLen ∧ l.length ≤ cap ∧ (ao = none → cap = 0)) ∧ ∀ i b, l[i]? = some b → ∃ bl off ve, ao = some ⟨bl, off, none⟩ ∧ P bl ∧
    w.cell? ⟨bl, off + i * 2, none⟩ = some (.int .i64 b.number) ∧ w.cell? ⟨bl, off + i * 2 + 1, none⟩ = some ve ∧ EvSl P w ve b.events

theorem BaSl.keep {P X : Nat → Prop} {w w' : World} {v : Value} {l : List BatchT} (h : BaSl P w v l) (hk : Kept X w w') (hx : ∀ b, P b → ¬ X b) : BaSl P w' v l := by
  obtain ⟨ao, cap, hv, hl, hc⟩ := h
  refine ⟨ao, cap, hv, hl, fun i t ht => ?_⟩
  obtain ⟨b, off, ve, ha, hp, h0, h1, h2⟩ := hc i t ht
  exact ⟨b, off, ve, ha, hp, hk.cell h0 (hx b hp), hk.cell h1 (hx b hp), h2.keep hk hx⟩
theorem BaSl.same {P : Nat → Prop} {w w' : World} {v : Value} {l : List BatchT} (h : BaSl P w v l) (hk : Same w w') : BaSl P w' v l := h.keep hk (fun _ _ f => f)
theorem BaSl.mono {P Q : Nat → Prop} {w : World} {v : Value} {l : List BatchT} (h : BaSl P w v l) (hq : ∀ b, b < w.heap.size → P b → Q b) : BaSl Q w v l := by
  obtain ⟨ao, cap, hv, hl, hc⟩ := h
  refine ⟨ao, cap, hv, hl, fun i t ht => ?_⟩
  obtain ⟨b, off, ve, ha, hp, h0, h1, h2⟩ := hc i t ht
  exact ⟨b, off, ve, ha, hq b (World.block_lt_of_cell? w _ h0) hp, h0, h1, h2.mono hq⟩
theorem BaSl.nil (P : Nat → Prop) (w : World) : BaSl P w (.slice none 0 0) [] := ⟨none, 0, rfl, ⟨Nat.zero_le _, Nat.le_refl _, fun _ => rfl⟩, fun i t h => by simp at h⟩
theorem BaSl.form {P : Nat → Prop} {w : World} {v : Value} {l : List BatchT} (h : BaSl P w v l) : ∃ ao cap, v = .slice ao l.length cap := by
  obtain ⟨ao, cap, hv, _⟩ := h; exact ⟨ao, cap, hv⟩
theorem BaSl.len {P : Nat → Prop} {w : World} {ao : Option Addr} {n cap : Nat} {l : List BatchT} (h : BaSl P w (.slice ao n cap) l) : n = l.length ∧ l.length ≤ 9223372036854775807 ∧ l.length ≤ cap := by
  obtain ⟨_, _, hv, hl, _⟩ := h; cases hv; exact ⟨rfl, hl.1, hl.2.1⟩
theorem BaSl.at {P : Nat → Prop} {w : World} {ao : Option Addr} {n cap : Nat} {l : List BatchT} (h : BaSl P w (.slice ao n cap) l) (i : Nat) (hi : i < l.length) : ∃ b off ae ce, ao = some ⟨b, off, none⟩ ∧ P b ∧
    w.cell? ⟨b, off + i * 2, none⟩ = some (.int .i64 l[i].number) ∧ w.cell? ⟨b, off + i * 2 + 1, none⟩ = some (.slice ae l[i].events.length ce) ∧ EvSl P w (.slice ae l[i].events.length ce) l[i].events := by
  obtain ⟨ao', cap', hv, _, h3⟩ := h
  cases hv
  obtain ⟨b, off, ve, ha, hp, h0, h1, h2⟩ := h3 i l[i] (List.getElem?_eq_getElem hi)
  obtain ⟨ae, ce, rfl⟩ := h2.form
  exact ⟨b, off, ae, ce, ha, hp, h0, h1, h2⟩
/-- one batch in a block of its own -/
theorem BaSl.one {P : Nat → Prop} {w : World} {g : Nat} {b : BatchT} {ve : Value} {t : TypeId} (h : w.heap[g]? = some (.cells #[.int .i64 b.number, ve] t (0, 0))) (hp : P g) (he : EvSl P w ve b.events) : BaSl P w (.slice (some ⟨g, 0, none⟩) 1 1) [b] := by
  refine ⟨_, 1, rfl, ⟨by unfold maxLen; simp, by simp, fun e => (by cases e)⟩, fun i x hx => ?_⟩
  cases i with
  | zero =>
    simp at hx
    subst hx
    exact ⟨g, 0, ve, rfl, hp, by simp [World.cell?, h], by simp [World.cell?, h], he⟩
  | succ i => simp at hx

theorem ba_eq {a b : BatchT} : a = b ↔ a.number = b.number ∧ a.events = b.events := by cases a; cases b; simp

set_option maxHeartbeats 1600000 in
theorem sameBatches_any (P Q : Nat → Prop) (w : World) (va vb : Value) (a b : List BatchT) (ha : BaSl P w va a) (hb : BaSl Q w vb b) :
    Calls Try.prog 15 #[va, vb] w fun e w' => e = .returned (.bool (decide (a = b))) ∧ ∃ n, w' = w.drewN n := by
  obtain ⟨aa, ca, rfl⟩ := ha.form
  obtain ⟨ab, cb, rfl⟩ := hb.form
  obtain ⟨_, hla, _⟩ := ha.len
  obtain ⟨_, hlb, _⟩ := hb.len
  by_cases hne : a.length = b.length
  · have hne' : ((a.length : Int) != (b.length : Int)) = false := by simp; omega
    have hl1 : a.length ≤ b.length := by omega
    have hl2 : b.length ≤ a.length := by omega
    clear hne
    go_enter Try.func15, Try.ntmps15
    go_wp2_with fail
    go_loopg [5] a.length (fun g i wr => ∃ k n : Nat, k + g = a.length ∧ i = .int .i64 k ∧ wr = w.drewN n ∧ Hid (a.take k = b.take k))
    case atStart => exact ⟨0, 0, by omega, rfl, rfl, hide rfl⟩
    case round =>
      obtain ⟨k, n, hk, rfl, rfl, HE⟩ := hrel
      by_cases hlt : k < a.length
      · obtain ⟨b1, o1, a1, c1, e1, _, p0, p1, hE1⟩ := ha.at k hlt
        obtain ⟨b2, o2, a2, c2, e2, _, q0, q1, hE2⟩ := hb.at k (by omega)
        subst e1 e2
        have hkb : k < b.length := by omega
        have HSE := hide (fun u => (sameEvents_any P Q (w.drewN (n + u)) _ _ _ _ (hE1.same ((Kept.refl _ w).drewN _)) (hE2.same ((Kept.refl _ w).drewN _))).mono (R' := fun e w'' => e = .returned (.bool (decide (a[k].events = b[k].events))) ∧ ∃ m, w'' = w.drewN (n + m)) (fun e w'' h => ⟨h.1, by obtain ⟨m, hm⟩ := h.2; exact ⟨u + m, by rw [hm, World.drewN_drewN, Nat.add_assoc]⟩⟩))
        clear hE1 hE2
        obtain ⟨x, hx⟩ : ∃ x, x = a[k] := ⟨_, rfl⟩
        obtain ⟨y, hy⟩ : ∃ y, y = b[k] := ⟨_, rfl⟩
        rw [← hx] at p0 p1 HSE
        rw [← hy] at q0 q1 HSE
        have HX := hide hx
        have HY := hide hy
        clear hx hy
        by_cases hn : x.number = y.number
        · have hn' : (x.number != y.number) = false := by simp [hn]
          have HN := hide hn
          clear hn
          by_cases he : x.events = y.events
          · rw [decide_eq_true he] at HSE
            have HT := hide he
            clear he
            go_wp2_with fail
            go_quiet (first | (go_at_call 45; exact HSE.out _))
            go_wp2_with fail
            go_roundg (gk - 1)
            case measure => omega
            case rel => exact ⟨k + 1, _, by omega, by go_num, rfl, hide (by rw [List.take_succ_eq_append_getElem hlt, List.take_succ_eq_append_getElem hkb, HE.out, ← HX.out, ← HY.out, ba_eq.2 ⟨HN.out, HT.out⟩])⟩
          · rw [decide_eq_false he] at HSE
            have HT := hide he
            clear he
            go_wp2_with fail
            go_quiet (first | (go_at_call 45; exact HSE.out _))
            go_wp2_with fail
            go_ret
            refine ⟨ret_bool (decide_eq_false ?_).symm, n + nq, by rw [World.drewN_drewN]⟩
            intro e
            have hxy : x = y := by rw [HX.out, HY.out]; simp [e]
            exact HT.out (by rw [hxy])
        · have hn' : (x.number != y.number) = true := by simp [hn]
          have HN := hide hn
          clear hn
          go_wp2_with fail
          go_quiet (fail)
          go_wp2_with fail
          go_ret
          refine ⟨ret_bool (decide_eq_false ?_).symm, n + nq, by rw [World.drewN_drewN]⟩
          intro e
          have hxy : x = y := by rw [HX.out, HY.out]; simp [e]
          exact HN.out (by rw [hxy])
      · go_wp2_with fail
        go_ret
        refine ⟨ret_bool ?_, _, rfl⟩
        have e1 : a.take k = a := List.take_of_length_le (by omega)
        have e2 : b.take k = b := List.take_of_length_le (by omega)
        have := HE.out
        rw [e1, e2] at this
        exact (decide_eq_true this).symm
  · have hne' : ((a.length : Int) != (b.length : Int)) = true := by simp; omega
    have HF := hide (decide_eq_false (p := a = b) (fun e => hne (by rw [e])))
    go_enter Try.func15, Try.ntmps15
    go_wp2_with fail
    go_ret
    exact ⟨ret_bool HF.out.symm, 0, rfl⟩

end Go.Proofs.Ytillhpepfpldcaa
