import Derived.Test.YtillhpepfpldcaaDiskcrash01
import Derived.Laws.StructEq
import Derived.Test.YtillhpepfpldcaaDiskcrash03
import Derived.Test.YtillhpepfpldcaaChecked
/- halyardref.SameEvents. -/
namespace Go.Proofs.Ytillhpepfpldcaa
open Go.RowKit

theorem neq_ev (x y : EventT) (w : World) :
    (binOp .neq 66 (evV x) (evV y)).run Try.prog w = .ok (.bool (!decide (x = y))) w := by
  rw [run_neq_struct, run_equalIn_agg _ _ _ _ _ (by kernel_rfl) (by kernel_rfl)]
  rw [show (Try.prog.fieldsOf 66).toList = [{ name := "Kind", type := 3, offset := 0, embedded := false, tag := "", pkgPath := "", byteOffset := 0 }, { name := "Type", type := 3, offset := 1, embedded := false, tag := "", pkgPath := "", byteOffset := 8 }, { name := "Id", type := 3, offset := 2, embedded := false, tag := "", pkgPath := "", byteOffset := 16 }, { name := "Field", type := 3, offset := 3, embedded := false, tag := "", pkgPath := "", byteOffset := 24 }, { name := "N", type := 3, offset := 4, embedded := false, tag := "", pkgPath := "", byteOffset := 32 }, { name := "Text", type := 9, offset := 5, embedded := false, tag := "", pkgPath := "", byteOffset := 40 }] from by kernel_rfl]
  simp [Op.eqFields, go_sem]
  obtain ⟨x0, x1, x2, x3, x4, x5⟩ := x
  obtain ⟨y0, y1, y2, y3, y4, y5⟩ := y
  by_cases h0 : x0 = y0 <;> by_cases h1 : x1 = y1 <;> by_cases h2 : x2 = y2 <;> by_cases h3 : x3 = y3 <;> by_cases h4 : x4 = y4 <;> by_cases h5 : x5 = y5 <;> simp [h0, h1, h2, h3, h4, h5]

set_option maxHeartbeats 1600000 in
theorem sameEvents_any (P Q : Nat → Prop) (w : World) (va vb : Value) (a b : List EventT) (ha : EvSl P w va a) (hb : EvSl Q w vb b) :
    Calls Try.prog 45 #[va, vb] w fun e w' => e = .returned (.bool (decide (a = b))) ∧ ∃ n, w' = w.drewN n := by
  obtain ⟨aa, ca, rfl⟩ := ha.form
  obtain ⟨ab, cb, rfl⟩ := hb.form
  obtain ⟨_, hla, _⟩ := ha.len
  obtain ⟨_, hlb, _⟩ := hb.len
  by_cases hne : a.length = b.length
  · have hne' : ((a.length : Int) != (b.length : Int)) = false := by simp; omega
    have hl1 : a.length ≤ b.length := by omega
    have hl2 : b.length ≤ a.length := by omega
    clear hne
    go_enter Try.func45, Try.ntmps45
    go_wp2_with fail
    go_loopg [5] a.length (fun g i wr => ∃ k n : Nat, k + g = a.length ∧ i = .int .i64 k ∧ wr = w.drewN n ∧ Hid (a.take k = b.take k))
    case atStart => exact ⟨0, 0, by omega, rfl, rfl, hide rfl⟩
    case round =>
      obtain ⟨k, n, hk, rfl, rfl, HE⟩ := hrel
      by_cases hlt : k < a.length
      · obtain ⟨b1, o1, e1, _, p0, p1, p2, p3, p4, p5⟩ := ha.at k hlt
        obtain ⟨b2, o2, e2, _, q0, q1, q2, q3, q4, q5⟩ := hb.at k (by omega)
        subst e1 e2
        have hkb : k < b.length := by omega
        have hnq := neq_ev a[k] b[k]
        by_cases he : a[k] = b[k]
        · rw [decide_eq_true he] at hnq
          have HT := hide he
          clear he
          go_wp2_with fail
          go_quiet (fail)
          go_wp2_with fail
          go_roundg (gk - 1)
          case measure => omega
          case rel => exact ⟨k + 1, _, by omega, by go_num, rfl, hide (by rw [List.take_succ_eq_append_getElem hlt, List.take_succ_eq_append_getElem hkb, HE.out, HT.out])⟩
        · rw [decide_eq_false he] at hnq
          have HT := hide he
          clear he
          go_wp2_with fail
          go_quiet (fail)
          go_wp2_with fail
          go_ret
          refine ⟨ret_bool (decide_eq_false ?_).symm, n + nq, by rw [World.drewN_drewN]⟩
          intro e
          subst e
          exact HT.out rfl
      · go_wp2_with fail
        go_ret
        refine ⟨ret_bool ?_, _, rfl⟩
        have e1 : a.take k = a := List.take_of_length_le (by omega)
        have e2 : b.take k = b := List.take_of_length_le (by omega)
        have := HE.out
        rw [e1, e2] at this
        exact (decide_eq_true this).symm
  · have hne' : ((a.length : Int) != (b.length : Int)) = true := by simp; omega
    have HF := hide (decide_eq_false (p := a = b) (fun e => hne (by rw [e])))
    go_enter Try.func45, Try.ntmps45
    go_wp2_with fail
    go_ret
    exact ⟨ret_bool HF.out.symm, 0, rfl⟩

end Go.Proofs.Ytillhpepfpldcaa

/- Slices of batches; halyardref.SameBatches. -/
namespace Go.Proofs.Ytillhpepfpldcaa
open Go.RowKit

/-- v is a slice of the batches l -/
def BaSl (P : Nat → Prop) (w : World) (v : Value) (l : List BatchT) : Prop :=
  ∃ ao cap, v = .slice ao l.length cap ∧ (l.length ≤ maxLen ∧ l.length ≤ cap ∧ (ao = none → cap = 0)) ∧ ∀ i b, l[i]? = some b → ∃ bl off ve, ao = some ⟨bl, off, none⟩ ∧ P bl ∧
    w.cell? ⟨bl, off + i * 2, none⟩ = some (.int .i64 b.number) ∧ w.cell? ⟨bl, off + i * 2 + 1, none⟩ = some ve ∧ EvSl P w ve b.events

theorem BaSl.keep {P X : Nat → Prop} {w w' : World} {v : Value} {l : List BatchT} (h : BaSl P w v l) (hk : Kept X w w') (hx : ∀ b, P b → ¬ X b) : BaSl P w' v l := by
  obtain ⟨ao, cap, hv, hl, hc⟩ := h
  refine ⟨ao, cap, hv, hl, fun i t ht => ?_⟩
  obtain ⟨b, off, ve, ha, hp, h0, h1, h2⟩ := hc i t ht
  exact ⟨b, off, ve, ha, hp, hk.cell h0 (hx b hp), hk.cell h1 (hx b hp), h2.keep hk hx⟩
theorem BaSl.same {P : Nat → Prop} {w w' : World} {v : Value} {l : List BatchT} (h : BaSl P w v l) (hk : Same w w') : BaSl P w' v l := h.keep hk (fun _ _ f => f)
theorem BaSl.mono {P Q : Nat → Prop} {w : World} {v : Value} {l : List BatchT} (h : BaSl P w v l) (hq : ∀ b, b < w.heap.size → P b → Q b) : BaSl Q w v l := by
  obtain ⟨ao, cap, hv, hl, hc⟩ := h
  refine ⟨ao, cap, hv, hl, fun i t ht => ?_⟩
  obtain ⟨b, off, ve, ha, hp, h0, h1, h2⟩ := hc i t ht
  exact ⟨b, off, ve, ha, hq b (World.block_lt_of_cell? w _ h0) hp, h0, h1, h2.mono hq⟩
theorem BaSl.nil (P : Nat → Prop) (w : World) : BaSl P w (.slice none 0 0) [] := ⟨none, 0, rfl, ⟨Nat.zero_le _, Nat.le_refl _, fun _ => rfl⟩, fun i t h => by simp at h⟩
theorem BaSl.form {P : Nat → Prop} {w : World} {v : Value} {l : List BatchT} (h : BaSl P w v l) : ∃ ao cap, v = .slice ao l.length cap := by
  obtain ⟨ao, cap, hv, _⟩ := h; exact ⟨ao, cap, hv⟩
theorem BaSl.len {P : Nat → Prop} {w : World} {ao : Option Addr} {n cap : Nat} {l : List BatchT} (h : BaSl P w (.slice ao n cap) l) : n = l.length ∧ l.length ≤ 9223372036854775807 ∧ l.length ≤ cap := by
  obtain ⟨_, _, hv, hl, _⟩ := h; cases hv; exact ⟨rfl, hl.1, hl.2.1⟩
theorem BaSl.at {P : Nat → Prop} {w : World} {ao : Option Addr} {n cap : Nat} {l : List BatchT} (h : BaSl P w (.slice ao n cap) l) (i : Nat) (hi : i < l.length) : ∃ b off ae ce, ao = some ⟨b, off, none⟩ ∧ P b ∧
    w.cell? ⟨b, off + i * 2, none⟩ = some (.int .i64 l[i].number) ∧ w.cell? ⟨b, off + i * 2 + 1, none⟩ = some (.slice ae l[i].events.length ce) ∧ EvSl P w (.slice ae l[i].events.length ce) l[i].events := by
  obtain ⟨ao', cap', hv, _, h3⟩ := h
  cases hv
  obtain ⟨b, off, ve, ha, hp, h0, h1, h2⟩ := h3 i l[i] (List.getElem?_eq_getElem hi)
  obtain ⟨ae, ce, rfl⟩ := h2.form
  exact ⟨b, off, ae, ce, ha, hp, h0, h1, h2⟩
/-- one batch in a block of its own -/
theorem BaSl.one {P : Nat → Prop} {w : World} {g : Nat} {b : BatchT} {ve : Value} {t : TypeId} (h : w.heap[g]? = some (.cells #[.int .i64 b.number, ve] t (0, 0))) (hp : P g) (he : EvSl P w ve b.events) : BaSl P w (.slice (some ⟨g, 0, none⟩) 1 1) [b] := by
  refine ⟨_, 1, rfl, ⟨by unfold maxLen; simp, by simp, fun e => (by cases e)⟩, fun i x hx => ?_⟩
  cases i with
  | zero =>
    simp at hx
    subst hx
    exact ⟨g, 0, ve, rfl, hp, by simp [World.cell?, h], by simp [World.cell?, h], he⟩
  | succ i => simp at hx

theorem ba_eq {a b : BatchT} : a = b ↔ a.number = b.number ∧ a.events = b.events := by cases a; cases b; simp

set_option maxHeartbeats 1600000 in
theorem sameBatches_any (P Q : Nat → Prop) (w : World) (va vb : Value) (a b : List BatchT) (ha : BaSl P w va a) (hb : BaSl Q w vb b) :
    Calls Try.prog 15 #[va, vb] w fun e w' => e = .returned (.bool (decide (a = b))) ∧ ∃ n, w' = w.drewN n := by
  obtain ⟨aa, ca, rfl⟩ := ha.form
  obtain ⟨ab, cb, rfl⟩ := hb.form
  obtain ⟨_, hla, _⟩ := ha.len
  obtain ⟨_, hlb, _⟩ := hb.len
  by_cases hne : a.length = b.length
  · have hne' : ((a.length : Int) != (b.length : Int)) = false := by simp; omega
    have hl1 : a.length ≤ b.length := by omega
    have hl2 : b.length ≤ a.length := by omega
    clear hne
    go_enter Try.func15, Try.ntmps15
    go_wp2_with fail
    go_loopg [5] a.length (fun g i wr => ∃ k n : Nat, k + g = a.length ∧ i = .int .i64 k ∧ wr = w.drewN n ∧ Hid (a.take k = b.take k))
    case atStart => exact ⟨0, 0, by omega, rfl, rfl, hide rfl⟩
    case round =>
      obtain ⟨k, n, hk, rfl, rfl, HE⟩ := hrel
      by_cases hlt : k < a.length
      · obtain ⟨b1, o1, a1, c1, e1, _, p0, p1, hE1⟩ := ha.at k hlt
        obtain ⟨b2, o2, a2, c2, e2, _, q0, q1, hE2⟩ := hb.at k (by omega)
        subst e1 e2
        have hkb : k < b.length := by omega
        have HSE := hide (fun u => (sameEvents_any P Q (w.drewN (n + u)) _ _ _ _ (hE1.same ((Kept.refl _ w).drewN _)) (hE2.same ((Kept.refl _ w).drewN _))).mono (R' := fun e w'' => e = .returned (.bool (decide (a[k].events = b[k].events))) ∧ ∃ m, w'' = w.drewN (n + m)) (fun e w'' h => ⟨h.1, by obtain ⟨m, hm⟩ := h.2; exact ⟨u + m, by rw [hm, World.drewN_drewN, Nat.add_assoc]⟩⟩))
        clear hE1 hE2
        obtain ⟨x, hx⟩ : ∃ x, x = a[k] := ⟨_, rfl⟩
        obtain ⟨y, hy⟩ : ∃ y, y = b[k] := ⟨_, rfl⟩
        rw [← hx] at p0 p1 HSE
        rw [← hy] at q0 q1 HSE
        have HX := hide hx
        have HY := hide hy
        clear hx hy
        by_cases hn : x.number = y.number
        · have hn' : (x.number != y.number) = false := by simp [hn]
          have HN := hide hn
          clear hn
          by_cases he : x.events = y.events
          · rw [decide_eq_true he] at HSE
            have HT := hide he
            clear he
            go_wp2_with fail
            go_quiet (first | (go_at_call 45; exact HSE.out _))
            go_wp2_with fail
            go_roundg (gk - 1)
            case measure => omega
            case rel => exact ⟨k + 1, _, by omega, by go_num, rfl, hide (by rw [List.take_succ_eq_append_getElem hlt, List.take_succ_eq_append_getElem hkb, HE.out, ← HX.out, ← HY.out, ba_eq.2 ⟨HN.out, HT.out⟩])⟩
          · rw [decide_eq_false he] at HSE
            have HT := hide he
            clear he
            go_wp2_with fail
            go_quiet (first | (go_at_call 45; exact HSE.out _))
            go_wp2_with fail
            go_ret
            refine ⟨ret_bool (decide_eq_false ?_).symm, n + nq, by rw [World.drewN_drewN]⟩
            intro e
            have hxy : x = y := by rw [HX.out, HY.out]; simp [e]
            exact HT.out (by rw [hxy])
        · have hn' : (x.number != y.number) = true := by simp [hn]
          have HN := hide hn
          clear hn
          go_wp2_with fail
          go_quiet (fail)
          go_wp2_with fail
          go_ret
          refine ⟨ret_bool (decide_eq_false ?_).symm, n + nq, by rw [World.drewN_drewN]⟩
          intro e
          have hxy : x = y := by rw [HX.out, HY.out]; simp [e]
          exact HN.out (by rw [hxy])
      · go_wp2_with fail
        go_ret
        refine ⟨ret_bool ?_, _, rfl⟩
        have e1 : a.take k = a := List.take_of_length_le (by omega)
        have e2 : b.take k = b := List.take_of_length_le (by omega)
        have := HE.out
        rw [e1, e2] at this
        exact (decide_eq_true this).symm
  · have hne' : ((a.length : Int) != (b.length : Int)) = true := by simp; omega
    have HF := hide (decide_eq_false (p := a = b) (fun e => hne (by rw [e])))
    go_enter Try.func15, Try.ntmps15
    go_wp2_with fail
    go_ret
    exact ⟨ret_bool HF.out.symm, 0, rfl⟩

end Go.Proofs.Ytillhpepfpldcaa

/- slices.IndexFunc and parts.First at events. -/
namespace Go.Proofs.Ytillhpepfpldcaa
open Go.RowKit

def findNo (q : EventT → Bool) (l : List EventT) : Int := match l.findIdx? q with | some i => (i : Nat) | none => -1
def firstE (q : EventT → Bool) (l : List EventT) : EventT := (l.find? q).getD event0

theorem findNo_at {q : EventT → Bool} {l : List EventT} {i : Nat} (hi : i < l.length) (h : ∀ j (hj : j < i), q (l[j]'(by omega)) = false) (hq : q l[i] = true) : findNo q l = i := by
  unfold findNo
  have : l.findIdx? q = some i := by
    rw [List.findIdx?_eq_some_iff_getElem]
    exact ⟨hi, hq, fun j hj => by simp [h j hj]⟩
  rw [this]
theorem findNo_none {q : EventT → Bool} {l : List EventT} (h : ∀ j (hj : j < l.length), q l[j] = false) : findNo q l = -1 := by
  unfold findNo
  have : l.findIdx? q = none := by
    rw [List.findIdx?_eq_none_iff]
    intro x hx
    obtain ⟨j, hj, rfl⟩ := List.getElem_of_mem hx
    exact h j hj
  rw [this]

set_option maxHeartbeats 800000 in
theorem indexFuncE (f : FuncId) (q : EventT → Bool) (hcf : ∀ (args : Array Value) (w : World), (callFunc f args).run Try.prog w = .ok (.enter f args) w)
    (hf : Hid (∀ (e : EventT) (w : World), Calls Try.prog f #[evV e] w fun r w' => r = .returned (.bool (q e)) ∧ Same w w'))
    (P : Nat → Prop) (w : World) (v : Value) (l : List EventT) (h : EvSl P w v l) :
    Calls Try.prog 59 #[v, .func (.func f) #[] #[]] w fun r w' => r = .returned (.int .i64 (findNo q l)) ∧ Same w w' := by
  obtain ⟨ao, cap, rfl⟩ := h.form
  obtain ⟨_, hl, hcap⟩ := h.len
  go_enter Try.func59, Try.ntmps59
  go_wp2_with fail
  go_loopg [8] l.length (fun g iv wr => ∃ i : Nat, i + g = l.length ∧ iv = .int .i64 i ∧ Same w wr ∧ Hid (∀ j (hj : j < l.length), j < i → q l[j] = false))
  case atStart => exact ⟨0, by omega, rfl, Kept.refl _ _, fun j _ hj => by omega⟩
  case round =>
    obtain ⟨i, hi, rfl, hK, HP⟩ := hrel
    by_cases hlt : i < l.length
    · obtain ⟨b, off, hao, _, e0, e1, e2, e3, e4, e5⟩ := (h.same hK).at i hlt
      subst hao
      cases hq : q l[i] with
      | true =>
        have HQ := hide hq
        clear hq
        go_wp2_with fail
        refine (hf.out l[i] _).mono ?_
        rintro r w1 ⟨rfl, hK1⟩
        rw [HQ.out]
        go_wp2_with fail
        go_ret
        exact ⟨ret_int (findNo_at hlt (fun j hj => HP.out j (by omega) hj) HQ.out).symm, hK.trans hK1 (fun _ _ f => f)⟩
      | false =>
        have HQ := hide hq
        clear hq
        go_wp2_with fail
        refine (hf.out l[i] _).mono ?_
        rintro r w1 ⟨rfl, hK1⟩
        rw [HQ.out]
        go_wp2_with fail
        go_roundg (gk - 1)
        case measure => omega
        case rel =>
          refine ⟨i + 1, by omega, by go_num, hK.trans hK1 (fun _ _ f => f), fun j hj hji => ?_⟩
          rcases Nat.lt_or_ge j i with h1 | h1
          · exact HP.out j hj h1
          · obtain rfl : j = i := by omega
            exact HQ.out
    · go_wp2_with fail
      go_ret
      exact ⟨ret_int (findNo_none (fun j hj => HP.out j hj (by omega))).symm, hK⟩

theorem cells6 {w : World} {g : Nat} {x0 x1 x2 x3 x4 x5 : Value} {t : TypeId} (h : w.heap[g]? = some (.cells #[x0, x1, x2, x3, x4, x5] t (0, 0))) :
    w.cell? ⟨g, 0, none⟩ = some x0 ∧ w.cell? ⟨g, 1, none⟩ = some x1 ∧ w.cell? ⟨g, 2, none⟩ = some x2 ∧ w.cell? ⟨g, 3, none⟩ = some x3 ∧ w.cell? ⟨g, 4, none⟩ = some x4 ∧ w.cell? ⟨g, 5, none⟩ = some x5 ∧
    w.frozen? ⟨g, 0, none⟩ = false ∧ w.frozen? ⟨g, 1, none⟩ = false ∧ w.frozen? ⟨g, 2, none⟩ = false ∧ w.frozen? ⟨g, 3, none⟩ = false ∧ w.frozen? ⟨g, 4, none⟩ = false ∧ w.frozen? ⟨g, 5, none⟩ = false := by
  simp [World.cell?, World.frozen?, h]
abbrev put6 (w : World) (g : Nat) (a b c d e f : Value) : World :=
  (((((w.setCell ⟨g, 0, none⟩ a).setCell ⟨g, 1, none⟩ b).setCell ⟨g, 2, none⟩ c).setCell ⟨g, 3, none⟩ d).setCell ⟨g, 4, none⟩ e).setCell ⟨g, 5, none⟩ f
theorem set6 {w : World} {g : Nat} {x0 x1 x2 x3 x4 x5 : Value} {t : TypeId} (h : w.heap[g]? = some (.cells #[x0, x1, x2, x3, x4, x5] t (0, 0))) (a b c d e f : Value) :
    (put6 w g a b c d e f).heap[g]? = some (.cells #[a, b, c, d, e, f] t (0, 0)) := by
  simp [World.setCell, Array.getElem?_modify, h]
theorem keep6 {X : Nat → Prop} {w w1 : World} {g : Nat} (h : Kept X w w1) (hg : g < w.heap.size → X g) (a b c d e f : Value) : Kept X w (put6 w1 g a b c d e f) :=
  (((((h.setCell hg _).setCell hg _).setCell hg _).setCell hg _).setCell hg _).setCell hg _

theorem find_some {q : EventT → Bool} {l : List EventT} (h : l.any q = true) : ∃ i : Nat, findNo q l = i ∧ ∃ hi : i < l.length, l[i] = firstE q l := by
  cases hx : l.findIdx? q with
  | none =>
    rw [List.findIdx?_eq_none_iff] at hx
    rw [List.any_eq_true] at h
    obtain ⟨x, h1, h2⟩ := h
    rw [hx x h1] at h2; cases h2
  | some i =>
    refine ⟨i, by unfold findNo; rw [hx], ?_⟩
    obtain ⟨hi, h1, h2⟩ := List.findIdx?_eq_some_iff_getElem.1 hx
    refine ⟨hi, ?_⟩
    unfold firstE
    have : l.find? q = some l[i] := by
      rw [List.find?_eq_some_iff_getElem]
      exact ⟨h1, i, hi, rfl, fun j hj => by simpa using h2 j hj⟩
    rw [this]; rfl
theorem find_none {q : EventT → Bool} {l : List EventT} (h : l.any q = false) : findNo q l = -1 ∧ firstE q l = event0 := by
  rw [List.any_eq_false] at h
  constructor
  · exact findNo_none (fun j hj => by simpa using h l[j] (List.getElem_mem hj))
  · unfold firstE
    have : l.find? q = none := by rw [List.find?_eq_none]; exact h
    rw [this]; rfl

set_option maxHeartbeats 800000 in
theorem firstE_any (f : FuncId) (q : EventT → Bool) (hcf : ∀ (args : Array Value) (w : World), (callFunc f args).run Try.prog w = .ok (.enter f args) w)
    (hf : Hid (∀ (e : EventT) (w : World), Calls Try.prog f #[evV e] w fun r w' => r = .returned (.bool (q e)) ∧ Same w w'))
    (P : Nat → Prop) (w : World) (v : Value) (l : List EventT) (h : EvSl P w v l) :
    Calls Try.prog 42 #[v, .func (.func f) #[] #[]] w fun r w' => r = .returned (.tuple #[evV (firstE q l), .bool (l.any q)]) ∧ Same w w' := by
  have HI := hide (fun wx hK => indexFuncE f q hcf hf P wx v l (h.same hK))
  obtain ⟨ao, cap, rfl⟩ := h.form
  obtain ⟨_, hl, hcap⟩ := h.len
  cases hq : l.any q with
  | true =>
    obtain ⟨i, h1, hi, h2⟩ := find_some hq
    rw [h1] at HI
    rw [← h2]
    clear hq h1 h2
    have HS := hide h
    clear h
    go_enter Try.func42, Try.ntmps42
    go_wp2_with fail
    refine (HI.out _ (by repeat' (first | assumption | exact Kept.refl _ _ | refine Kept.drewN ?_ _ | refine Kept.drew ?_ | refine Kept.alloc ?_ _ | refine Kept.setB ?_ _ _))).mono ?_
    rintro r w1 ⟨rfl, hK1⟩
    have hK2 : Same w w1 := ((Kept.refl _ w).alloc _).trans hK1 (fun _ _ f => f)
    obtain ⟨b, off, hao, _, e0, e1, e2, e3, e4, e5⟩ := (HS.out.same hK2).at i hi
    subst hao
    have hg := new_kept (w := w) hK1 (fun f => f)
    obtain ⟨z0, z1, z2, z3, z4, z5, f0, f1, f2, f3, f4, f5⟩ := cells6 hg
    go_wp2_with fail
    obtain ⟨q0, q1, q2, q3, q4, q5, _⟩ := cells6 (set6 hg (.int .i64 l[i].kind) (.int .i64 l[i].ty) (.int .i64 l[i].id) (.int .i64 l[i].field) (.int .i64 l[i].n) (.string ⟨l[i].text.toArray⟩))
    refine bodyPost_ret (v := .tuple #[evV l[i], .bool true]) (by simp [results, Try.results42, go_sem, q0, q1, q2, q3, q4, q5]) rfl ⟨rfl, ?_⟩
    exact keep6 hK2 (fun h => absurd h (Nat.lt_irrefl _)) _ _ _ _ _ _
  | false =>
    obtain ⟨h1, h2⟩ := find_none hq
    rw [h1] at HI
    rw [h2]
    clear hq h1 h2 h
    go_enter Try.func42, Try.ntmps42
    go_wp2_with fail
    refine (HI.out _ (by repeat' (first | assumption | exact Kept.refl _ _ | refine Kept.drewN ?_ _ | refine Kept.drew ?_ | refine Kept.alloc ?_ _ | refine Kept.setB ?_ _ _))).mono ?_
    rintro r w1 ⟨rfl, hK1⟩
    have hK2 : Same w w1 := ((Kept.refl _ w).alloc _).trans hK1 (fun _ _ f => f)
    have hg := new_kept (w := w) hK1 (fun f => f)
    have hgs : w.heap.size < w1.heap.size := (Array.getElem?_eq_some_iff.1 hg).1
    obtain ⟨z0, z1, z2, z3, z4, z5, f0, f1, f2, f3, f4, f5⟩ := cells6 hg
    go_wp2_with fail
    have hs6 := set6 hg (.int .i64 0) (.int .i64 0) (.int .i64 0) (.int .i64 0) (.int .i64 0) (.string ⟨#[]⟩)
    have hk6 := keep6 (g := w.heap.size) hK2 (fun h => absurd h (Nat.lt_irrefl _)) (.int .i64 0) (.int .i64 0) (.int .i64 0) (.int .i64 0) (.int .i64 0) (.string ⟨#[]⟩)
    have hlt : w.heap.size < ((((((w1.setCell ⟨w.heap.size, 0, none⟩ (.int .i64 0)).setCell ⟨w.heap.size, 1, none⟩ (.int .i64 0)).setCell ⟨w.heap.size, 2, none⟩ (.int .i64 0)).setCell ⟨w.heap.size, 3, none⟩ (.int .i64 0)).setCell ⟨w.heap.size, 4, none⟩ (.int .i64 0)).setCell ⟨w.heap.size, 5, none⟩ (.string ⟨#[]⟩)).heap.size := by simpa using hgs
    simp only [put6] at hs6 hk6
    generalize (((((w1.setCell ⟨w.heap.size, 0, none⟩ (.int .i64 0)).setCell ⟨w.heap.size, 1, none⟩ (.int .i64 0)).setCell ⟨w.heap.size, 2, none⟩ (.int .i64 0)).setCell ⟨w.heap.size, 3, none⟩ (.int .i64 0)).setCell ⟨w.heap.size, 4, none⟩ (.int .i64 0)).setCell ⟨w.heap.size, 5, none⟩ (.string ⟨#[]⟩) = w6 at *
    obtain ⟨q0, q1, q2, q3, q4, q5, _⟩ := cells6 ((Below.heap_alloc w6 (.cells #[.int .i64 0, .int .i64 0, .int .i64 0, .int .i64 0, .int .i64 0, .string ⟨#[]⟩] 66) w.heap.size hlt).trans hs6)
    exact bodyPost_ret (v := .tuple #[evV event0, .bool false]) (by simp [results, Try.results42, go_sem, q0, q1, q2, q3, q4, q5, event0]) rfl ⟨rfl, hk6.alloc _⟩

end Go.Proofs.Ytillhpepfpldcaa

/- parts.IsIndex, parts.IsId. -/
namespace Go.Proofs.Ytillhpepfpldcaa
open Go.RowKit

def isIxI (i m : Int) : Bool := decide (0 ≤ i) && decide (i < m)
theorem isIx_I (i : Int) (n : Nat) : isIx i n = isIxI i n := rfl

theorem pIsIndex (i m : Int) (w : World) :
    Calls Try.prog 76 #[.int .i64 i, .int .i64 m] w fun e w' => e = .returned (.bool (isIxI i m)) ∧ w' = w := by
  go_enter Try.func76, Try.ntmps76
  go_wp2
  all_goals go_ret
  all_goals refine ⟨ret_bool ?_, rfl⟩
  all_goals (unfold isIxI; rw [Bool.eq_iff_iff]; simp; try omega)

theorem pIsId (i : Int) (w : World) :
    Calls Try.prog 77 #[.int .i64 i] w fun e w' => e = .returned (.bool (isIdT i)) ∧ w' = w := by
  go_enter Try.func77, Try.ntmps77
  go_wp2
  all_goals go_ret
  all_goals refine ⟨ret_bool ?_, rfl⟩
  all_goals (unfold isIdT; rw [Bool.eq_iff_iff]; simp; try omega)

end Go.Proofs.Ytillhpepfpldcaa

/- parts.IsInt. -/
namespace Go.Proofs.Ytillhpepfpldcaa
open Go.RowKit

def pIntB (n : Int) : Bool := decide (-999999999 ≤ n) && decide (n ≤ 999999999)

theorem pIsInt (n : Int) (w : World) :
    Calls Try.prog 78 #[.int .i64 n] w fun e w' => e = .returned (.bool (pIntB n)) ∧ w' = w := by
  go_enter Try.func78, Try.ntmps78
  go_wp2
  all_goals go_ret
  all_goals refine ⟨ret_bool ?_, rfl⟩
  all_goals (unfold pIntB; rw [Bool.eq_iff_iff]; simp; try omega)

theorem pIntB_yes {n : Int} (h1 : -999999999 ≤ n) (h2 : n ≤ 999999999) : pIntB n = true := by unfold pIntB; simp [h1, h2]
theorem pIntB_no {n : Int} (h : n < -999999999 ∨ 999999999 < n) : pIntB n = false := by unfold pIntB; simp; omega

end Go.Proofs.Ytillhpepfpldcaa
