import Derived.Test.YtillhpepfpldcaaDisktells18
import Derived.OrdersHeld
import Derived.RegionTactic
import Derived.Deep.RegionHeld3
import Derived.Test.YtillhpepfpldcaaDisktells01
/- disk.keeper: put. -/
namespace Go.Proofs.Ytillhpepfpldcaa
open Go.RowKit

section
variable {B : Nat} {w : World} {g : Nat} {sv bv ev : Value} {segs : List (List UInt8)} {syn : Int} {bp : List (BatchT × Value)} {es : List Nat}

abbrev EvP (B g : Nat) (sv bv ev : Value) : Nat → Prop := fun k => B ≤ k ∧ k ≠ g ∧ ¬ Row sv k ∧ ¬ Row bv k ∧ ¬ Row ev k

/-- rows that have grown, the keeper's block stored into -/
theorem KW.turn (h : KW B w g sv bv ev segs syn bp es) {w5 : World} {sv' bv' ev' : Value} {segs' : List (List UInt8)} {syn' : Int} {bp' : List (BatchT × Value)} {es' : List Nat}
    (hk : Kept (fun k => Row sv k ∨ Row bv k ∨ Row ev k ∨ k = g) w w5)
    (blk : w5.heap[g]? = some (.cells #[sv', .int .i64 syn', bv', ev'] 84 (0, 0)))
    (own : OwnS B w5 sv' segs') (bat : w5.ownsRow B 24 2 bv' bp'.length (bpCells bp')) (end' : w5.ownsRow B 3 1 ev' es'.length (inCells es'))
    (rs : ∀ k, Row sv' k → Row sv k ∨ w.heap.size ≤ k) (rb : ∀ k, Row bv' k → Row bv k ∨ w.heap.size ≤ k) (re : ∀ k, Row ev' k → Row ev k ∨ w.heap.size ≤ k)
    (hnew : ∀ k, w.heap.size ≤ k → ¬ (Row sv' k ∧ Row bv' k) ∧ ¬ (Row sv' k ∧ Row ev' k) ∧ ¬ (Row bv' k ∧ Row ev' k))
    (evn : ∀ p ∈ bp', p ∈ bp ∨ EvSl (EvP B g sv' bv' ev') w5 p.2 p.1.events) (len : segs'.length ≤ 8) (each : ∀ s ∈ segs', s.length ≤ 400) :
    KW B w5 g sv' bv' ev' segs' syn' bp' es' := by
  have ls : ∀ k, Row sv k → k < w.heap.size := fun k hr => (own_up h.own k hr).2
  have lb : ∀ k, Row bv k → k < w.heap.size := fun k hr => (own_up h.bat k hr).2
  have le : ∀ k, Row ev k → k < w.heap.size := fun k hr => (own_up h.end' k hr).2
  have lg : g < w.heap.size := (Array.getElem?_eq_some_iff.1 h.blk).1
  refine { blk := blk, own := own, bat := bat, evs := fun p hp => ?_, end' := end', hB := h.hB, sg := fun hr => ?_, bg := fun hr => ?_, eg := fun hr => ?_, sb := fun k h1 h2 => ?_, se := fun k h1 h2 => ?_, be := fun k h1 h2 => ?_, len := len, each := each }
  · rcases evn p hp with hp | hp
    · have h0 := (h.evs p hp).mono (Q := fun k => (B ≤ k ∧ k ≠ g ∧ ¬ Row sv k ∧ ¬ Row bv k ∧ ¬ Row ev k) ∧ k < w.heap.size) (fun b hb hp => ⟨hp, hb⟩)
      have h1 := h0.keep hk (fun b hb hx => by
        obtain ⟨⟨h1, h2, h3, h4, h5⟩, _⟩ := hb
        rcases hx with hx | hx | hx | hx
        · exact h3 hx
        · exact h4 hx
        · exact h5 hx
        · exact h2 hx)
      refine h1.mono (fun k _ hb => ?_)
      obtain ⟨⟨b1, b2, b3, b4, b5⟩, b6⟩ := hb
      exact ⟨b1, b2, fun hr => (rs k hr).elim b3 (fun hx => by omega), fun hr => (rb k hr).elim b4 (fun hx => by omega), fun hr => (re k hr).elim b5 (fun hx => by omega)⟩
    · exact hp
  · exact (rs g hr).elim h.sg (fun hx => by omega)
  · exact (rb g hr).elim h.bg (fun hx => by omega)
  · exact (re g hr).elim h.eg (fun hx => by omega)
  · rcases rs k h1 with a | a
    · have := ls k a
      exact (rb k h2).elim (fun b => h.sb k a b) (fun hx => by omega)
    · rcases rb k h2 with b | b
      · have := lb k b; omega
      · exact (hnew k a).1 ⟨h1, h2⟩
  · rcases rs k h1 with a | a
    · have := ls k a
      exact (re k h2).elim (fun b => h.se k a b) (fun hx => by omega)
    · rcases re k h2 with b | b
      · have := le k b; omega
      · exact (hnew k a).2.1 ⟨h1, h2⟩
  · rcases rb k h1 with a | a
    · have := lb k a
      exact (re k h2).elim (fun b => h.be k a b) (fun hx => by omega)
    · rcases re k h2 with b | b
      · have := le k b; omega
      · exact (hnew k a).2.2 ⟨h1, h2⟩

theorem info_str : (Try.prog.info? 9).map (fun i => (i.zero, i.size, i.bytes)) = some (some (.string ⟨#[]⟩), 1, 16) := by kernel_rfl

theorem stCells_app (a b : List (List UInt8)) : stCells (a ++ b) = stCells a ++ stCells b := by simp [stCells]

/-- put: the disk's parts behind it, or the error -/
def putP (segs : List (List UInt8)) (syn : Int) (x : List UInt8) : Int × List (List UInt8) × Int :=
  if segs ≠ [] ∧ (lastS segs).length + x.length ≤ 400 then (0, setLastS segs (lastS segs ++ x), syn)
  else if segs.length = 8 then (2, segs, syn) else (0, segs ++ [x], 0)

set_option maxHeartbeats 1600000 in
theorem put_any (h : KW B w g sv bv ev segs syn bp es) (x : List UInt8) (hx : x.length ≤ 400) (hBw : B ≤ w.heap.size) :
    Calls Try.prog 51 #[.pointer (some ⟨g, 0, none⟩), .string ⟨x.toArray⟩] w fun r w' => r = .returned (.int .i64 (putP segs syn x).1) ∧ ∃ sv', KW B w' g sv' bv ev (putP segs syn x).2.1 (putP segs syn x).2.2 bp es ∧ Kept (B ≤ ·) w w' := by
  have HR := hide (room_any h x.length (by omega))
  have hz := bsize x
  have hll := last_len h
  by_cases hroom : segs ≠ [] ∧ (lastS segs).length + x.length ≤ 400
  · have HP := hide (show putP segs syn x = (0, setLastS segs (lastS segs ++ x), syn) by unfold putP; rw [if_pos hroom])
    rw [decide_eq_true hroom] at HR
    have hsum : (lastS segs).length + x.length ≤ 400 := hroom.2
    have hzl := bsize (lastS segs)
    have HX := hide (show (⟨(lastS segs).toArray⟩ : ByteArray) ++ ⟨x.toArray⟩ = ⟨(lastS segs ++ x).toArray⟩ by apply ByteArray.ext; simp)
    have HSL := hide (fun wx hk => setLast_any (h.same (w' := wx) hk) (lastS segs ++ x) (by rw [List.length_append]; exact hsum))
    have HL := hide (fun wx hk => last_any (h.same (w' := wx) hk))
    clear h hroom
    rw [HP.out]
    clear HP
    generalize lastS segs = s at *
    go_enter Try.func51, Try.ntmps51
    go_wp2_with fail
    refine HR.out.mono ?_
    rintro r w1 ⟨rfl, hK1⟩
    go_wp2_with fail
    refine (HL.out _ hK1).mono ?_
    rintro r w2 ⟨rfl, m2, hw2⟩
    have hK2 : Same w w2 := hK1.trans (same_drewN hw2) (fun _ _ f => f)
    clear hw2
    go_wp2_with fail
    rw [HX.out]
    refine (HSL.out _ hK2).mono ?_
    rintro r w3 ⟨rfl, hk3, hK3⟩
    go_wp2_with fail
    go_ret
    exact ⟨rfl, _, hk3, hK2.to.trans hK3 (fun _ _ e => e)⟩
  · rw [decide_eq_false hroom] at HR
    by_cases h8 : segs.length = 8
    · have HP := hide (show putP segs syn x = (2, segs, syn) by unfold putP; rw [if_neg hroom, if_pos h8])
      have h8' : ((segs.length : Int) == 8) = true := by simp; omega
      have HH := hide h
      have HB := hide (fun wx (hk : Same w wx) => blk4 (h.same hk).blk)
      obtain ⟨ao, cap, hsv⟩ := own_slice h.own
      subst hsv
      clear h hroom h8
      rw [HP.out]
      clear HP
      go_enter Try.func51, Try.ntmps51
      go_wp2_with fail
      refine HR.out.mono ?_
      rintro r w1 ⟨rfl, hK1⟩
      obtain ⟨d0, d1, d2, d3, df⟩ := HB.out w1 hK1
      go_wp2_with fail
      go_ret
      exact ⟨rfl, _, HH.out.same hK1, hK1.to⟩
    · have HP := hide (show putP segs syn x = (0, segs ++ [x], 0) by unfold putP; rw [if_neg hroom, if_neg h8])
      have h8' : ((segs.length : Int) == 8) = false := by rw [beq_eq_false_iff_ne]; omega
      have hlen := h.len
      have HH := hide h
      obtain ⟨ao, cap, hsv⟩ := own_slice h.own
      subst hsv
      have HB := hide (fun wx (hk : Same w wx) => blk4 (h.same hk).blk)
      have hlt8 : segs.length < 8 := by omega
      clear h hroom h8
      rw [HP.out]
      clear HP
      obtain ⟨i0, hi, hz0, hz1, hz2⟩ := info_parts info_str
      go_enter Try.func51, Try.ntmps51
      go_wp2_with fail
      refine HR.out.mono ?_
      rintro r w1 ⟨rfl, hK1⟩
      obtain ⟨d0, d1, d2, d3, df⟩ := HB.out w1 hK1
      have HK := hide (HH.out.same hK1)
      have hBw1 : B ≤ w1.heap.size := Nat.le_trans hBw hK1.size
      go_wp2_with (at_builtin; refine wpList_append_own_at _ rfl _ _ 36 rfl B 9 i0 (.string ⟨#[]⟩) 1 16 Try.underlying36 hi hz0 hz1 hz2 rfl (by decide) _ _ _ rfl (HK.out.own.alloc _) ⟨w1.heap.size, 0, none⟩ 1 1 [.string ⟨x.toArray⟩] rfl rfl ?a1 ?a2 ?a3 ?a4 ?a5 ?_)
      case a1 =>
        intro jj u hjj
        match jj, hjj with
        | 0, hjj => simp at hjj; subst hjj; simp [Addr.add]
      case a2 => intro u hu; simp at hu; subst hu; rfl
      case a3 => unfold maxLen; omega
      case a4 => omega
      case a5 => simp; omega
      intro v5 w5 hown5 hgr5 _ hat5
      obtain ⟨g5, cap5, hv5⟩ := own_form hown5 (by omega)
      subst hv5
      have hKa : Kept (fun k => Row (.slice ao segs.length cap) k) w1 w5 := (Kept.refl _ w1).alloc _ |>.grown hgr5 (fun k hk _ => hk)
      have hG5 := blk_kept HK.out.blk hKa HK.out.sg
      obtain ⟨x0, x1, x2, x3, xf⟩ := blk4 hG5
      have hKs : Kept (· = g) w5 ((w5.setCell ⟨g, 0, none⟩ (.slice (some ⟨g5, 0, none⟩) (segs.length + 1) cap5)).setCell ⟨g, 1, none⟩ (.int .i64 0)) := ((Kept.refl _ w5).setB 0 _).setB 1 _
      have hrow5 : ∀ k, Row (.slice (some ⟨g5, 0, none⟩) (segs.length + 1) cap5) k → Row (.slice ao segs.length cap) k ∨ w1.heap.size ≤ k := fun k hr => hat5.elim (fun e => .inl (e.symm.trans hr)) (fun e => .inr (by have : some _ = some k := e.symm.trans hr; cases this; simp))
      have hv5g : ¬ Row (.slice (some ⟨g5, 0, none⟩) (segs.length + 1) cap5) g := fun hr => (hrow5 g hr).elim HK.out.sg (fun hx => by have := (Array.getElem?_eq_some_iff.1 HK.out.blk).1; omega)
      have HF : Hid (KW B ((w5.setCell ⟨g, 0, none⟩ (.slice (some ⟨g5, 0, none⟩) (segs.length + 1) cap5)).setCell ⟨g, 1, none⟩ (.int .i64 0)) g (.slice (some ⟨g5, 0, none⟩) (segs.length + 1) cap5) bv ev (segs ++ [x]) 0 bp es) := by
        have hKf := (hKa.mono (Y := fun k => Row (.slice ao segs.length cap) k ∨ Row bv k ∨ Row ev k ∨ k = g) (fun i _ hi => .inl hi)).trans hKs (fun i _ hi => .inr (.inr (.inr hi)))
        refine HK.out.turn hKf ?_ ?_ ?_ ?_ hrow5 (fun k hr => .inl hr) (fun k hr => .inl hr) (fun k hk => ⟨fun hh => ?_, fun hh => ?_, fun hh => HK.out.be k hh.1 hh.2⟩) (fun p hp => .inl hp) (by rw [List.length_append, List.length_singleton]; omega) (fun s hs => ?_)
        · simp [World.setCell, Array.getElem?_modify, hG5]
        · have : OwnS B w5 (.slice (some ⟨g5, 0, none⟩) (segs.length + 1) cap5) (segs ++ [x]) := by
            show w5.ownsRow B 9 1 (.slice (some ⟨g5, 0, none⟩) (segs.length + 1) cap5) (segs ++ [x]).length (stCells (segs ++ [x]))
            rw [List.length_append, stCells_app]; exact hown5
          exact own_kept2 this hKs (fun k hr e => hv5g (by rw [← e]; exact hr))
        · exact own_kept2 (own_kept2 HK.out.bat hKa (fun k hr e => HK.out.sb k e hr)) hKs (fun k hr e => HK.out.bg (by rw [← e]; exact hr))
        · exact own_kept2 (own_kept2 HK.out.end' hKa (fun k hr e => HK.out.se k e hr)) hKs (fun k hr e => HK.out.eg (by rw [← e]; exact hr))
        · have := (own_up HK.out.bat k hh.2).2; omega
        · have := (own_up HK.out.end' k hh.2).2; omega
        · rcases List.mem_append.1 hs with hs | hs
          · exact HK.out.each s hs
          · rw [List.mem_singleton] at hs; subst hs; exact hx
      have hKw : Hid (Kept (B ≤ ·) w ((w5.setCell ⟨g, 0, none⟩ (.slice (some ⟨g5, 0, none⟩) (segs.length + 1) cap5)).setCell ⟨g, 1, none⟩ (.int .i64 0))) := (hK1.to.trans hKa (fun i _ hi => own_row HK.out.own i hi)).trans hKs (fun i _ hi => by subst hi; exact HK.out.hB)
      clear hown5 hgr5 hat5 hKa hKs hrow5 hG5 hv5g d0 d1 d2 d3 df
      go_wp2_with fail
      go_ret
      exact ⟨rfl, _, HF.out, hKw.out⟩

end

end Go.Proofs.Ytillhpepfpldcaa

/- Regions that draw their order: a load may be taken first if its cell holds till an operation comes up that waits for it. Over any program. -/
namespace Go.Proofs.Ytillhpepfpldcaa
open Go

section
variable {P : Program} {ops : Array Oper} {Q : Exit → Act → World → Prop} {md : Region.Mode} {k : Nat} {C : World → Prop}

/-- Whatever order is picked from here on; as long as operation k has not come up, C holds behind each that is carried out. -/
def wpTill (P : Program) (md : Region.Mode) (ops : Array Oper) (Q : Exit → Act → World → Prop) (k : Nat) (C : World → Prop) : Nat → Array Bool → Act → World → Prop
  | 0, listed, a, w => Region.ready md ops listed = [] ∧ Q .normal a w
  | fuel + 1, listed, a, w =>
    (Region.ready md ops listed = [] → Q .normal a w) ∧
    ∀ i ∈ Region.ready md ops listed, wpOp P ops Q i (fun a' w' => ((listed.setIfInBounds i true).getD k false = false → C w') ∧ wpTill P md ops Q k C fuel (listed.setIfInBounds i true) a' w') a w

theorem wpAny_till : ∀ (fuel : Nat) (listed : Array Bool) (a : Act) (w : World), wpTill P md ops Q k C fuel listed a w → wpAny P md ops Q fuel listed a w
  | 0, _, _, _, h => h
  | fuel + 1, _, _, _, h => ⟨h.1, fun i hi => wpOp_mono (fun a' w' h' => wpAny_till fuel _ a' w' h'.2) (h.2 i hi)⟩

theorem wp_till {id : Nat} {a : Act} {w : World} (k : Nat) (C : World → Prop) (hm : P.follows .mixedOrders = true) (hC : C w.drew)
    (h : C w.drew → wpTill P .any ops Q k C ops.size (Array.replicate ops.size false) a w.drew) : (Code.region id ops true).wp P Q a w :=
  wp_region_any hm (wpAny_till _ _ _ _ (h hC))

/-- operation k waits for operation i -/
def waits (md : Region.Mode) (ops : Array Oper) (k i : Nat) : Bool := ((ops[k]?).map fun o => o.after.any fun e => Region.binds md e && e.on == i).getD false

theorem till_first {i : Nat} {oi : Oper} {v : Value} (hi : ops[i]? = some oi) (hsel : ∀ (j : Nat) (o : Oper) cs b, ops[j]? = some o → o.op ≠ .select cs b)
    (hQ : ∀ c a w, Q (.panic c) (a.put oi.dst v) w → Q (.panic c) a w) (hwait : waits md ops k i = true) (hki : k ≠ i) :
    ∀ (fuel : Nat) (listed : Array Bool) (a : Act) (w : World),
      (∀ j oj, ops[j]? = some oj → j ≠ i → listed.getD j true = false → (∀ e ∈ oj.after, Region.binds md e = true → e.on ≠ i) → oi.apart ops oj = true) →
      i ∈ Region.ready md ops listed → listed.getD k false = false → YieldsIf P ops C oi v a → C w →
      wpTill P md ops Q k C fuel (listed.setIfInBounds i true) (a.put oi.dst v) w → wpTill P md ops Q k C (fuel + 1) listed a w := by
  intro fuel
  induction fuel with
  | zero =>
    intro listed a w _ hr hk hy hS H
    refine ⟨fun h => (by rw [h] at hr; cases hr), fun j hj => ?_⟩
    by_cases hji : j = i
    · subst hji; exact hy.wpOp hi hS ⟨fun _ => hS, H⟩
    · have := ready_mono hj hji
      rw [H.1] at this
      cases this
  | succ fuel ih =>
    intro listed a w hfree hr hk hy hS H
    refine ⟨fun h => (by rw [h] at hr; cases hr), fun j hj => ?_⟩
    by_cases hji : j = i
    · subst hji; exact hy.wpOp hi hS ⟨fun _ => hS, H⟩
    · have h1 := H.2 j (ready_mono hj hji)
      obtain ⟨hjun, oj, hoj, hall⟩ := mem_ready.1 hj
      have hnot : ∀ e ∈ oj.after, Region.binds md e = true → e.on ≠ i := fun e he hb heq => by
        have h1 := hall e he hb
        have h0 := (mem_ready.1 hr).1
        rw [heq] at h1
        rcases Nat.lt_or_ge i listed.size with h' | h'
        · simp [h'] at h0 h1; rw [h0] at h1; cases h1
        · simp [Array.getElem?_eq_none h'] at h1
      have hjk : j ≠ k := fun e => by
        subst e
        unfold waits at hwait
        rw [hoj] at hwait
        simp only [Option.map_some, Option.getD_some] at hwait
        obtain ⟨e, he, hb⟩ := Array.any_eq_true'.1 hwait
        simp only [Bool.and_eq_true, beq_iff_eq] at hb
        exact hnot e he hb.1 hb.2
      have h2 := wpOp_putIf hoj (hfree j oj hoj hji hjun hnot) (fun cs b => hsel i oi cs b hi) (fun cs b => hsel j oj cs b hoj) hQ hy h1
      have hfree' : ∀ m ok, ops[m]? = some ok → m ≠ i → (listed.setIfInBounds j true).getD m true = false →
          (∀ e ∈ ok.after, Region.binds md e = true → e.on ≠ i) → oi.apart ops ok = true := fun m ok hm hmi hun hno => by
        refine hfree m ok hm hmi ?_ hno
        by_cases hjm : j = m
        · subst hjm; exact hjun
        · rw [getD_set_ne true hjm] at hun; exact hun
      have hk' : (listed.setIfInBounds j true).getD k false = false := by rw [getD_set_ne false hjk]; exact hk
      have hk2 : ((listed.setIfInBounds i true).setIfInBounds j true).getD k false = false := by
        rw [getD_set_ne false hjk, getD_set_ne false (Ne.symm hki)]; exact hk
      refine wpOp_mono (fun a' w' h3 => ⟨fun _ => h3.2.1 hk2, ih (listed.setIfInBounds j true) a' w' hfree' (ready_mono hr (Ne.symm hji)) hk' h3.1 (h3.2.1 hk2) ?_⟩) h2
      rw [Array.setIfInBounds_comm _ _ hji]
      exact h3.2.2

/-- Take number i first: a load, or what yields in whatever world that meets C. -/
theorem till_take {i : Nat} {oi : Oper} {v : Value} {fuel : Nat} {listed : Array Bool} {a : Act} {w : World} (hi : ops[i]? = some oi)
    (hs : Region.noSelect ops = true) (hf : Region.free md ops listed i = true) (hr : (Region.ready md ops listed).contains i = true)
    (hk : (waits md ops k i && (k != i) && !listed.getD k false) = true)
    (hQ : ∀ c a w, Q (.panic c) (a.put oi.dst v) w → Q (.panic c) a w) (hy : YieldsIf P ops C oi v a) (hC : C w)
    (h : wpTill P md ops Q k C fuel (listed.setIfInBounds i true) (a.put oi.dst v) w) : wpTill P md ops Q k C (fuel + 1) listed a w := by
  simp only [Bool.and_eq_true, bne_iff_ne, Bool.not_eq_true'] at hk
  exact till_first hi (Region.noSelect_spec hs) hQ hk.1.1 hk.1.2 fuel listed a w (Region.free_spec hi hf) (by simpa using hr) hk.2 hy hC h

/-- what yields in whatever world at all may be taken first, too -/
theorem till_pure {i : Nat} {oi : Oper} {v : Value} (hi : ops[i]? = some oi) (hsel : ∀ (j : Nat) (o : Oper) cs b, ops[j]? = some o → o.op ≠ .select cs b)
    (hQ : ∀ c a w, Q (.panic c) (a.put oi.dst v) w → Q (.panic c) a w) :
    ∀ (fuel : Nat) (listed : Array Bool) (a : Act) (w : World),
      (∀ j oj, ops[j]? = some oj → j ≠ i → listed.getD j true = false → (∀ e ∈ oj.after, Region.binds md e = true → e.on ≠ i) → oi.apart ops oj = true) →
      i ∈ Region.ready md ops listed → YieldsIf P ops (fun _ => True) oi v a → (listed.getD k false = false → C w) → i ≠ k →
      wpTill P md ops Q k C fuel (listed.setIfInBounds i true) (a.put oi.dst v) w → wpTill P md ops Q k C (fuel + 1) listed a w := by
  intro fuel
  induction fuel with
  | zero =>
    intro listed a w _ hr hy hS hik H
    refine ⟨fun h => (by rw [h] at hr; cases hr), fun j hj => ?_⟩
    by_cases hji : j = i
    · subst hji; exact hy.wpOp hi trivial ⟨fun h => hS (by rw [getD_set_ne false hik] at h; exact h), H⟩
    · have := ready_mono hj hji
      rw [H.1] at this
      cases this
  | succ fuel ih =>
    intro listed a w hfree hr hy hS hik H
    refine ⟨fun h => (by rw [h] at hr; cases hr), fun j hj => ?_⟩
    by_cases hji : j = i
    · subst hji; exact hy.wpOp hi trivial ⟨fun h => hS (by rw [getD_set_ne false hik] at h; exact h), H⟩
    · have h1 := H.2 j (ready_mono hj hji)
      obtain ⟨hjun, oj, hoj, hall⟩ := mem_ready.1 hj
      have hnot : ∀ e ∈ oj.after, Region.binds md e = true → e.on ≠ i := fun e he hb heq => by
        have h1 := hall e he hb
        have h0 := (mem_ready.1 hr).1
        rw [heq] at h1
        rcases Nat.lt_or_ge i listed.size with h' | h'
        · simp [h'] at h0 h1; rw [h0] at h1; cases h1
        · simp [Array.getElem?_eq_none h'] at h1
      have h2 := wpOp_putIf hoj (hfree j oj hoj hji hjun hnot) (fun cs b => hsel i oi cs b hi) (fun cs b => hsel j oj cs b hoj) hQ hy h1
      have hfree' : ∀ m ok, ops[m]? = some ok → m ≠ i → (listed.setIfInBounds j true).getD m true = false →
          (∀ e ∈ ok.after, Region.binds md e = true → e.on ≠ i) → oi.apart ops ok = true := fun m ok hm hmi hun hno => by
        refine hfree m ok hm hmi ?_ hno
        by_cases hjm : j = m
        · subst hjm; exact hjun
        · rw [getD_set_ne true hjm] at hun; exact hun
      have hS2 : ∀ w', (((listed.setIfInBounds i true).setIfInBounds j true).getD k false = false → C w') → (listed.setIfInBounds j true).getD k false = false → C w' := fun w' hw h => hw (by
        rw [Array.setIfInBounds_comm _ _ (Ne.symm hji), getD_set_ne false hik]; exact h)
      refine wpOp_mono (fun a' w' h3 => ⟨hS2 w' h3.2.1, ih (listed.setIfInBounds j true) a' w' hfree' (ready_mono hr (Ne.symm hji)) h3.1 (hS2 w' h3.2.1) hik ?_⟩) h2
      rw [Array.setIfInBounds_comm _ _ hji]
      exact h3.2.2

theorem till_any {i : Nat} {oi : Oper} {v : Value} {fuel : Nat} {listed : Array Bool} {a : Act} {w : World} (hi : ops[i]? = some oi)
    (hs : Region.noSelect ops = true) (hf : Region.free md ops listed i = true) (hr : (Region.ready md ops listed).contains i = true) (hk : (i != k) = true)
    (hQ : ∀ c a w, Q (.panic c) (a.put oi.dst v) w → Q (.panic c) a w) (hy : YieldsIf P ops (fun _ => True) oi v a) (hC : listed.getD k false = false → C w)
    (h : wpTill P md ops Q k C fuel (listed.setIfInBounds i true) (a.put oi.dst v) w) : wpTill P md ops Q k C (fuel + 1) listed a w :=
  till_pure hi (Region.noSelect_spec hs) hQ fuel listed a w (Region.free_spec hi hf) (by simpa using hr) hy hC (by simpa using hk) h

def TillReady (P : Program) (md : Region.Mode) (ops : Array Oper) (Q : Exit → Act → World → Prop) (k : Nat) (C : World → Prop) (fuel : Nat) (listed : Array Bool) (a : Act) (w : World) (rs : List Nat) : Prop :=
  ∀ i ∈ rs, wpOp P ops Q i (fun a' w' => ((listed.setIfInBounds i true).getD k false = false → C w') ∧ wpTill P md ops Q k C fuel (listed.setIfInBounds i true) a' w') a w

theorem TillReady.nil {fuel : Nat} {listed : Array Bool} {a : Act} {w : World} : TillReady P md ops Q k C fuel listed a w [] := fun _ h => by cases h

/-- behind this operation C is still asked -/
theorem TillReady.cons {fuel : Nat} {listed : Array Bool} {a : Act} {w : World} {i : Nat} {o : Oper} {rs : List Nat} (ho : ops[i]? = some o)
    (h : ∀ K' : Act → World → Prop, Shut (∀ a w, C w → (C w → wpTill P md ops Q k C fuel (listed.setIfInBounds i true) a w) → K' a w) → if Region.wanted o (yielded ops a.tmps) = true then Oper.wp P o a w K' Q else K' (a.put o.dst undef) w)
    (hs : TillReady P md ops Q k C fuel listed a w rs) : TillReady P md ops Q k C fuel listed a w (i :: rs) := fun j hj => by
  rcases List.mem_cons.1 hj with rfl | hj
  · exact wpOp_step ho (fun K' hK => h K' (fun a w hS hW => hK a w ⟨fun _ => hS, hW hS⟩))
  · exact hs j hj

/-- from here on it is not -/
theorem TillReady.free {fuel : Nat} {listed : Array Bool} {a : Act} {w : World} {i : Nat} {o : Oper} {rs : List Nat} (ho : ops[i]? = some o) (hk : (listed.setIfInBounds i true).getD k false = true)
    (h : ∀ K' : Act → World → Prop, Shut (∀ a w, wpTill P md ops Q k C fuel (listed.setIfInBounds i true) a w → K' a w) → if Region.wanted o (yielded ops a.tmps) = true then Oper.wp P o a w K' Q else K' (a.put o.dst undef) w)
    (hs : TillReady P md ops Q k C fuel listed a w rs) : TillReady P md ops Q k C fuel listed a w (i :: rs) := fun j hj => by
  rcases List.mem_cons.1 hj with rfl | hj
  · exact wpOp_step ho (fun K' hK => h K' (fun a w hW => hK a w ⟨fun e => by (rw [hk] at e; cases e), hW⟩))
  · exact hs j hj

theorem till_ready {rs : List Nat} {fuel : Nat} {listed : Array Bool} {a : Act} {w : World} (hr : Region.ready md ops listed = rs) (hne : rs ≠ [])
    (h : TillReady P md ops Q k C fuel listed a w rs) : wpTill P md ops Q k C (fuel + 1) listed a w :=
  ⟨fun h0 => absurd (hr ▸ h0) hne, hr ▸ h⟩

theorem till_done {listed : Array Bool} {a : Act} {w : World} (hr : Region.ready md ops listed = []) (h : Q .normal a w) : ∀ fuel, wpTill P md ops Q k C fuel listed a w
  | 0 => ⟨hr, h⟩
  | _ + 1 => ⟨fun _ => h, by rw [hr]; simp⟩

end

end Go.Proofs.Ytillhpepfpldcaa
