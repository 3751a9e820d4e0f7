/- batch.readBatch. -/
import Derived.Test.YtillhpepfpldcaaDisktells06
namespace Go.Proofs.Ytillhpepfpldcaa
open Go.RowKit

theorem enters_re (args : Array Value) (w : World) : (callFunc 57 args).run Try.prog w = .ok (.enter 57 args) w := by kernel_rfl
theorem info_ev : (Try.prog.info? 66).map (fun i => (i.zero, i.size, i.bytes)) = some (some (.agg #[.int .i64 0, .int .i64 0, .int .i64 0, .int .i64 0, .int .i64 0, .string ⟨#[]⟩]), 6, 56) := by kernel_rfl

theorem blk2 {w : World} {g : Nat} {x y : Value} {t : TypeId} (h : w.heap[g]? = some (.cells #[x, y] t (0, 0))) : w.cell? ⟨g, 0, none⟩ = some x ∧ w.cell? ⟨g, 1, none⟩ = some y := by
  simp [World.cell?, h]

theorem new_c6 (w : World) (e : EventT) (t : TypeId) : ∀ j u, (evC e)[j]? = some u → (w.alloc (.cells #[.int .i64 e.kind, .int .i64 e.ty, .int .i64 e.id, .int .i64 e.field, .int .i64 e.n, .string ⟨e.text.toArray⟩] t)).cell? ((⟨w.heap.size, 0, none⟩ : Addr).add j) = some u := by
  intro j u hj
  rw [addr_add, Nat.zero_add, World.cell?_alloc_new]
  simpa [evC] using hj

/-- how far the events are read -/
def esRel (n : Nat) (l : List UInt8) (g : Nat) (r : List UInt8) (acc : List EventT) : Prop := readEs n l = (readEs g r).map fun x => (acc ++ x.1, x.2)
theorem esRel.start (n : Nat) (l : List UInt8) : esRel n l n l [] := by unfold esRel; cases readEs n l <;> simp
theorem esRel.bad {n : Nat} {l r : List UInt8} {g : Nat} {acc : List EventT} (h : esRel n l (g + 1) r acc) (hr : readE r = none) : readEs n l = none := by rw [h, readEs, hr]; rfl
theorem esRel.step {n : Nat} {l r r' : List UInt8} {g : Nat} {acc : List EventT} {e : EventT} (h : esRel n l (g + 1) r acc) (hr : readE r = some (e, r')) : esRel n l g r' (acc ++ [e]) := by
  unfold esRel
  rw [h, readEs, hr]
  simp only []
  cases readEs g r' <;> simp
theorem esRel.done {n : Nat} {l r : List UInt8} {acc : List EventT} (h : esRel n l 0 r acc) : readEs n l = some (acc, r) := by rw [h, readEs]; simp

set_option maxHeartbeats 3200000 in
theorem readBatch_any (w : World) (b : Nat) (l : List UInt8) (h : Txt w b l) (hl : l.length ≤ 1000000000) :
    Calls Try.prog 35 #[.pointer (some ⟨b, 0, none⟩)] w fun r w' =>
      (∃ ba v, readB l = some ba ∧ r = .returned (baV ba.number v) ∧ EvSl (w.heap.size ≤ ·) w' v ba.events ∧ Kept (· = b) w w')
      ∨ (readB l = none ∧ r = fault 1 ∧ Kept (· = b) w w') := by
  have hbs := h.lt
  obtain ⟨i0, hi, hz0, hz1, hz2⟩ := info_parts info_ev
  have HR1 := hide (fun o => readNumber_any (w.alloc o) b l 2 (h.al o) (by omega))
  go_enter Try.func35, Try.ntmps35
  go_wp2_with fail
  refine (HR1.out _).mono ?_
  rintro r w1 (⟨num, l1, h1, rfl, hT1, hK1⟩ | ⟨h1, rfl, hK1⟩)
  rotate_left
  · exact ⟨rfl, .inr ⟨by unfold readB; rw [h1], rfl, hK1.unA⟩⟩
  have H1 := hide h1
  have hg0 := new_kept (w := w) hK1 (fun e => by omega)
  have hs1 : w.heap.size < w1.heap.size := (Array.getElem?_eq_some_iff.1 hg0).1
  have hA1 := (Below.heap_alloc w1 (.cells #[.int .i64 num, .slice none 0 0] 24) _ hs1).trans hg0
  have hB1 := heap_alloc_new w1 (.cells #[.int .i64 num, .slice none 0 0] 24)
  have hK2 : Kept (· = b) w (w1.alloc (.cells #[.int .i64 num, .slice none 0 0] 24)) := hK1.unA.alloc _
  have hT2 := hT1.al (.cells #[.int .i64 num, .slice none 0 0] 24)
  have HR2 := hide (readNumber_any _ b l1 1 hT2 (by omega))
  have hl1 : l1.length ≤ 1000000000 := by have := (numF_inv0 h1).2; rw [this] at hl; simp at hl; omega
  clear h1 hK1 hg0 HR1 h
  go_wp2_with fail
  refine HR2.out.mono ?_
  generalize w1.alloc (.cells #[.int .i64 num, .slice none 0 0] 24) = w2 at *
  generalize w1.heap.size = g at *
  rintro r w3 (⟨n, l2, h2, rfl, hT3, hK3⟩ | ⟨h2, rfl, hK3⟩)
  rotate_left
  · exact ⟨rfl, .inr ⟨by unfold readB; rw [H1.out]; simp only []; rw [h2], rfl, kq hK2 hK3⟩⟩
  have HRB : Hid (readB l = match readEs n l2 with | none => none | some (es, l) => if l = [] then some ⟨num, es⟩ else none) := by
    show readB l = _
    unfold readB
    rw [H1.out]
    simp only []
    rw [h2]
    rfl
  have hl2 : l2.length ≤ 1000000000 := by have := (numF_inv0 h2).2; rw [this] at hl1; simp at hl1; omega
  have hn : n < 256 := by simpa using (numF_inv0 h2).1
  have HA3 := hide (blk_kept hA1 hK3 (show ¬ w.heap.size = b by omega))
  have HB3 := hide (blk_kept hB1 hK3 (show ¬ g = b by omega))
  have hK4 := kq hK2 hK3
  clear h2 hK2 hK3 hA1 hB1 hT1 hT2 HR2 H1
  go_wp2_with fail
  go_loopg [9] n (fun gk iv wr => ∃ (i : Nat) (rj : List UInt8) (acc : List EventT) (v : Value), i + gk = n ∧ iv = .int .i64 i ∧ (acc.length ≤ i ∧ i ≤ acc.length) ∧ rj.length ≤ 1000000000 ∧ Txt wr b rj ∧ Kept (· = b) w wr
    ∧ Hid (wr.heap[w.heap.size]? = some (.cells #[.int .i64 0, .slice none 0 0] 24 (0, 0))) ∧ Hid (wr.heap[g]? = some (.cells #[.int .i64 num, v] 24 (0, 0)))
    ∧ wr.ownsRow (g + 1) 66 6 v acc.length (evCells acc) ∧ Hid (esRel n l2 gk rj acc))
  case atStart => exact ⟨0, l2, [], .slice none 0 0, by omega, rfl, ⟨Nat.le_refl _, Nat.le_refl _⟩, hl2, hT3, hK4, HA3, HB3, World.ownsRow_nil _ _ _ _, esRel.start n l2⟩
  case round =>
    obtain ⟨i, rj, acc, v, hin, rfl, ⟨hacc, hacc2⟩, hrj, hTr, hKr, HAr, HGr, hown, HER⟩ := hrel
    clear HA3 HB3 hK4 hT3 hl2 hl1 hl
    obtain ⟨ao, cap, hv⟩ := own_slice hown
    subst hv
    obtain ⟨c0, c1⟩ := blk2 HGr.out
    have f0 : ∀ o, wr.frozen? ⟨g, o, none⟩ = false := fun o => by have := HGr.out; simp [World.frozen?, this]
    have hgr : g < wr.heap.size := (Array.getElem?_eq_some_iff.1 HGr.out).1
    by_cases hlt : i < n
    · obtain ⟨m, hm⟩ : ∃ m, gk = m + 1 := ⟨gk - 1, by omega⟩
      subst hm
      cases hp : readE rj with
      | none =>
        have HE := hide (show readB l = none by rw [HRB.out, HER.out.bad hp])
        have HRF := hide (fun w4 (hk : Same wr w4) => readEvent_any w4 b rj (hTr.keep hk (fun f => f)) hrj)
        rw [hp] at HRF
        clear hp
        go_wp2_with fail
        have HD := hide (fun w4 (hk : Same wr w4) => (HRF.out w4 hk).mono (R' := fun e w5 => e = fault 1 ∧ Kept (· = b) w w5) (fun e w5 h => h.elim (fun ⟨_, _, hx, _⟩ => by cases hx) (fun hx => ⟨hx.2.1, kq (kq hKr hk.to) hx.2.2⟩)))
        refine wp_region_any (by kernel_rfl) ?_
        change wpAny _ _ _ _ _ _ _ (World.drew _)
        refine wpAny_take (i := 0) (v := .pointer (some ⟨g, 1, none⟩)) rfl (by kernel_rfl) (by kernel_rfl) (by kernel_rfl) (fun _ _ _ h => h) (Or.inl ⟨by rfl, by intro w; go_simp⟩) ?_
        refine wpAny_take (i := 2) (v := .pointer (some ⟨b, 0, none⟩)) rfl (by kernel_rfl) (by kernel_rfl) (by kernel_rfl) (fun _ _ _ h => h) (Or.inl ⟨by rfl, by intro w; go_simp⟩) ?_
        refine wpAny_ready (rs := [1, 3]) (by kernel_rfl) (by simp) ?_
        refine AllReady.cons rfl (fun K hK => ?_) (AllReady.cons rfl (fun K hK => ?_) AllReady.nil)
        · go_simp
          refine hK _ _ ?_
          clear hK K
          refine wpAny_ready (rs := [3]) (by kernel_rfl) (by simp) ?_
          refine AllReady.cons rfl (fun K hK => ?_) AllReady.nil
          refine step_dies rfl 57 _ _ rfl #[.pointer (some ⟨b, 0, none⟩)] (by simp [Act.eval]) (enters_re _) (HD.out _ (Kept.refl _ _).drew) ?_
          rintro e w4 ⟨rfl, hKf⟩
          exact ⟨_, rfl, rfl, .inr ⟨HE.out, rfl, hKf⟩⟩
        · refine step_dies rfl 57 _ _ rfl #[.pointer (some ⟨b, 0, none⟩)] (by simp [Act.eval, Act.put]) (enters_re _) (HD.out _ (Kept.refl _ _).drew) ?_
          rintro e w4 ⟨rfl, hKf⟩
          exact ⟨_, rfl, rfl, .inr ⟨HE.out, rfl, hKf⟩⟩
      | some x =>
        obtain ⟨e, r4⟩ := x
        have hl4 : r4.length ≤ 1000000000 := by have := readE_inv hp; rw [this] at hrj; simp at hrj; omega
        have HST := hide (HER.out.step hp)
        have HRF := hide (fun w4 (hk : Same wr w4) => (readEvent_any w4 b rj (hTr.keep hk (fun f => f)) hrj).mono (R' := fun r w5 => r = .returned (evV e) ∧ Txt w5 b r4 ∧ Kept (· = b) w4 w5) (fun r w5 h => h.elim (fun ⟨_, _, h1, h2, h3, h4⟩ => by rw [hp] at h1; cases h1; exact ⟨h2, h3, h4⟩) (fun hx => by rw [hp] at hx; exact absurd hx.1 (by simp))))
        clear hp HER HRB
        have HNE := hide (fun (k : Nat) (hk : g + 1 ≤ k) (e : k = b) => show False by omega)
        obtain ⟨ek, ety, eid, ef, en, et⟩ := e
        go_wp2_with fail
        go_region_law (first
          | (refine step_call rfl 57 _ _ rfl #[.pointer (some ⟨b, 0, none⟩)] (by simp [Act.eval, Act.put]) (enters_re _) (HRF.out _ (by first | exact (Kept.refl _ _).drew | exact (Kept.refl _ _).drewN _)) ?_; rintro e w4 ⟨rfl, hL4, hK4⟩; refine ⟨_, rfl, ?_⟩; have hK5 : Kept (· = b) wr w4 := hK4.unD; have hG4 := blk_kept HGr.out hK5 (show ¬ g = b by omega); obtain ⟨d0, d1⟩ := blk2 hG4; have e0 : ∀ o, w4.frozen? ⟨g, o, none⟩ = false := (fun o => by simp [World.frozen?, hG4]); have hown4 := own_kept hown hK5 HNE.out; have hg34 : g < w4.heap.size := (Array.getElem?_eq_some_iff.1 hG4).1)
          | (refine step_append_at rfl (.tmp 12) (.tmp 15) 22 rfl (g + 1) 66 i0 _ 6 56 Try.underlying22 hi hz0 hz1 hz2 rfl (by decide) (.slice ao acc.length cap) acc.length (evCells acc) (by simp [Act.eval]) (by exact hown4.alloc _) ⟨w4.heap.size, 0, none⟩ 1 1 (evC ⟨ek, ety, eid, ef, en, et⟩) (by simp [Act.eval]) rfl (by exact new_c6 w4 ⟨ek, ety, eid, ef, en, et⟩ _) (evC_one _) (by unfold maxLen; omega) (by omega) (by simp; omega) ?_; intro v5 w5 hown5 hgr5 hat5; obtain ⟨g5, cap5, hv5⟩ := own_form hown5 (by omega); subst hv5; have hG5 := blk_kept (blk_kept hG4 ((Kept.refl (fun _ => False) w4).alloc (.cells #[.int .i64 ek, .int .i64 ety, .int .i64 eid, .int .i64 ef, .int .i64 en, .string ⟨et.toArray⟩] 66)) (fun f => f)) (grown_kept hgr5) (fun e => by have := (own_up hown4 _ e.symm).1; omega); obtain ⟨k0, k1⟩ := blk2 hG5; have l0 : ∀ o, w5.frozen? ⟨g, o, none⟩ = false := (fun o => by simp [World.frozen?, hG5])))
        all_goals
          have hKa : Kept (· = b) w w4 := kq hKr hK5
          have hKb : Kept (fun k => some k = (Value.slice ao acc.length cap).ownBlock) w4 w5 := ((Kept.refl _ w4).alloc _).trans (grown_kept hgr5) (fun _ _ e => e)
          have hXb : ∀ k, some k = (Value.slice ao acc.length cap).ownBlock → g < k := fun k e => by have := (own_up hown4 k e.symm).1; omega
          have hKc : Kept (· = b) w w5 := hKa.trans hKb (fun k hk e => by have := hXb k e; omega)
          have hLb := hL4.keep hKb (fun e => by have := hXb b e; omega)
          have hBb := blk_kept (blk_kept HAr.out hK5 (show ¬ w.heap.size = b by omega)) hKb (fun e => by have := hXb _ e; omega)
          have hS : Kept (· = g) w5 (w5.setCell ⟨g, 1, none⟩ (.slice (some ⟨g5, 0, none⟩) (acc.length + 1) cap5)) := (Kept.refl _ w5).setB 1 _
          have hLc := hLb.keep hS (show ¬ b = g by omega)
          have hKd : Kept (· = b) w (w5.setCell ⟨g, 1, none⟩ (.slice (some ⟨g5, 0, none⟩) (acc.length + 1) cap5)) := hKc.trans hS (fun k hk e => by omega)
          have hBc := blk_kept hBb hS (show ¬ w.heap.size = g by omega)
          have hownc := own_kept hown5 hS (fun g' hg e => by omega)
          have hGc : (w5.setCell ⟨g, 1, none⟩ (.slice (some ⟨g5, 0, none⟩) (acc.length + 1) cap5)).heap[g]? = some (.cells #[.int .i64 num, .slice (some ⟨g5, 0, none⟩) (acc.length + 1) cap5] 24 (0, 0)) := by
            simp [World.setCell, Array.getElem?_modify, hG5]
          have HX := hide (And.intro hLc (And.intro hKd (And.intro hBc (And.intro hownc hGc))))
          clear hKa hKb hXb hKc hLb hBb hS hLc hKd hBc hownc hGc hown4 hown5 hown hgr5 hat5 hG4 hG5 hK4 hK5 hL4 hTr hKr c0 c1 f0 d0 d1 e0 k0 k1 l0 HRF HGr HAr
          go_wp2_with fail
          go_roundg m
          case measure => omega
          case rel =>
            obtain ⟨hL6, hK6, hB6, hown6, hG6⟩ := HX.out
            refine ⟨i + 1, r4, acc ++ [⟨ek, ety, eid, ef, en, et⟩], _, by omega, by go_num, by simp; omega, hl4, hL6, hK6, hB6, hG6, ?_, HST⟩
            rw [evCells_snoc, List.length_append]; exact hown6
    · obtain rfl : gk = 0 := by omega
      have HD := hide HER.out.done
      clear HER
      cases rj with
      | cons c rj =>
        have HE := hide (show readB l = none by rw [HRB.out, HD.out]; simp)
        have HT := hide (tEnd_bad wr b c rj hTr)
        go_wp2_with fail
        refine HT.out.mono ?_
        rintro r w4 ⟨rfl, rfl⟩
        exact ⟨rfl, .inr ⟨HE.out, rfl, hKr⟩⟩
      | nil =>
        have HE := hide (show readB l = some ⟨num, acc⟩ by rw [HRB.out, HD.out]; simp)
        have HT := hide (tEnd wr b hTr)
        have HSl := hide (own_evs hown (by unfold maxLen; omega))
        obtain ⟨y0, y1⟩ := blk2 HAr.out
        have hws : w.heap.size < wr.heap.size := (Array.getElem?_eq_some_iff.1 HAr.out).1
        have x0 : ∀ o, wr.frozen? ⟨w.heap.size, o, none⟩ = false := fun o => by have := HAr.out; simp [World.frozen?, this]
        go_wp2_with fail
        refine HT.out.mono ?_
        rintro r w4 ⟨rfl, hw4⟩
        subst hw4
        go_wp2_with fail
        have hput : ((w4.setCell ⟨w.heap.size, 0, none⟩ (.int .i64 num)).setCell ⟨w.heap.size, 1, none⟩ (.slice ao acc.length cap)).heap[w.heap.size]? = some (.cells #[.int .i64 num, .slice ao acc.length cap] 24 (0, 0)) := by
          have := HAr.out
          simp [World.setCell, Array.getElem?_modify, this]
        obtain ⟨q0, q1⟩ := blk2 hput
        have hKs : Kept (· = w.heap.size) w4 ((w4.setCell ⟨w.heap.size, 0, none⟩ (.int .i64 num)).setCell ⟨w.heap.size, 1, none⟩ (.slice ao acc.length cap)) := ((Kept.refl _ w4).setB 0 _).setB 1 _
        refine bodyPost_ret (v := baV num (.slice ao acc.length cap)) (by simp [results, Try.results35, go_sem, q0, q1]) rfl (.inl ⟨⟨num, acc⟩, _, HE.out, rfl, ?_, hKr.trans hKs (fun k hk e => by omega)⟩)
        exact (HSl.out.keep hKs (fun k hk e => by omega)).mono (fun k _ hk => by omega)

end Go.Proofs.Ytillhpepfpldcaa
