import Derived.Test.YtillhpepfpldcaaDisktells05
import Derived.Test.YtillhpepfpldcaaChecked
import Derived.Test.YtillhpepfpldcaaDisktells01
import Derived.Test.YtillhpepfpldcaaDisktells04
import Derived.Test.YtillhpepfpldcaaDisktells02
import Derived.Maps.AppendAt
/- strings.Clone. -/
namespace Go.Proofs.Ytillhpepfpldcaa
open Go.RowKit

theorem clone_any (s : ByteArray) (w : World) (hlim : s.size ≤ 281474976710656) :
    Calls Try.prog 73 #[.string s] w fun e w' => e = .returned (.string s) ∧ Same w w' := by
  go_enter Try.func73, Try.ntmps73
  go_wp2_with ((go_at_call 83; refine (Try.stringslite_Clone _ _ hlim).mono ?_; rintro e w1 ⟨rfl, hb⟩))
  go_ret
  exact ⟨rfl, Kept.of_below hb⟩

end Go.Proofs.Ytillhpepfpldcaa

/- batch.readEvent. -/
namespace Go.Proofs.Ytillhpepfpldcaa
open Go.RowKit

/-- an event's block -/
def Ev6 (w : World) (g : Nat) (k ty i f n : Int) (t : List UInt8) : Prop := w.heap[g]? = some (.cells #[.int .i64 k, .int .i64 ty, .int .i64 i, .int .i64 f, .int .i64 n, .string ⟨t.toArray⟩] 66 (0, 0))

theorem Ev6.lt {w : World} {g : Nat} {k ty i f n : Int} {t : List UInt8} (h : Ev6 w g k ty i f n t) : g < w.heap.size := (Array.getElem?_eq_some_iff.1 h).1
theorem Ev6.keep {w w' : World} {g : Nat} {k ty i f n : Int} {t : List UInt8} (h : Ev6 w g k ty i f n t) {X : Nat → Prop} (hk : Kept X w w') (hx : ¬ X g) : Ev6 w' g k ty i f n t := by
  have := h.lt
  unfold Ev6 at *
  rw [hk.block g this hx]; exact h
theorem Ev6.apart {w : World} {g g' o : Nat} {k ty i f n : Int} {t : List UInt8} (h : Ev6 w g k ty i f n t) (hg : g ≠ g') (x : Value) : Ev6 (w.setCell ⟨g', o, none⟩ x) g k ty i f n t := by
  unfold Ev6 at *
  rw [Below.heap_setCell _ _ _ _ hg]; exact h
theorem Ev6.s1 {w : World} {g : Nat} {k ty i f n : Int} {t : List UInt8} (h : Ev6 w g k ty i f n t) (x : Int) : Ev6 (w.setCell ⟨g, 1, none⟩ (.int .i64 x)) g k x i f n t := by
  unfold Ev6 at *; simp [World.setCell, Array.getElem?_modify, h]
theorem Ev6.s2 {w : World} {g : Nat} {k ty i f n : Int} {t : List UInt8} (h : Ev6 w g k ty i f n t) (x : Int) : Ev6 (w.setCell ⟨g, 2, none⟩ (.int .i64 x)) g k ty x f n t := by
  unfold Ev6 at *; simp [World.setCell, Array.getElem?_modify, h]
theorem Ev6.s3 {w : World} {g : Nat} {k ty i f n : Int} {t : List UInt8} (h : Ev6 w g k ty i f n t) (x : Int) : Ev6 (w.setCell ⟨g, 3, none⟩ (.int .i64 x)) g k ty i x n t := by
  unfold Ev6 at *; simp [World.setCell, Array.getElem?_modify, h]
theorem Ev6.s4 {w : World} {g : Nat} {k ty i f n : Int} {t : List UInt8} (h : Ev6 w g k ty i f n t) (x : Int) : Ev6 (w.setCell ⟨g, 4, none⟩ (.int .i64 x)) g k ty i f x t := by
  unfold Ev6 at *; simp [World.setCell, Array.getElem?_modify, h]
theorem Ev6.s5 {w : World} {g : Nat} {k ty i f n : Int} {t : List UInt8} (h : Ev6 w g k ty i f n t) (x : List UInt8) : Ev6 (w.setCell ⟨g, 5, none⟩ (.string ⟨x.toArray⟩)) g k ty i f n x := by
  unfold Ev6 at *; simp [World.setCell, Array.getElem?_modify, h]

theorem Txt.apart {w : World} {b g o : Nat} {l : List UInt8} (h : Txt w b l) (hg : b ≠ g) (x : Value) : Txt (w.setCell ⟨g, o, none⟩ x) b l := by
  unfold Txt at *
  rw [Below.heap_setCell _ _ _ _ hg]; exact h

/-- how far an event is read: its block g, the answer's block g0, what is left of the text -/
structure RE (w : World) (b g0 : Nat) (wx : World) (g : Nat) (k ty i f n : Int) (t l : List UInt8) : Prop where
  txt : Txt wx b l
  ans : Ev6 wx g0 0 0 0 0 0 []
  ev : Ev6 wx g k ty i f n t
  kept : Kept (· = b) w wx
  hb : b < w.heap.size
  h0 : w.heap.size ≤ g0
  hg : g0 < g

theorem RE.step {w wx wy : World} {b g0 g : Nat} {k ty i f n : Int} {t l l' : List UInt8} (h : RE w b g0 wx g k ty i f n t l) (hk : Kept (· = b) wx wy) (ht : Txt wy b l') : RE w b g0 wy g k ty i f n t l' :=
  ⟨ht, h.ans.keep hk (by have := h.hb; have := h.h0; omega), h.ev.keep hk (by have := h.hb; have := h.h0; have := h.hg; omega), h.kept.trans hk (fun _ _ h => h), h.hb, h.h0, h.hg⟩
theorem RE.s {w wx : World} {b g0 g o : Nat} {k ty i f n k' ty' i' f' n' : Int} {t t' l : List UInt8} {x : Value} (h : RE w b g0 wx g k ty i f n t l) (he : Ev6 (wx.setCell ⟨g, o, none⟩ x) g k' ty' i' f' n' t') : RE w b g0 (wx.setCell ⟨g, o, none⟩ x) g k' ty' i' f' n' t' l :=
  ⟨h.txt.apart (by have := h.hb; have := h.h0; have := h.hg; omega) _, h.ans.apart (by have := h.hg; omega) _, he, h.kept.setCell (fun hx => by have := h.h0; have := h.hg; have hx' : g < w.heap.size := hx; omega) _, h.hb, h.h0, h.hg⟩

theorem readE_at {l l1 : List UInt8} {k : Nat} (h1 : numF 1 0 l = some (k, l1)) (hk : evKind k = true) : readE l = match numF 1 0 l1 with | none => none | some (ty, l2) => match numF 2 0 l2 with | none => none | some (id, l3) => readTail k ty id l3 := by
  unfold readE
  rw [h1]
  simp only [hk, Bool.true_eq_false, if_false]
  cases numF 1 0 l1 with
  | none => rfl
  | some y => simp only []; cases numF 2 0 y.2 <;> rfl

/-- the answer's block, stored into -/
theorem RE.done {w wx : World} {b g0 g : Nat} {k ty i f n : Int} {t l : List UInt8} (h : RE w b g0 wx g k ty i f n t l) (x0 x1 x2 x3 x4 x5 : Value) :
    Txt (put6 wx g0 x0 x1 x2 x3 x4 x5) b l ∧ Kept (· = b) w (put6 wx g0 x0 x1 x2 x3 x4 x5) ∧ (put6 wx g0 x0 x1 x2 x3 x4 x5).heap[g0]? = some (.cells #[x0, x1, x2, x3, x4, x5] 66 (0, 0)) := by
  have hne : b ≠ g0 := by have := h.hb; have := h.h0; omega
  refine ⟨?_, keep6 h.kept (fun hx => by have := h.h0; omega) _ _ _ _ _ _, set6 h.ans _ _ _ _ _ _⟩
  exact (((((h.txt.apart hne _).apart hne _).apart hne _).apart hne _).apart hne _).apart hne _

set_option maxHeartbeats 3200000 in
theorem readEvent_any (w : World) (b : Nat) (l : List UInt8) (h : Txt w b l) (_hl : l.length ≤ 1000000000) :
    Calls Try.prog 57 #[.pointer (some ⟨b, 0, none⟩)] w fun r w' =>
      (∃ e l', readE l = some (e, l') ∧ r = .returned (evV e) ∧ Txt w' b l' ∧ Kept (· = b) w w')
      ∨ (readE l = none ∧ r = fault 1 ∧ Kept (· = b) w w') := by
  have hbs := h.lt
  have HR1 := hide (fun o => readNumber_any (w.alloc o) b l 1 (h.al o) (by omega))
  go_enter Try.func57, Try.ntmps57
  go_wp2_with fail
  refine (HR1.out _).mono ?_
  rintro r w1 (⟨k, l1, h1, rfl, hT1, hK1⟩ | ⟨h1, rfl, hK1⟩)
  rotate_left
  · exact ⟨rfl, .inr ⟨by unfold readE; rw [h1], rfl, hK1.unA⟩⟩
  have H1 := hide h1
  have hg0 := new_kept (w := w) hK1 (fun e => by omega)
  have hs1 : w.heap.size < w1.heap.size := (Array.getElem?_eq_some_iff.1 hg0).1
  have R1 : RE w b w.heap.size (w1.alloc (.cells #[.int .i64 k, .int .i64 0, .int .i64 0, .int .i64 0, .int .i64 0, .string ⟨#[]⟩] 66)) w1.heap.size k 0 0 0 0 [] l1 :=
    ⟨hT1.al _, (Below.heap_alloc _ _ _ hs1).trans hg0, heap_alloc_new _ _, hK1.unA.alloc _, hbs, Nat.le_refl _, hs1⟩
  clear h1 hT1 hK1 hg0 HR1 h
  go_wp2_with fail
  generalize w1.alloc (.cells #[.int .i64 k, .int .i64 0, .int .i64 0, .int .i64 0, .int .i64 0, .string ⟨#[]⟩] 66) = w2 at *
  generalize w1.heap.size = g at *
  clear hs1
  refine (pKind _ _).mono ?_
  rintro r w' ⟨rfl, hw'⟩
  subst hw'
  cases hk : evKind (k : Int) with
  | false =>
    have HK := hide hk
    clear hk
    go_wp2_with fail
    exact ⟨rfl, .inr ⟨by unfold readE; rw [H1.out]; simp only [HK.out, if_true], rfl, R1.kept⟩⟩
  | true =>
    have HA := hide (readE_at H1.out hk)
    have HK := hide (kind_ok hk)
    clear hk H1
    have HR2 := hide (readNumber_any w' b l1 1 R1.txt (by omega))
    go_wp2_with fail
    refine HR2.out.mono ?_
    clear HR2
    rintro r w3 (⟨ty, l2, h2, rfl, hT2, hK2⟩ | ⟨h2, rfl, hK2⟩)
    rotate_left
    · exact ⟨rfl, .inr ⟨by rw [HA.out, h2], rfl, R1.kept.trans hK2 (fun _ _ h => h)⟩⟩
    have H2 := hide h2
    have R2 := R1.step hK2 hT2
    clear h2 hT2 hK2 R1
    obtain ⟨z0, z1, z2, z3, z4, z5, f0, f1, f2, f3, f4, f5⟩ := cells6 R2.ev
    have R3 := R2.s (R2.ev.s1 ty)
    have HR3 := hide (readNumber_any _ b l2 2 R3.txt (by omega))
    go_wp2_with fail
    refine HR3.out.mono ?_
    clear HR3
    rintro r w4 (⟨id, l3, h3, rfl, hT3, hK3⟩ | ⟨h3, rfl, hK3⟩)
    rotate_left
    · exact ⟨rfl, .inr ⟨by rw [HA.out, H2.out]; simp only []; rw [h3], rfl, R3.kept.trans hK3 (fun _ _ h => h)⟩⟩
    have HA2 : Hid (readE l = readTail k ty id l3) := by
      show readE l = _
      rw [HA.out, H2.out]
      simp only []
      rw [h3]
    have R4 := R3.step hK3 hT3
    clear h3 hT3 hK3 R2 R3 z0 z1 z2 z3 z4 z5 f0 f1 f2 f3 f4 f5 HA H2
    obtain ⟨z0, z1, z2, z3, z4, z5, f0, f1, f2, f3, f4, f5⟩ := cells6 R4.ev
    have R5 := R4.s (R4.ev.s2 id)
    go_wp2_with fail
    generalize w4.setCell ⟨g, 2, none⟩ (.int .i64 id) = w5 at *
    clear R4 z0 z1 z2 z3 z4 z5 f0 f1 f2 f3 f4 f5
    refine (pNamesF _ _).mono ?_
    rintro r w' ⟨rfl, hw'⟩
    subst hw'
    cases hF : namesF (k : Int) with
    | false =>
      have hN : namesN (k : Int) = false := by unfold namesF at hF; simp at hF; exact hF.1
      have hTx : namesT (k : Int) = false := by unfold namesF at hF; simp at hF; exact hF.2
      have HF := hide hF
      have HN := hide hN
      have HTx := hide hTx
      clear hF hN hTx
      obtain ⟨z0, z1, z2, z3, z4, z5, f0, f1, f2, f3, f4, f5⟩ := cells6 R5.ev
      obtain ⟨y0, y1, y2, y3, y4, y5, x0, x1, x2, x3, x4, x5⟩ := cells6 R5.ans
      go_wp2_with (first
        | (go_at_call 69; refine (pNamesN _ _).mono ?_; rintro e w' ⟨rfl, rfl⟩; rw [HN.out])
        | (go_at_call 70; refine (pNamesT _ _).mono ?_; rintro e w' ⟨rfl, rfl⟩; rw [HTx.out]))
      obtain ⟨d1, d2, d3⟩ := R5.done (.int .i64 k) (.int .i64 ty) (.int .i64 id) (.int .i64 0) (.int .i64 0) (.string ⟨#[]⟩)
      obtain ⟨q0, q1, q2, q3, q4, q5, _⟩ := cells6 d3
      refine bodyPost_ret (v := evV ⟨k, ty, id, 0, 0, []⟩) (by simp [results, Try.results57, go_sem, q0, q1, q2, q3, q4, q5]) rfl (.inl ⟨_, _, ?_, rfl, d1, d2⟩)
      exact (by rw [HA2.out, readTail, if_pos HF.out])
    | true =>
      have HF := hide hF
      have HR5 := hide (readNumber_any w' b l3 1 R5.txt (by omega))
      obtain ⟨z0, z1, z2, z3, z4, z5, f0, f1, f2, f3, f4, f5⟩ := cells6 R5.ev
      go_wp2_with fail
      refine HR5.out.mono ?_
      clear HR5 z0 z1 z2 z3 z4 z5 f0 f1 f2 f3 f4 f5
      rintro r w6 (⟨f, l4, h4, rfl, hT4, hK4⟩ | ⟨h4, rfl, hK4⟩)
      rotate_left
      · exact ⟨rfl, .inr ⟨by rw [HA2.out, readTail, if_neg (by rw [HF.out]; decide), h4], rfl, R5.kept.trans hK4 (fun _ _ h => h)⟩⟩
      have HA3 : Hid (readE l = if namesT k then (match numF 1 0 l4 with | none => none | some (m, l) => if l.length < m then none else some (⟨k, ty, id, f, 0, l.take m⟩, l.drop m)) else (match numF 4 0 l4 with | none => none | some (n, l) => some (⟨k, ty, id, f, (n : Int) - 999999999, []⟩, l))) := by
        show readE l = _
        rw [HA2.out, readTail, if_neg (by rw [HF.out]; decide), h4]
        rfl
      have R6 := R5.step hK4 hT4
      clear h4 hT4 hK4 R5 HA2
      obtain ⟨z0, z1, z2, z3, z4, z5, f0, f1, f2, f3, f4, f5⟩ := cells6 R6.ev
      have R7 := R6.s (R6.ev.s3 f)
      go_wp2_with fail
      generalize w6.setCell ⟨g, 3, none⟩ (.int .i64 f) = w7 at *
      clear R6 z0 z1 z2 z3 z4 z5 f0 f1 f2 f3 f4 f5
      refine (pNamesN _ _).mono ?_
      rintro r w' ⟨rfl, hw'⟩
      subst hw'
      cases hTx : namesT (k : Int) with
      | true =>
        have HN := hide (show namesN (k : Int) = false by unfold namesT at hTx; unfold namesN; simp at hTx ⊢; omega)
        have HTx := hide hTx
        clear hTx hF
        rw [HN.out]
        have HA4 : Hid (readE l = match numF 1 0 l4 with | none => none | some (m, l) => if l.length < m then none else some (⟨k, ty, id, f, 0, l.take m⟩, l.drop m)) := by
          show readE l = _
          rw [HA3.out, if_pos HTx.out]
        have HR7 := hide (readNumber_any w' b l4 1 R7.txt (by omega))
        obtain ⟨z0, z1, z2, z3, z4, z5, f0, f1, f2, f3, f4, f5⟩ := cells6 R7.ev
        go_wp2_with fail
        refine (pNamesT _ _).mono ?_
        rintro r w' ⟨rfl, hw'⟩
        subst hw'
        rw [HTx.out]
        go_wp2_with fail
        refine HR7.out.mono ?_
        clear HR7 z0 z1 z2 z3 z4 z5 f0 f1 f2 f3 f4 f5
        rintro r w8 (⟨m, l5, h5, rfl, hT5, hK5⟩ | ⟨h5, rfl, hK5⟩)
        rotate_left
        · exact ⟨rfl, .inr ⟨by rw [HA4.out, h5], rfl, R7.kept.trans hK5 (fun _ _ h => h)⟩⟩
        have HA5 : Hid (readE l = if l5.length < m then none else some (⟨k, ty, id, f, 0, l5.take m⟩, l5.drop m)) := by
          show readE l = _
          rw [HA4.out, h5]
        have hm := (numF_inv0 h5).1
        have R8 := R7.step hK5 hT5
        clear h5 hT5 hK5 R7 HA4 HA3
        by_cases hlm : l5.length < m
        · have HTk := hide (tTake_bad w8 b l5 m R8.txt hlm)
          have HA6 := hide (show readE l = none by rw [HA5.out, if_pos hlm])
          clear hlm
          go_wp2_with fail
          refine HTk.out.mono ?_
          rintro r w9 ⟨rfl, rfl⟩
          exact ⟨rfl, .inr ⟨HA6.out, rfl, R8.kept⟩⟩
        · have HTk := hide (tTake w8 b l5 m R8.txt (by omega))
          have HA6 := hide (show readE l = some (⟨k, ty, id, f, 0, l5.take m⟩, l5.drop m) by rw [HA5.out, if_neg hlm])
          have hlim : (⟨(l5.take m).toArray⟩ : ByteArray).size ≤ 281474976710656 := by rw [bytes_size, List.length_take]; omega
          clear hlm HA5
          generalize l5.take m = tx at *
          generalize l5.drop m = l6 at *
          go_wp2_with fail
          refine HTk.out.mono ?_
          rintro r w9 ⟨rfl, hT9, hK9⟩
          have R9 := R8.step hK9 hT9
          clear HTk hT9 hK9 R8
          go_wp2_with fail
          refine (clone_any _ _ hlim).mono ?_
          rintro r w10 ⟨rfl, hK10⟩
          have R10 := R9.step (hK10.to) (R9.txt.keep hK10 (fun f => f))
          clear R9 hK10
          obtain ⟨z0, z1, z2, z3, z4, z5, f0, f1, f2, f3, f4, f5⟩ := cells6 R10.ev
          have R11 := R10.s (R10.ev.s5 tx)
          clear R10
          obtain ⟨u0, u1, u2, u3, u4, u5, v0, v1, v2, v3, v4, v5⟩ := cells6 R11.ev
          obtain ⟨y0, y1, y2, y3, y4, y5, x0, x1, x2, x3, x4, x5⟩ := cells6 R11.ans
          go_wp2_with fail
          obtain ⟨d1, d2, d3⟩ := R11.done (.int .i64 k) (.int .i64 ty) (.int .i64 id) (.int .i64 f) (.int .i64 0) (.string ⟨tx.toArray⟩)
          obtain ⟨q0, q1, q2, q3, q4, q5, _⟩ := cells6 d3
          refine bodyPost_ret (v := evV ⟨k, ty, id, f, 0, tx⟩) (by simp [results, Try.results57, go_sem, q0, q1, q2, q3, q4, q5]) rfl (.inl ⟨_, _, ?_, rfl, d1, d2⟩)
          exact HA6.out
      | false =>
        have HN := hide (show namesN (k : Int) = true by unfold namesF at hF; rw [hTx] at hF; simpa using hF)
        have HTx := hide hTx
        clear hTx hF
        rw [HN.out]
        have HA4 : Hid (readE l = match numF 4 0 l4 with | none => none | some (n, l) => some (⟨k, ty, id, f, (n : Int) - 999999999, []⟩, l)) := by
          show readE l = _
          rw [HA3.out, if_neg (by rw [HTx.out]; decide)]
        have HR7 := hide (readNumber_any w' b l4 4 R7.txt (by omega))
        obtain ⟨z0, z1, z2, z3, z4, z5, f0, f1, f2, f3, f4, f5⟩ := cells6 R7.ev
        go_wp2_with fail
        refine HR7.out.mono ?_
        clear HR7 z0 z1 z2 z3 z4 z5 f0 f1 f2 f3 f4 f5
        rintro r w8 (⟨n, l5, h5, rfl, hT5, hK5⟩ | ⟨h5, rfl, hK5⟩)
        rotate_left
        · exact ⟨rfl, .inr ⟨by rw [HA4.out, h5], rfl, R7.kept.trans hK5 (fun _ _ h => h)⟩⟩
        have HA5 : Hid (readE l = some (⟨k, ty, id, f, (n : Int) - 999999999, []⟩, l5)) := by
          show readE l = _
          rw [HA4.out, h5]
        have hn := (numF_inv0 h5).1
        have R8 := R7.step hK5 hT5
        clear h5 hT5 hK5 R7 HA4 HA3
        obtain ⟨z0, z1, z2, z3, z4, z5, f0, f1, f2, f3, f4, f5⟩ := cells6 R8.ev
        have R9 := R8.s (R8.ev.s4 ((n : Int) - 999999999))
        clear R8
        obtain ⟨u0, u1, u2, u3, u4, u5, v0, v1, v2, v3, v4, v5⟩ := cells6 R9.ev
        obtain ⟨y0, y1, y2, y3, y4, y5, x0, x1, x2, x3, x4, x5⟩ := cells6 R9.ans
        go_wp2_with (go_at_call 70; refine (pNamesT _ _).mono ?_; rintro e w' ⟨rfl, rfl⟩; rw [HTx.out])
        obtain ⟨d1, d2, d3⟩ := R9.done (.int .i64 k) (.int .i64 ty) (.int .i64 id) (.int .i64 f) (.int .i64 ((n : Int) - 999999999)) (.string ⟨#[]⟩)
        obtain ⟨q0, q1, q2, q3, q4, q5, _⟩ := cells6 d3
        refine bodyPost_ret (v := evV ⟨k, ty, id, f, ((n : Int) - 999999999), []⟩) (by simp [results, Try.results57, go_sem, q0, q1, q2, q3, q4, q5]) rfl (.inl ⟨_, _, ?_, rfl, d1, d2⟩)
        exact HA5.out

end Go.Proofs.Ytillhpepfpldcaa

/- A struct of three cells; a row owned. -/
namespace Go.Proofs.Ytillhpepfpldcaa
open Go.RowKit

theorem cells3 {w : World} {g : Nat} {x y z : Value} {t : TypeId} (h : w.heap[g]? = some (.cells #[x, y, z] t (0, 0))) :
    w.cell? ⟨g, 0, none⟩ = some x ∧ w.cell? ⟨g, 1, none⟩ = some y ∧ w.cell? ⟨g, 2, none⟩ = some z ∧ w.frozen? ⟨g, 0, none⟩ = false ∧ w.frozen? ⟨g, 1, none⟩ = false ∧ w.frozen? ⟨g, 2, none⟩ = false := by
  simp [World.cell?, World.frozen?, h]

theorem set3 {w : World} {g : Nat} {x y z : Value} {t : TypeId} (h : w.heap[g]? = some (.cells #[x, y, z] t (0, 0))) (a b c : Value) :
    (((w.setCell ⟨g, 0, none⟩ a).setCell ⟨g, 1, none⟩ b).setCell ⟨g, 2, none⟩ c).heap[g]? = some (.cells #[a, b, c] t (0, 0)) := by
  simp [World.setCell, Array.getElem?_modify, h]

theorem keep_set3 {X : Nat → Prop} {w w1 : World} (h : Kept X w w1) (x y z : Value) :
    Kept X w (((w1.setCell ⟨w.heap.size, 0, none⟩ x).setCell ⟨w.heap.size, 1, none⟩ y).setCell ⟨w.heap.size, 2, none⟩ z) :=
  ((h.setCell (fun hl => absurd hl (Nat.lt_irrefl _)) _).setCell (fun hl => absurd hl (Nat.lt_irrefl _)) _).setCell (fun hl => absurd hl (Nat.lt_irrefl _)) _

theorem own_base {w : World} {base base' : Nat} {e : TypeId} {size : Nat} {v : Value} {n : Nat} {xs : List Value} (h : w.ownsRow base e size v n xs) (hb : base' ≤ base) : w.ownsRow base' e size v n xs := by
  obtain ⟨h1, h2⟩ := h
  refine ⟨h1, ?_⟩
  rcases h2 with h2 | ⟨g, cap, cur, hv, hg, r⟩
  · exact Or.inl h2
  · exact Or.inr ⟨g, cap, cur, hv, Nat.le_trans hb hg, r⟩

theorem own_slice {w : World} {base : Nat} {e : TypeId} {size : Nat} {v : Value} {n : Nat} {xs : List Value} (h : w.ownsRow base e size v n xs) : ∃ ao cap, v = .slice ao n cap := by
  rcases h.2 with ⟨rfl, rfl⟩ | ⟨g, cap, cur, hv, _⟩
  · exact ⟨none, 0, rfl⟩
  · exact ⟨_, cap, hv⟩

end Go.Proofs.Ytillhpepfpldcaa

/- Steps of regions that draw, blocks that are kept: over any program. -/
namespace Go.Proofs.Ytillhpepfpldcaa
open Go.RowKit

theorem kq {q : Nat} {a b c : World} (h : Kept (· = q) a b) (k : Kept (· = q) b c) : Kept (· = q) a c := h.trans k (fun _ _ e => e)

/-- a call of a Go function that returns, as one step of a region that draws -/
theorem step_call {P : Program} {ops : Array Oper} {o : Oper} {a : Act} {w : World} {K : Act → World → Prop} {Q : Exit → Act → World → Prop} {E : Prop}
    (hg : o.guard = none) (f : FuncId) (args : Array Operand) (ts : Array TypeId) (hop : o.op = Op.call { callee := Callee.value (.func f), args := args, argTypes := ts })
    (vs : Array Value) (hvs : args.map a.eval = vs) (hcf : ∀ w, (callFunc f vs).run P w = .ok (.enter f vs) w) {R : Ending → World → Prop} (hc : Calls P f vs w R)
    (hK : ∀ e w', R e w' → ∃ v, e = .returned v ∧ K (a.put o.dst v) w') :
    if Region.wanted o (yielded ops a.tmps) = true then Oper.wp P o a w K Q else E := by
  have hw : Region.wanted o (yielded ops a.tmps) = true := by simp [Region.wanted, hg]
  rw [if_pos hw]
  unfold Oper.wp
  have hrun : (execOp a.eval o).run P w = .ok (.enter f vs) w := by
    have h1 := hcf w
    unfold execOp
    simp [hop, resolve, invoke, Deferred.ofValue, hvs, Act.eval, h1]
  rw [hrun, Oper.upon_enter]
  refine hc.mono fun e w' hr => ?_
  obtain ⟨v, rfl, hk⟩ := hK e w' hr
  exact hk

/-- the cells of a block of one's own are kept where only others are turned -/
theorem blk_kept {X : Nat → Prop} {w w' : World} {g : Nat} {o : Obj} (h : w.heap[g]? = some o) (hk : Kept X w w') (hx : ¬ X g) : w'.heap[g]? = some o := by
  rw [hk.block g (Array.getElem?_eq_some_iff.1 h).1 hx]; exact h

/-- append onto an owned row in a region that draws, with the place of the new row -/
theorem step_append_at {P : Program} {ops : Array Oper} {o : Oper} {a : Act} {w : World} {K : Act → World → Prop} {Q : Exit → Act → World → Prop} {E : Prop}
    (hg : o.guard = none) (s x : Operand) (t : TypeId) (hop : o.op = Op.call { callee := Callee.builtin Builtin.append, args := #[s, x], argTypes := #[t, t] })
    (base : Nat) (e : TypeId) (i : TypeInfo) (z : Value) (size bytes : Nat) (h1 : P.underlying t = some (.slice e)) (h2 : P.info? e = some i) (h3 : i.zero = some z) (h4 : i.size = size) (h5 : i.bytes = bytes) (h6 : z.cells.size = size) (h7 : 0 < size)
    (v : Value) (n : Nat) (xs : List Value) (hs : a.eval s = v) (hown : w.ownsRow base e size v n xs)
    (ad : Addr) (m c : Nat) (news : List Value) (hx : a.eval x = .slice (some ad) m c) (hn : news.length = m * size) (hc : ∀ j u, news[j]? = some u → w.cell? (ad.add j) = some u) (h1c : ∀ u ∈ news, u.oneCell' = true)
    (b1 : n + m ≤ maxLen) (b2 : (n + m) * bytes ≤ 140737488355328) (hb : base ≤ w.heap.size)
    (hK : ∀ v' w', w'.ownsRow base e size v' (n + m) (xs ++ news) → w.grownBy w' v.ownBlock → (v'.ownBlock = v.ownBlock ∨ v'.ownBlock = some w.heap.size) → K (a.put o.dst v') w') :
    if Region.wanted o (yielded ops a.tmps) = true then Oper.wp P o a w K Q else E := by
  have hw : Region.wanted o (yielded ops a.tmps) = true := by simp [Region.wanted, hg]
  rw [if_pos hw]
  obtain ⟨v', w', hrun, r1, r2, _, r4⟩ := run_append_own_at (P := P) w base t o.type e i z size bytes h1 h2 h3 h4 h5 h6 h7 v n xs hown ad m c news hn hc h1c b1 b2 hb
  unfold Oper.wp
  simp [execOp, hop, resolve, invoke, builtin, hs, hx, hrun, Result.andThen]
  exact hK v' w' r1 r2 r4

/-- a call of a Go function that panics, as one step of a region that draws -/
theorem step_dies {P : Program} {ops : Array Oper} {o : Oper} {a : Act} {w : World} {K : Act → World → Prop} {Q : Exit → Act → World → Prop} {E : Prop}
    (hg : o.guard = none) (f : FuncId) (args : Array Operand) (ts : Array TypeId) (hop : o.op = Op.call { callee := Callee.value (.func f), args := args, argTypes := ts })
    (vs : Array Value) (hvs : args.map a.eval = vs) (hcf : ∀ w, (callFunc f vs).run P w = .ok (.enter f vs) w) {R : Ending → World → Prop} (hc : Calls P f vs w R)
    (hK : ∀ e w', R e w' → ∃ c, e = .panicked c ∧ Q (.panic c) a w') :
    if Region.wanted o (yielded ops a.tmps) = true then Oper.wp P o a w K Q else E := by
  have hw : Region.wanted o (yielded ops a.tmps) = true := by simp [Region.wanted, hg]
  rw [if_pos hw]
  unfold Oper.wp
  have hrun : (execOp a.eval o).run P w = .ok (.enter f vs) w := by
    have h1 := hcf w
    unfold execOp
    simp [hop, resolve, invoke, Deferred.ofValue, hvs, Act.eval, h1]
  rw [hrun, Oper.upon_enter]
  refine hc.mono fun e w' hr => ?_
  obtain ⟨v, rfl, hk⟩ := hK e w' hr
  exact hk

theorem own_up {w : World} {base : Nat} {e : TypeId} {size : Nat} {v : Value} {n : Nat} {xs : List Value} (h : w.ownsRow base e size v n xs) (k : Nat) (hk : v.ownBlock = some k) : base ≤ k ∧ k < w.heap.size := h.lt k hk

theorem grown_kept {w w' : World} {row : Option Nat} (h : w.grownBy w' row) : Kept (fun k => some k = row) w w' :=
  ⟨h.os, h.tape, h.output, h.size, fun k hk hx => h.block k hk hx⟩

theorem blk1 {w : World} {g : Nat} {x : Value} {t : TypeId} (h : w.heap[g]? = some (.cells #[x] t (0, 0))) : w.cell? ⟨g, 0, none⟩ = some x ∧ w.frozen? ⟨g, 0, none⟩ = false := by simp [World.cell?, World.frozen?, h]

end Go.Proofs.Ytillhpepfpldcaa
