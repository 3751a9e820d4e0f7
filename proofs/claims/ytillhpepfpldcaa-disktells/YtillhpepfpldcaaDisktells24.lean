import Derived.Test.YtillhpepfpldcaaDisktells23
/- The reference: LastOf, SameDisk; the law's diskIs. -/
namespace Go.Proofs.Ytillhpepfpldcaa
open Go.RowKit

theorem lastOf_any (P : Nat → Prop) (w : World) (v : Value) (n : Int) (l : List (List UInt8)) (h : StSl P w v l) :
    Calls Try.prog 22 #[diV v n] w fun r w' => r = .returned (.string ⟨(lastS l).toArray⟩) ∧ Same w w' := by
  rcases List.eq_nil_or_concat l with rfl | ⟨i, s, rfl⟩
  · obtain ⟨ao, cap, rfl⟩ := h.form
    clear h
    go_enter Try.func22, Try.ntmps22
    go_wp2_with fail
    go_ret
    exact ⟨rfl, (by repeat' (first | assumption | exact Kept.refl _ _ | refine Kept.drewN ?_ _ | refine Kept.drew ?_ | refine Kept.alloc ?_ _ | refine Kept.setB ?_ _ _))⟩
  · simp only [List.concat_eq_append] at *
    have hl : (i ++ [s]).length = i.length + 1 := by simp
    obtain ⟨ao, cap, rfl⟩ := h.form
    obtain ⟨_, h63, hcap⟩ := h.len
    have hka : Same w (w.alloc (.cells #[.slice ao (i ++ [s]).length cap, .int .i64 n] 38)) := (Kept.refl _ w).alloc _
    obtain ⟨b, off, rfl, _, e0⟩ := (h.same hka).at i.length (by omega)
    rw [List.getElem_concat_length rfl] at e0
    rw [lastS_app]
    have hne : (((i ++ [s]).length : Int) == 0) = false := by rw [beq_eq_false_iff_ne]; omega
    rw [hl] at hne h63 hcap e0
    clear h hka
    rw [hl]
    clear hl
    go_enter Try.func22, Try.ntmps22
    go_wp2_with fail
    go_ret
    exact ⟨rfl, (by repeat' (first | assumption | exact Kept.refl _ _ | refine Kept.drewN ?_ _ | refine Kept.drew ?_ | refine Kept.alloc ?_ _ | refine Kept.setB ?_ _ _))⟩

set_option maxHeartbeats 1600000 in
theorem sameDisk_any (P Q : Nat → Prop) (w : World) (va vb : Value) (a b : DiskT) (ha : StSl P w va a.segs) (hb : StSl Q w vb b.segs) :
    Calls Try.prog 28 #[diV va a.synced, diV vb b.synced] w fun r w' => r = .returned (.bool (decide (a = b))) ∧ Same w w' := by
  obtain ⟨sa, na⟩ := a
  obtain ⟨sb, nb⟩ := b
  simp only at ha hb ⊢
  obtain ⟨aa, ca, rfl⟩ := ha.form
  obtain ⟨ab, cb, rfl⟩ := hb.form
  obtain ⟨_, hla, hca⟩ := ha.len
  obtain ⟨_, hlb, hcb⟩ := hb.len
  by_cases hn : na = nb
  · subst hn
    by_cases hne : sa.length = sb.length
    · have hl1 : sa.length ≤ sb.length := by omega
      have hl2 : sb.length ≤ sa.length := by omega
      have hne' : ((sa.length : Int) != (sb.length : Int)) = false := by simp; omega
      have HDE := hide (show decide ((⟨sa, na⟩ : DiskT) = ⟨sb, na⟩) = decide (sa = sb) by rw [Bool.eq_iff_iff]; simp)
      have HA := hide ha
      have HB := hide hb
      obtain ⟨W, hW⟩ : ∃ W, W = (w.alloc (.cells #[.slice aa sa.length ca, .int .i64 na] 38)).alloc (.cells #[.slice ab sb.length cb, .int .i64 na] 38) := ⟨_, rfl⟩
      have hg1 : W.heap[w.heap.size]? = some (.cells #[.slice aa sa.length ca, .int .i64 na] 38 (0, 0)) := by rw [hW]; exact al_old _ _ _
      have hg2 : W.heap[w.heap.size + 1]? = some (.cells #[.slice ab sb.length cb, .int .i64 na] 38 (0, 0)) := by rw [hW]; exact al_new _ _ _
      have hKW : Same w W := by rw [hW]; exact ((Kept.refl _ w).alloc _).alloc _
      clear ha hb hne
      go_enter Try.func28, Try.ntmps28
      go_wp2_with fail
      rw [← hW]
      clear hW
      go_loopg [5] sa.length (fun gk iv wr => ∃ (i n : Nat), i + gk = sa.length ∧ iv = .int .i64 i ∧ wr = W.drewN n ∧ Hid (sa.take i = sb.take i))
      case atStart => exact ⟨0, 0, by omega, rfl, rfl, hide rfl⟩
      case round =>
        obtain ⟨i, n, hi, rfl, rfl, HE⟩ := hrel
        have hKr : Same w (W.drewN n) := hKW.drewN n
        obtain ⟨c0, c1⟩ := blk2 hg1
        obtain ⟨d0, d1⟩ := blk2 hg2
        by_cases hlt : i < sa.length
        · obtain ⟨b1, o1, e1, _, p0⟩ := (HA.out.same hKW).at i hlt
          obtain ⟨b2, o2, e2, _, q0⟩ := (HB.out.same hKW).at i (by omega)
          subst e1 e2
          have hib : i < sb.length := by omega
          obtain ⟨x, hx⟩ : ∃ x, x = sa[i] := ⟨_, rfl⟩
          obtain ⟨y, hy⟩ : ∃ y, y = sb[i] := ⟨_, rfl⟩
          rw [← hx] at p0
          rw [← hy] at q0
          have HX := hide hx
          have HY := hide hy
          clear hx hy
          by_cases hxy : x = y
          · have hxy' : (x == y) = true := by simp [hxy]
            have HXY := hide hxy
            clear hxy
            go_wp2_with fail
            go_quiet (fail)
            go_wp2_with fail
            go_roundg (gk - 1)
            case measure => omega
            case rel => exact ⟨i + 1, _, by omega, by go_num, rfl, hide (by rw [List.take_succ_eq_append_getElem hlt, List.take_succ_eq_append_getElem hib, HE.out, ← HX.out, ← HY.out, HXY.out])⟩
          · have hxy' : (x == y) = false := by simp [hxy]
            have HXY := hide hxy
            clear hxy
            go_wp2_with fail
            go_quiet (fail)
            go_wp2_with fail
            go_ret
            refine ⟨ret_bool ?_, (by repeat' (first | assumption | exact Kept.refl _ _ | refine Kept.drewN ?_ _ | refine Kept.drew ?_ | refine Kept.alloc ?_ _ | refine Kept.setB ?_ _ _))⟩
            rw [HDE.out, decide_eq_false]
            intro e
            have : x = y := by rw [HX.out, HY.out]; simp [e]
            exact HXY.out this
        · go_wp2_with fail
          go_ret
          refine ⟨ret_bool ?_, hKr⟩
          rw [HDE.out, decide_eq_true]
          have e1 : sa.take i = sa := List.take_of_length_le (by omega)
          have e2 : sb.take i = sb := List.take_of_length_le (by omega)
          have := HE.out
          rwa [e1, e2] at this
    · have hne' : ((sa.length : Int) != (sb.length : Int)) = true := by simp; omega
      have HDE := hide (show decide ((⟨sa, na⟩ : DiskT) = ⟨sb, na⟩) = false by rw [decide_eq_false]; intro e; exact hne (by rw [(DiskT.mk.inj e).1]))
      clear ha hb hne
      go_enter Try.func28, Try.ntmps28
      go_wp2_with fail
      go_ret
      exact ⟨ret_bool (by simpa using HDE.out.symm), (by repeat' (first | assumption | exact Kept.refl _ _ | refine Kept.drewN ?_ _ | refine Kept.drew ?_ | refine Kept.alloc ?_ _ | refine Kept.setB ?_ _ _))⟩
  · have hn' : (na != nb) = true := by simp [hn]
    have HDE := hide (show decide ((⟨sa, na⟩ : DiskT) = ⟨sb, nb⟩) = false by rw [decide_eq_false]; intro e; exact hn (DiskT.mk.inj e).2)
    clear ha hb hn
    go_enter Try.func28, Try.ntmps28
    go_wp2_with fail
    go_ret
    exact ⟨ret_bool (by simpa using HDE.out.symm), (by repeat' (first | assumption | exact Kept.refl _ _ | refine Kept.drewN ?_ _ | refine Kept.drew ?_ | refine Kept.alloc ?_ _ | refine Kept.setB ?_ _ _))⟩

end Go.Proofs.Ytillhpepfpldcaa

/- The laws' diskBegun. -/
namespace Go.Proofs.Ytillhpepfpldcaa
open Go.RowKit

def lotS : List UInt8 := [0, 15, 1, 2, 2, 1, 1, 0, 3, 4, 0, 0, 3, 1, 2, 120, 121]
def cutS : List UInt8 := [0, 15, 1, 2, 2]
theorem beg1 : appendD ⟨[], 0⟩ lotB = .ok ⟨[lotS], 0⟩ := by kernel_rfl
theorem beg2 : crashD ⟨[lotS], 0⟩ 5 = .ok ⟨[cutS], 0⟩ := by kernel_rfl
theorem beg3 : appendD ⟨[cutS], 0⟩ lotB = .error 4 := by kernel_rfl
theorem beg4 : checkD ⟨[cutS], 0⟩ = 0 := by kernel_rfl
theorem beg5 : openD ⟨[cutS], 0⟩ = ⟨[[]], 0⟩ := by kernel_rfl
theorem beg6 : batchesD [cutS] = [] := by kernel_rfl
theorem beg7 : syncD ⟨[lotS], 0⟩ = .ok ⟨[lotS], 17⟩ := by kernel_rfl
theorem beg8 : crashD ⟨[lotS], 17⟩ 0 = .ok ⟨[lotS], 17⟩ := by kernel_rfl

theorem DAns.ok {x : Except Int DiskT} {w : World} {r : Ending} {w' : World} (h : DAns x w r w') {d : DiskT} (hx : x = .ok d) : ∃ ao cap, r = .returned (.tuple #[diV (.slice ao d.segs.length cap) d.synced, .int .i64 0]) ∧ StSl (w.heap.size ≤ ·) w' (.slice ao d.segs.length cap) d.segs ∧ Same w w' := by
  rcases h with ⟨d', sv, h1, h2, h3, h4⟩ | ⟨e, h1, _⟩
  · rw [hx] at h1; cases h1
    obtain ⟨ao, cap, rfl⟩ := h3.form
    exact ⟨ao, cap, h2, h3, h4⟩
  · rw [hx] at h1; cases h1
theorem DAns.err {x : Except Int DiskT} {w : World} {r : Ending} {w' : World} (h : DAns x w r w') {e : Int} (hx : x = .error e) : r = .returned (.tuple #[diV (.slice none 0 0) 0, .int .i64 e]) ∧ Same w w' ∧ e ≠ 0 := by
  rcases h with ⟨d', sv, h1, _⟩ | ⟨e', h1, h2, h3, h4⟩
  · rw [hx] at h1; cases h1
  · rw [hx] at h1; cases h1
    exact ⟨h3, h4, h2⟩
theorem OAns.ok {d : DiskT} {w : World} {r : Ending} {w' : World} (h : OAns d w r w') (hc : checkD d = 0) : ∃ ab cb ao cap, r = .returned (.tuple #[.slice ab (batchesD d.segs).length cb, diV (.slice ao (openD d).segs.length cap) (openD d).synced, .int .i64 0]) ∧ BaSl (w.heap.size ≤ ·) w' (.slice ab (batchesD d.segs).length cb) (batchesD d.segs) ∧ StSl (w.heap.size ≤ ·) w' (.slice ao (openD d).segs.length cap) (openD d).segs ∧ Same w w' := by
  rcases h with ⟨_, bv, sv, h1, h2, h3, h4⟩ | ⟨h1, _⟩
  · obtain ⟨ab, cb, rfl⟩ := h2.form
    obtain ⟨ao, cap, rfl⟩ := h3.form
    exact ⟨ab, cb, ao, cap, h1, h2, h3, h4⟩
  · exact absurd hc h1

set_option maxRecDepth 20000 in
set_option maxHeartbeats 6400000 in
theorem diskBegun_any (w : World) :
    Calls Try.prog 25 #[] w fun r w' => r = .returned (.bool true) ∧ Same w w' := by
  have trs : ∀ {a b c : World}, Same a b → Same b c → Same a c := fun h k => h.trans k (fun _ _ f => f)
  go_enter Try.func25, Try.ntmps25
  go_wp2_with fail
  refine (lot_any _).mono ?_
  rintro r w1 ⟨g1, rfl, hv1, hK1⟩
  have HC1 := hide ((dAppend_any _ _ w1 (.slice none 0 0) _ ⟨[], 0⟩ lotB (StSl.nil (fun _ => True) w1) hv1).mono (R' := fun r w' => ∃ ao cap, r = .returned (.tuple #[diV (.slice ao 1 cap) 0, .int .i64 0]) ∧ StSl (w1.heap.size ≤ ·) w' (.slice ao 1 cap) [lotS] ∧ Same w1 w') (fun r w' h => h.ok beg1))
  clear hv1
  go_wp2_with fail
  refine HC1.out.mono ?_
  clear HC1
  rintro r w2 ⟨a1, c1, rfl, hs2, hK2⟩
  have hg1 := heap_alloc_new w2 (.cells #[.slice a1 1 c1, .int .i64 0] 38)
  have hs2' := hs2.same ((Kept.refl _ w2).alloc (.cells #[.slice a1 1 c1, .int .i64 0] 38))
  have hKa : Same w (w2.alloc (.cells #[.slice a1 1 c1, .int .i64 0] 38)) := (trs hK1 hK2).alloc _
  clear hs2 hK1 hK2
  obtain ⟨W1, hW1⟩ : ∃ W1, W1 = w2.alloc (.cells #[.slice a1 1 c1, .int .i64 0] 38) := ⟨_, rfl⟩
  obtain ⟨b1, hb1⟩ : ∃ b1, b1 = w2.heap.size := ⟨_, rfl⟩
  rw [← hW1] at hg1 hs2' hKa
  rw [← hb1] at hg1
  have HC2 := hide ((dCrash_any _ W1 _ ⟨[lotS], 0⟩ 5 (by decide) hs2').mono (R' := fun r w' => ∃ ao cap, r = .returned (.tuple #[diV (.slice ao 1 cap) 0, .int .i64 0]) ∧ StSl (W1.heap.size ≤ ·) w' (.slice ao 1 cap) [cutS] ∧ Same W1 w') (fun r w' h => h.ok beg2))
  have HS1 := hide hs2'
  clear hs2'
  go_wp2_with fail
  rw [← hW1, ← hb1]
  clear hW1 hb1
  refine HC2.out.mono ?_
  clear HC2
  rintro r w3 ⟨a2, c2, rfl, hs3, hK3⟩
  have hg2 := heap_alloc_new w3 (.cells #[.slice a2 1 c2, .int .i64 0] 38)
  have hKb : Same W1 (w3.alloc (.cells #[.slice a2 1 c2, .int .i64 0] 38)) := hK3.alloc _
  have hs3' := hs3.same ((Kept.refl _ w3).alloc (.cells #[.slice a2 1 c2, .int .i64 0] 38))
  clear hs3 hK3
  obtain ⟨W2, hW2⟩ : ∃ W2, W2 = w3.alloc (.cells #[.slice a2 1 c2, .int .i64 0] 38) := ⟨_, rfl⟩
  obtain ⟨b2, hb2⟩ : ∃ b2, b2 = w3.heap.size := ⟨_, rfl⟩
  rw [← hW2] at hg2 hKb hs3'
  rw [← hb2] at hg2
  have hG1 := blk_kept hg1 hKb (fun f => f)
  have HS1b := hide (HS1.out.same hKb)
  have hKw := trs hKa hKb
  have HS2 := hide hs3'
  have HG1 := hide hG1
  have HG2 := hide hg2
  clear hg1 hKa hKb HS1 hs3' hG1
  obtain ⟨y0, y1⟩ := blk2 hg2
  have HC3 := hide (fun wx (hx : Same W2 wx) g (hv : EvSl (fun _ => True) wx (.slice (some ⟨g, 0, none⟩) 2 2) lotE) => (dAppend_any _ _ wx (.slice a2 1 c2) _ ⟨[cutS], 0⟩ lotB (HS2.out.same hx) hv).mono (R' := fun r w' => r = .returned (.tuple #[diV (.slice none 0 0) 0, .int .i64 4]) ∧ Same wx w') (fun r w' h => ⟨(h.err beg3).1, (h.err beg3).2.1⟩))
  have hKc : Same W2 W2 := Kept.refl _ _
  have HALL := hide (fun wy (hy : Same W2 wy) => (⟨hy.cell y0 (fun f => f), hy.cell y1 (fun f => f)⟩ : wy.cell? ⟨b2, 0, none⟩ = _ ∧ wy.cell? ⟨b2, 1, none⟩ = _))
  clear hg2
  have hne := World.new_ne W2 ⟨b2, 0, none⟩ y0
  go_wp2_with fail
  rw [← hW2, ← hb2]
  clear hW2 hb2
  go_region_held3 (fun w' => w'.cell? ⟨b2, 0, none⟩ = some (.slice a2 1 c2) ∧ w'.cell? ⟨b2, 1, none⟩ = some (.int .i64 0)) (go_keep) (first
    | (go_at_call 41; refine (lot_any _).mono ?_; rintro e w9 ⟨g9, rfl, hv9, hKn⟩; have hKc := trs (by first | exact hKc.drewN _ | exact hKc.drew | exact hKc | exact (hKc.drewN _).alloc _ | exact (hKc.alloc _).drew | exact hKc.alloc _) hKn; obtain ⟨y0, y1⟩ := HALL.out _ hKc; have hne9 := World.new_ne w9 ⟨b2, 0, none⟩ y0; first | (have hbx := blk_kept' hKn (heap_alloc_new W2 _) (fun f => f); obtain ⟨u0, u1⟩ := blk2 hbx; have u2 := fro2 hbx) | skip)
    | (go_at_call 17; refine (HC3.out _ (by first | exact hKc.drewN _ | exact hKc.drew | exact hKc | exact (hKc.drewN _).alloc _ | exact (hKc.alloc _).drew | exact hKc.alloc _) g9 ((by first | exact hv9 | exact hv9.same ((Kept.refl _ _).alloc _) | exact hv9.same ((Kept.refl _ _).alloc _).drew : EvSl _ _ _ lotE).mono (fun _ _ _ => trivial))).mono ?_; rintro e w8 ⟨rfl, hKn2⟩; have hKc := trs (by first | exact hKc.drewN _ | exact hKc.drew | exact hKc | exact (hKc.drewN _).alloc _ | exact (hKc.alloc _).drew | exact hKc.alloc _) hKn2; obtain ⟨y0, y1⟩ := HALL.out _ hKc; have hne8 := World.new_ne w8 ⟨b2, 0, none⟩ y0; first | (have hbx2 := blk_kept' hKn2 hbx (fun f => f); obtain ⟨v0, v1⟩ := blk2 hbx2; have v2 := fro2 hbx2) | (have hbx2 := blk_kept' hKn2 (heap_alloc_new w9 _) (fun f => f); obtain ⟨v0, v1⟩ := blk2 hbx2; have v2 := fro2 hbx2) | skip))
  all_goals
    have h29 : W2.heap.size ≤ w9.heap.size := by first | exact hKn.size | (have := hKn.size; simp at this; omega)
    first
      | (have HK3 : Hid (Same W2 ((w8.setCell ⟨W2.heap.size, 0, none⟩ (.slice none 0 0)).setCell ⟨W2.heap.size, 1, none⟩ (.int .i64 0))) := (hKc.setCell (fun h => absurd h (Nat.lt_irrefl _)) _).setCell (fun h => absurd h (Nat.lt_irrefl _)) _
         obtain ⟨W3, hW3⟩ : ∃ W3, W3 = ((w8.setCell ⟨W2.heap.size, 0, none⟩ (.slice none 0 0)).setCell ⟨W2.heap.size, 1, none⟩ (.int .i64 0)) := ⟨_, rfl⟩
         rw [← hW3] at HK3 ⊢
         clear hW3)
      | (have HK3 : Hid (Same W2 ((w8.setCell ⟨w9.heap.size, 0, none⟩ (.slice none 0 0)).setCell ⟨w9.heap.size, 1, none⟩ (.int .i64 0))) := (hKc.setCell (fun h => absurd h (by show ¬ w9.heap.size < W2.heap.size; omega)) _).setCell (fun h => absurd h (by show ¬ w9.heap.size < W2.heap.size; omega)) _
         obtain ⟨W3, hW3⟩ : ∃ W3, W3 = ((w8.setCell ⟨w9.heap.size, 0, none⟩ (.slice none 0 0)).setCell ⟨w9.heap.size, 1, none⟩ (.int .i64 0)) := ⟨_, rfl⟩
         rw [← hW3] at HK3 ⊢
         clear hW3)
      | (have HK3 : Hid (Same W2 (w8.alloc (.cells #[.slice none 0 0, .int .i64 0] 38))) := hKc.alloc _
         obtain ⟨W3, hW3⟩ : ∃ W3, W3 = (w8.alloc (.cells #[.slice none 0 0, .int .i64 0] 38)) := ⟨_, rfl⟩
         rw [← hW3] at HK3 ⊢
         clear hW3)
    have hG2 := blk_kept HG2.out HK3.out (fun f => f)
    have hG1 := blk_kept HG1.out HK3.out (fun f => f)
    have HS2c := hide (HS2.out.same HK3.out)
    have HS1c := hide (HS1b.out.same HK3.out)
    have HKw3 := hide (trs hKw HK3.out)
    clear h29 hKc hKn hKn2 y0 y1 hne9 hne8 hv9 HC3 HALL HS2 HS1b HG1 HG2 HK3
    obtain ⟨y0, y1⟩ := blk2 hG2
    have HC4 := hide ((dOpen_any _ W3 _ ⟨[cutS], 0⟩ HS2c.out).mono (R' := fun r w' => ∃ ab cb ao cap, r = .returned (.tuple #[.slice ab 0 cb, diV (.slice ao 1 cap) 0, .int .i64 0]) ∧ StSl (W3.heap.size ≤ ·) w' (.slice ao 1 cap) [[]] ∧ Same W3 w') (fun r w' h => by
      obtain ⟨ab, cb, ao, cap, h1, _, h3, h4⟩ := h.ok beg4
      simp only [beg5, beg6] at h1 h3
      exact ⟨ab, cb, ao, cap, h1, h3, h4⟩))
    go_wp2_with fail
    refine HC4.out.mono ?_
    clear HC4
    rintro r w5 ⟨ab, cb, a4, c4, rfl, hs5, hK5⟩
    obtain ⟨W4, hW4⟩ : ∃ W4, W4 = w5.alloc (.cells #[.slice a4 1 c4, .int .i64 0] 38) := ⟨_, rfl⟩
    obtain ⟨b4, hb4⟩ : ∃ b4, b4 = w5.heap.size := ⟨_, rfl⟩
    have hK34 : Same W3 W4 := by rw [hW4]; exact hK5.alloc _
    have hG4 : W4.heap[b4]? = some (.cells #[.slice a4 1 c4, .int .i64 0] 38 (0, 0)) := by rw [hW4, hb4]; exact heap_alloc_new _ _
    have HS4 := hide (show StSl (W3.heap.size ≤ ·) W4 (.slice a4 1 c4) [[]] by rw [hW4]; exact hs5.same ((Kept.refl _ w5).alloc _))
    have hG2d := blk_kept hG2 hK34 (fun f => f)
    have hG1d := blk_kept hG1 hK34 (fun f => f)
    have HS2d := hide (HS2c.out.same hK34)
    have HS1d := hide (HS1c.out.same hK34)
    have HKw4 := hide (trs HKw3.out hK34)
    obtain ⟨x0, x1⟩ := blk2 (blk_kept hG1 hK5 (fun f => f))
    have hx5 := Nat.ne_of_lt (Array.getElem?_eq_some_iff.1 (blk_kept hG1 hK5 (fun f => f))).1
    have hx5' := (Array.getElem?_eq_some_iff.1 (blk_kept hG1 hK5 (fun f => f))).1
    have HC5 := hide ((dSync_any _ W4 _ ⟨[lotS], 0⟩ HS1d.out).mono (R' := fun r w' => ∃ ao cap, r = .returned (.tuple #[diV (.slice ao 1 cap) 17, .int .i64 0]) ∧ StSl (W4.heap.size ≤ ·) w' (.slice ao 1 cap) [lotS] ∧ Same W4 w') (fun r w' h => h.ok beg7))
    clear hs5 hK5 hK34 hG2 hG1 HS2c HS1c HKw3 y0 y1
    go_wp2_with fail
    rw [← hW4]
    refine HC5.out.mono ?_
    clear HC5 hW4 x0 x1 hx5 hx5'
    rintro r w6 ⟨a5, c5, rfl, hs6, hK6⟩
    rw [← hb4]
    clear hb4
    obtain ⟨W5, hW5⟩ : ∃ W5, W5 = w6.alloc (.cells #[.slice a5 1 c5, .int .i64 17] 38) := ⟨_, rfl⟩
    obtain ⟨b5, hb5⟩ : ∃ b5, b5 = w6.heap.size := ⟨_, rfl⟩
    have hK45 : Same W4 W5 := by rw [hW5]; exact hK6.alloc _
    have hG5 : W5.heap[b5]? = some (.cells #[.slice a5 1 c5, .int .i64 17] 38 (0, 0)) := by rw [hW5, hb5]; exact heap_alloc_new _ _
    have HS5 := hide (show StSl (W4.heap.size ≤ ·) W5 (.slice a5 1 c5) [lotS] by rw [hW5]; exact hs6.same ((Kept.refl _ w6).alloc _))
    have hG2e := blk_kept hG2d hK45 (fun f => f)
    have hG4e := blk_kept hG4 hK45 (fun f => f)
    have HS2e := hide (HS2d.out.same hK45)
    have HS4e := hide (HS4.out.same hK45)
    have HKw5 := hide (trs HKw4.out hK45)
    have HC6 := hide ((dCrash_any _ W5 _ ⟨[lotS], 17⟩ 0 (by decide) HS5.out).mono (R' := fun r w' => ∃ ao cap, r = .returned (.tuple #[diV (.slice ao 1 cap) 17, .int .i64 0]) ∧ StSl (W5.heap.size ≤ ·) w' (.slice ao 1 cap) [lotS] ∧ Same W5 w') (fun r w' h => h.ok beg8))
    clear hs6 hK6 hK45 hG2d hG1d hG4 HS2d HS1d HS4 HKw4
    go_wp2_with fail
    rw [← hW5]
    refine HC6.out.mono ?_
    clear HC6 hW5
    rintro r w7 ⟨a6, c6, rfl, hs7, hK7⟩
    rw [← hb5]
    clear hb5
    obtain ⟨W6, hW6⟩ : ∃ W6, W6 = w7.alloc (.cells #[.slice a6 1 c6, .int .i64 17] 38) := ⟨_, rfl⟩
    obtain ⟨b6, hb6⟩ : ∃ b6, b6 = w7.heap.size := ⟨_, rfl⟩
    have hK56 : Same W5 W6 := by rw [hW6]; exact hK7.alloc _
    have hG6 : W6.heap[b6]? = some (.cells #[.slice a6 1 c6, .int .i64 17] 38 (0, 0)) := by rw [hW6, hb6]; exact heap_alloc_new _ _
    have HS6 := hide (show StSl (W5.heap.size ≤ ·) W6 (.slice a6 1 c6) [lotS] by rw [hW6]; exact hs7.same ((Kept.refl _ w7).alloc _))
    have hG2f := blk_kept hG2e hK56 (fun f => f)
    have hG4f := blk_kept hG4e hK56 (fun f => f)
    have hG5f := blk_kept hG5 hK56 (fun f => f)
    have HS2f := hide (HS2e.out.same hK56)
    have HS4f := hide (HS4e.out.same hK56)
    have HS5f := hide (HS5.out.same hK56)
    have HKw6 := hide (trs HKw5.out hK56)
    have HCK := hide (dCheck_any _ W6 _ ⟨[cutS], 0⟩ HS2f.out)
    rw [beg4] at HCK
    obtain ⟨y0, y1⟩ := blk2 (blk_kept hG2e hK7 (fun f => f))
    have hx7 := Nat.ne_of_lt (Array.getElem?_eq_some_iff.1 (blk_kept hG2e hK7 (fun f => f))).1
    have hx7' := (Array.getElem?_eq_some_iff.1 (blk_kept hG2e hK7 (fun f => f))).1
    clear hs7 hK7 hK56 hG2e hG4e hG5 HS2e HS4e HS5 HKw5
    go_wp2_with fail
    rw [← hW6]
    refine HCK.out.mono ?_
    clear HCK hW6 y0 y1 hx7 hx7'
    rintro r w10 ⟨rfl, hK10⟩
    rw [← hb6]
    clear hb6
    obtain ⟨p0, p1⟩ := blk2 (blk_kept hG4f hK10 (fun f => f))
    obtain ⟨q0, q1⟩ := blk2 (blk_kept hG5f hK10 (fun f => f))
    obtain ⟨z0, z1⟩ := blk2 (blk_kept hG6 hK10 (fun f => f))
    obtain ⟨sb, so, hse, _, s0⟩ := (HS4f.out.same hK10).at 0 (by decide)
    subst hse
    have hc41 : 1 ≤ c4 := HS4f.out.len.2.2
    have hse : ((⟨#[]⟩ : ByteArray).toList.isEmpty) = true := by rw [ByteArray.toList_eq]; rfl
    have HSD := hide (sameDisk_any _ _ w10 _ _ ⟨[lotS], 17⟩ ⟨[lotS], 17⟩ (HS6.out.same hK10) (HS5f.out.same hK10))
    rw [decide_eq_true rfl] at HSD
    have HKw10 := hide (trs HKw6.out hK10)
    have hG5g := blk_kept hG5f hK10 (fun f => f)
    simp only [List.getElem_cons_zero, Nat.add_zero] at s0
    clear hK10 hG2f hG4f hG5f hG6 HS2f HS4f HS5f HS6 HKw6
    go_wp2_with fail
    refine HSD.out.mono ?_
    rintro r w11 ⟨rfl, hK11⟩
    obtain ⟨u0, u1⟩ := blk2 (blk_kept hG5g hK11 (fun f => f))
    go_wp2_with fail
    go_ret
    exact ⟨rfl, trs HKw10.out hK11⟩

end Go.Proofs.Ytillhpepfpldcaa
