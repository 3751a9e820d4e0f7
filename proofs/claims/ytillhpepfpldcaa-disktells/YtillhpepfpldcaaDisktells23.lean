import Derived.Test.YtillhpepfpldcaaDisktells22
/- disk.Open, Append. -/
namespace Go.Proofs.Ytillhpepfpldcaa
open Go.RowKit

/-- what Open answers -/
def OAns (d : DiskT) (w : World) (r : Ending) (w' : World) : Prop :=
  (checkD d = 0 ∧ ∃ bv sv, r = .returned (.tuple #[bv, diV sv (openD d).synced, .int .i64 0]) ∧ BaSl (w.heap.size ≤ ·) w' bv (batchesD d.segs) ∧ StSl (w.heap.size ≤ ·) w' sv (openD d).segs ∧ Same w w') ∨
  (checkD d ≠ 0 ∧ r = .returned (.tuple #[.slice none 0 0, diV (.slice none 0 0) 0, .int .i64 (checkD d)]) ∧ Same w w')

theorem last_set (segs : List (List UInt8)) : lastS (setLastS segs (wholeS (lastS segs))) = wholeS (lastS segs) := by
  rcases List.eq_nil_or_concat segs with rfl | ⟨i, s, rfl⟩
  · have : segT (lastS []) = ([], [], 5) := segT_end decodeB_nil
    simp only [setLastS, wholeS, this]; rfl
  · simp only [List.concat_eq_append]
    rw [setLastS_app, lastS_app, lastS_app]

theorem setLastS_len (l : List (List UInt8)) (x : List UInt8) : (setLastS l x).length = l.length := by
  rcases List.eq_nil_or_concat l with rfl | ⟨i, s, rfl⟩
  · simp [setLastS]
  · simp only [List.concat_eq_append]
    rw [setLastS_app]; simp

set_option maxRecDepth 20000 in
set_option maxHeartbeats 1600000 in
theorem dOpen_any (P : Nat → Prop) (w : World) (v : Value) (d : DiskT) (h : StSl P w v d.segs) :
    Calls Try.prog 16 #[diV v d.synced] w fun r w' => OAns d w r w' := by
  obtain ⟨segs, syn⟩ := d
  simp only at h ⊢
  have HKP := hide (fun wx (hk : Same w wx) => kept_any P wx v ⟨segs, syn⟩ (h.same hk))
  obtain ⟨ao, cap, rfl⟩ := h.form
  clear h
  obtain ⟨W, hW⟩ : ∃ W, W = (w.alloc (.cells #[.slice ao segs.length cap, .int .i64 syn] 38)).alloc (.cells #[.slice none 0 0, .int .i64 0] 38) := ⟨_, rfl⟩
  have hres : W.heap[w.heap.size + 1]? = some (.cells #[.slice none 0 0, .int .i64 0] 38 (0, 0)) := by rw [hW]; exact al_new _ _ _
  have hKW : Same w W := by rw [hW]; exact ((Kept.refl _ w).alloc _).alloc _
  have hRW : w.heap.size + 1 < W.heap.size := (Array.getElem?_eq_some_iff.1 hres).1
  have trs : ∀ {a b c : World}, Same a b → Same b c → Same a c := fun h k => h.trans k (fun _ _ f => f)
  go_enter Try.func16, Try.ntmps16
  go_wp2_with fail
  rw [← hW]
  clear hW
  refine (HKP.out _ hKW).mono ?_
  rintro r w1 (⟨hc, rfl, hK1⟩ | ⟨hc, g, sv, bv, ev, bp, rfl, hkw, hbp, hK1⟩)
  · have hR := blk_kept hres hK1 (fun f => f)
    have hKa := trs hKW hK1
    have hc' : (checkD ⟨segs, syn⟩ != 0) = true := by simp [hc]
    have HC := hide hc
    obtain ⟨no, hno⟩ : ∃ no, no = checkD ⟨segs, syn⟩ := ⟨_, rfl⟩
    rw [← hno] at hc'
    have HCQ := hide hno
    rw [← hno]
    clear hc hKW hK1 hres hno
    have p2 := fro2 hR
    obtain ⟨p0, p1⟩ := blk2 hR
    obtain ⟨q0, q1⟩ := blk2 (set2b hR (.slice none 0 0) (.int .i64 0))
    have hKp : Same w ((w1.setCell ⟨w.heap.size + 1, 0, none⟩ (.slice none 0 0)).setCell ⟨w.heap.size + 1, 1, none⟩ (.int .i64 0)) := (hKa.setCell (fun h => absurd h (by show ¬ w.heap.size + 1 < w.heap.size; omega)) _).setCell (fun h => absurd h (by show ¬ w.heap.size + 1 < w.heap.size; omega)) _
    clear hKa
    go_wp2_with fail
    exact bodyPost_ret (v := .tuple #[.slice none 0 0, diV (.slice none 0 0) 0, .int .i64 no]) (by simp [results, Try.results16, go_sem, q0, q1]) rfl (.inr ⟨HC.out, by rw [HCQ.out], hKp⟩)
  · have hR := blk_kept hres hK1 (fun f => f)
    have hKa := trs hKW hK1
    have hll := last_len hkw
    have hbl : bp.length ≤ 1600 := by have h1 := congrArg List.length hbp; rw [List.length_map] at h1; have h2 := bats_len hkw.len hkw.each; omega
    obtain ⟨e0, he0, he1⟩ := ends_form segs hll
    rw [he0] at hkw
    have HWH := hide (whole_any hkw (by omega))
    have hwl := whole_le (lastS segs)
    have hwt := whole_take (lastS segs)
    have HCU := hide (fun wx (hx : Same w1 wx) => cut_any (hkw.same hx) (wholeS (lastS segs)).length hwl)
    have HOS := hide (show openD ⟨segs, syn⟩ = ⟨setLastS segs (wholeS (lastS segs)), (wholeS (lastS segs)).length⟩ from rfl)
    have HLS := hide (last_set segs)
    have HC := hide hc
    have HBP := hide hbp
    rw [hwt] at HCU
    have hgB := hkw.hB
    clear hkw hbp hc hKW hK1 hres he0 hwt
    generalize wholeS (lastS segs) = t at *
    go_wp2_with fail
    refine HWH.out.mono ?_
    rintro r w2 ⟨rfl, n2, hw2⟩
    have hK2 := same_drewN hw2
    clear hw2
    go_wp2_with fail
    refine (HCU.out _ hK2).mono ?_
    rintro r w3 ⟨rfl, hkw3, hK3⟩
    have hKd : Kept (w.heap.size ≤ ·) w w3 := (Same.to (X := (w.heap.size ≤ ·)) (trs hKa hK2)).trans hK3 (fun i _ hi => by have h1 : W.heap.size ≤ i := hi; omega)
    have hR3 := blk_kept (blk_kept hR hK2 (fun f => f)) hK3 (fun h => by have h1 : W.heap.size ≤ w.heap.size + 1 := h; omega)
    have HSY := hide (sync_any hkw3)
    rw [HLS.out] at HSY
    clear hkw3 hK3 hK2 hKa hR HCU HWH
    go_wp2_with fail
    refine HSY.out.mono ?_
    clear HSY
    rintro r w4 ⟨rfl, hkw4, hK4⟩
    have hKe : Kept (w.heap.size ≤ ·) w w4 := hKd.trans hK4 (fun i _ hi => by have h1 : W.heap.size ≤ i := hi; omega)
    have hR4 := blk_kept hR3 hK4 (fun h => by have h1 : W.heap.size ≤ w.heap.size + 1 := h; omega)
    obtain ⟨p0, p1⟩ := blk2 hR4
    have p2 := fro2 hR4
    obtain ⟨c0, c1, c2, c3, cf⟩ := blk4 hkw4.blk
    obtain ⟨sa, sc, hsv⟩ := own_slice hkw4.own
    obtain ⟨ab, cb, hbv⟩ := own_slice hkw4.bat
    subst hsv hbv
    have hst := kw_sts hkw4
    have hba := kw_bas hkw4 (by omega) HBP.out
    have hneg : w.heap.size + 1 ≠ g := by omega
    have hneg2 : g ≠ w.heap.size + 1 := by omega
    have hlen := setLastS_len segs t
    have HFIN := hide (fun (wf : World) (hKs : Kept (· = w.heap.size + 1) w4 wf) => (⟨(hst.keep hKs (fun k hk e => by have h1 : W.heap.size ≤ k := hk; omega)).mono (Q := (w.heap.size ≤ ·)) (fun k _ hk => by have h1 : W.heap.size ≤ k := hk; omega), (hba.keep hKs (fun k hk e => by have h1 : W.heap.size ≤ k := hk; omega)).mono (Q := (w.heap.size ≤ ·)) (fun k _ hk => by have h1 : W.heap.size ≤ k := hk; omega), kept_up (hKe.trans hKs (fun i _ hi => by subst hi; omega))⟩ : StSl (w.heap.size ≤ ·) wf _ (setLastS segs t) ∧ BaSl (w.heap.size ≤ ·) wf _ _ ∧ Same w wf))
    rw [hlen] at HFIN c0
    have HS2 := hide (fun x y => set2b hR4 x y)
    clear hkw4 hK4 hst hba hR4 hR3 hKd hKe hlen
    go_wp2_with fail
    go_region_held3 (fun w' => w'.cell? ⟨g, 0, none⟩ = some (.slice sa segs.length sc) ∧ w'.cell? ⟨g, 1, none⟩ = some (.int .i64 t.length) ∧ w'.cell? ⟨g, 2, none⟩ = some (.slice ab bp.length cb)) (go_keep) (fail)
    all_goals
      obtain ⟨q0, q1⟩ := blk2 (HS2.out (.slice sa segs.length sc) (.int .i64 t.length))
      obtain ⟨f1, f2, f3⟩ := HFIN.out ((w4.setCell ⟨w.heap.size + 1, 0, none⟩ (.slice sa segs.length sc)).setCell ⟨w.heap.size + 1, 1, none⟩ (.int .i64 t.length)).drew (((Kept.refl _ w4).setB 0 _).setB 1 _).drew
      have HF := hide (And.intro f1 (And.intro f2 f3))
      clear f1 f2 f3
      go_wp2_with fail
      exact bodyPost_ret (v := .tuple #[.slice ab bp.length cb, diV (.slice sa segs.length sc) t.length, .int .i64 0]) (by simp [results, Try.results16, go_sem, q0, q1]) rfl (.inl ⟨HC.out, _, _, by rw [HOS.out], HF.out.2.1, by rw [HOS.out]; exact HF.out.1, HF.out.2.2⟩)

end Go.Proofs.Ytillhpepfpldcaa

/- disk.Append. -/
namespace Go.Proofs.Ytillhpepfpldcaa
open Go.RowKit

theorem putP_D (segs : List (List UInt8)) (syn : Int) (x : List UInt8) : putD ⟨segs, syn⟩ x = if (putP segs syn x).1 ≠ 0 then .error (putP segs syn x).1 else .ok ⟨(putP segs syn x).2.1, (putP segs syn x).2.2⟩ := by
  unfold putD putP
  simp only
  by_cases h : segs ≠ [] ∧ (lastS segs).length + x.length ≤ 400
  · rw [if_pos h, if_pos h]; rfl
  · rw [if_neg h, if_neg h]
    by_cases h8 : segs.length = 8
    · rw [if_pos h8, if_pos h8]; rfl
    · rw [if_neg h8, if_neg h8]; rfl

theorem al3 (w : World) (a b c : Obj) : (((w.alloc a).alloc b).alloc c).heap[w.heap.size + 1 + 1]? = some c := by
  have := al_new (w.alloc a) b c
  rw [World.size_alloc] at this
  exact this

set_option maxRecDepth 20000 in
set_option maxHeartbeats 3200000 in
theorem dAppend_any (P Q : Nat → Prop) (w : World) (v vb : Value) (d : DiskT) (b : BatchT) (h : StSl P w v d.segs) (hb : EvSl Q w vb b.events) :
    Calls Try.prog 17 #[diV v d.synced, baV b.number vb] w fun r w' => DAns (appendD d b) w r w' := by
  obtain ⟨segs, syn⟩ := d
  simp only at h ⊢
  have HKP := hide (fun wx (hk : Same w wx) => kept_any P wx v ⟨segs, syn⟩ (h.same hk))
  have HEN := hide (fun wx (hk : Same w wx) => encode_any Q wx b vb (hb.same hk))
  have HSY := hide (show appendD ⟨segs, syn⟩ b = if checkD ⟨segs, syn⟩ ≠ 0 then .error (checkD ⟨segs, syn⟩) else if checkBa b ≠ 0 then .error (checkBa b) else if tornD ⟨segs, syn⟩ then .error 4 else putD ⟨segs, syn⟩ (bytesB b) from rfl)
  obtain ⟨ao, cap, rfl⟩ := h.form
  obtain ⟨ab, cb, rfl⟩ := hb.form
  clear h hb
  obtain ⟨W, hW⟩ : ∃ W, W = ((w.alloc (.cells #[.slice ao segs.length cap, .int .i64 syn] 38)).alloc (.cells #[.int .i64 b.number, .slice ab b.events.length cb] 24)).alloc (.cells #[.slice none 0 0, .int .i64 0] 38) := ⟨_, rfl⟩
  have hres : W.heap[w.heap.size + 1 + 1]? = some (.cells #[.slice none 0 0, .int .i64 0] 38 (0, 0)) := by rw [hW]; exact al3 _ _ _ _
  have hbb : W.heap[w.heap.size + 1]? = some (.cells #[.int .i64 b.number, .slice ab b.events.length cb] 24 (0, 0)) := by rw [hW]; exact (Below.heap_alloc _ _ _ (by simp)).trans (al_new _ _ _)
  have hKW : Same w W := by rw [hW]; exact (((Kept.refl _ w).alloc _).alloc _).alloc _
  have hRW : w.heap.size + 1 + 1 < W.heap.size := (Array.getElem?_eq_some_iff.1 hres).1
  have trs : ∀ {a b c : World}, Same a b → Same b c → Same a c := fun h k => h.trans k (fun _ _ f => f)
  go_enter Try.func17, Try.ntmps17
  go_wp2_with fail
  rw [← hW]
  clear hW
  refine (HKP.out _ hKW).mono ?_
  rintro r w1 (⟨hc, rfl, hK1⟩ | ⟨hc, g, sv, bv, ev, bp, rfl, hkw, hbp, hK1⟩)
  · have hR := blk_kept hres hK1 (fun f => f)
    have hKa := trs hKW hK1
    have hc' : (checkD ⟨segs, syn⟩ != 0) = true := by simp [hc]
    rw [if_pos hc] at HSY
    have HC := hide hc
    clear hc hKW hK1 hres
    generalize checkD ⟨segs, syn⟩ = no at *
    have p2 := fro2 hR
    obtain ⟨p0, p1⟩ := blk2 hR
    obtain ⟨q0, q1⟩ := blk2 (set2b hR (.slice none 0 0) (.int .i64 0))
    have hKp : Same w ((w1.setCell ⟨w.heap.size + 1 + 1, 0, none⟩ (.slice none 0 0)).setCell ⟨w.heap.size + 1 + 1, 1, none⟩ (.int .i64 0)) := (hKa.setCell (fun h => absurd h (by show ¬ w.heap.size + 1 + 1 < w.heap.size; omega)) _).setCell (fun h => absurd h (by show ¬ w.heap.size + 1 + 1 < w.heap.size; omega)) _
    clear hKa hbb HEN HKP
    go_wp2_with fail
    exact bodyPost_ret (v := .tuple #[diV (.slice none 0 0) 0, .int .i64 no]) (by simp [results, Try.results17, go_sem, q0, q1]) rfl (.inr ⟨no, HSY.out, HC.out, rfl, hKp⟩)
  · rw [if_neg (by simp [hc])] at HSY
    have hR1 := blk_kept hres hK1 (fun f => f)
    have hB1 := blk_kept hbb hK1 (fun f => f)
    obtain ⟨b0, b1⟩ := blk2 hB1
    have hKa := trs hKW hK1
    have HKw := hide hkw
    have hll := last_len hkw
    have HEN1 := hide (HEN.out w1 hKa)
    clear hkw hbp hc hKW hK1 hres hbb HEN HKP
    go_wp2_with fail
    refine HEN1.out.mono ?_
    clear HEN1
    rintro r w2 (⟨hcb, rfl, hK2⟩ | ⟨hcb, rfl, hK2⟩)
    rotate_left
    · have hR := blk_kept hR1 hK2 (fun f => f)
      have hKb := trs hKa hK2
      have hc' : (checkBa b != 0) = true := by simp [hcb]
      rw [if_pos hcb] at HSY
      have HC := hide hcb
      clear hcb hKa hK2 hR1 hB1 b0 b1
      generalize checkBa b = no at *
      have p2 := fro2 hR
      obtain ⟨p0, p1⟩ := blk2 hR
      obtain ⟨q0, q1⟩ := blk2 (set2b hR (.slice none 0 0) (.int .i64 0))
      have hKp : Same w ((w2.setCell ⟨w.heap.size + 1 + 1, 0, none⟩ (.slice none 0 0)).setCell ⟨w.heap.size + 1 + 1, 1, none⟩ (.int .i64 0)) := (hKb.setCell (fun h => absurd h (by show ¬ w.heap.size + 1 + 1 < w.heap.size; omega)) _).setCell (fun h => absurd h (by show ¬ w.heap.size + 1 + 1 < w.heap.size; omega)) _
      clear hKb HKw
      go_wp2_with fail
      exact bodyPost_ret (v := .tuple #[diV (.slice none 0 0) 0, .int .i64 no]) (by simp [results, Try.results17, go_sem, q0, q1]) rfl (.inr ⟨no, HSY.out, HC.out, rfl, hKp⟩)
    · rw [if_neg (by simp [hcb])] at HSY
      have hR2 := blk_kept hR1 hK2 (fun f => f)
      have hKb := trs hKa hK2
      have HK2 := hide (HKw.out.same hK2)
      have hxl : (bytesB b).length ≤ 400 := by have := inner_len hcb; unfold bytesB; rw [List.length_append, beN_len]; omega
      obtain ⟨e0, he0, he1⟩ := ends_form segs hll
      have HT := hide (by have := HK2.out; rw [he0] at this; exact torn_any this (by omega))
      have HTD := hide (show tornD ⟨segs, syn⟩ = decide ((wholeS (lastS segs)).length < (lastS segs).length) from rfl)
      clear hcb hKa hK2 hR1 hB1 b0 b1 HKw he0
      generalize bytesB b = x at *
      generalize (wholeS (lastS segs)).length = nw at *
      by_cases ht : nw < (lastS segs).length
      · rw [decide_eq_true ht] at HT HTD
        have HE := hide (show appendD ⟨segs, syn⟩ b = .error 4 by rw [HSY.out, HTD.out]; rfl)
        clear ht HSY HTD
        go_wp2_with fail
        refine HT.out.mono ?_
        rintro r w3 ⟨rfl, hK3⟩
        have hR := blk_kept hR2 hK3 (fun f => f)
        have hKc := trs hKb hK3
        have p2 := fro2 hR
        obtain ⟨p0, p1⟩ := blk2 hR
        obtain ⟨q0, q1⟩ := blk2 (set2b hR (.slice none 0 0) (.int .i64 0))
        have hKp : Same w ((w3.setCell ⟨w.heap.size + 1 + 1, 0, none⟩ (.slice none 0 0)).setCell ⟨w.heap.size + 1 + 1, 1, none⟩ (.int .i64 0)) := (hKc.setCell (fun h => absurd h (by show ¬ w.heap.size + 1 + 1 < w.heap.size; omega)) _).setCell (fun h => absurd h (by show ¬ w.heap.size + 1 + 1 < w.heap.size; omega)) _
        clear hKc hKb hK3 HK2 HT hR2
        go_wp2_with fail
        exact bodyPost_ret (v := .tuple #[diV (.slice none 0 0) 0, .int .i64 4]) (by simp [results, Try.results17, go_sem, q0, q1]) rfl (.inr ⟨4, HE.out, by decide, rfl, hKp⟩)
      · rw [decide_eq_false ht] at HT HTD
        have HPD := hide (show appendD ⟨segs, syn⟩ b = if (putP segs syn x).1 ≠ 0 then .error (putP segs syn x).1 else .ok ⟨(putP segs syn x).2.1, (putP segs syn x).2.2⟩ by rw [HSY.out, HTD.out, ← putP_D]; rfl)
        clear ht HSY HTD
        go_wp2_with fail
        refine HT.out.mono ?_
        rintro r w3 ⟨rfl, hK3⟩
        have hR3 := blk_kept hR2 hK3 (fun f => f)
        have hKc := trs hKb hK3
        have HPU := hide (put_any (HK2.out.same hK3) x hxl (by have := hK3.size; have := HK2.out.hB; have := (Array.getElem?_eq_some_iff.1 (HK2.out.same hK3).blk).1; omega))
        obtain ⟨code, hcode⟩ : ∃ c, c = (putP segs syn x).1 := ⟨_, rfl⟩
        obtain ⟨segs', hsegs⟩ : ∃ c, c = (putP segs syn x).2.1 := ⟨_, rfl⟩
        obtain ⟨syn', hsyn⟩ : ∃ c, c = (putP segs syn x).2.2 := ⟨_, rfl⟩
        rw [← hcode, ← hsegs, ← hsyn] at HPU HPD
        clear hK3 hKb hR2 HK2 HT hcode hsegs hsyn
        by_cases hc0 : code = 0
        · subst hc0
          have HE := hide (show appendD ⟨segs, syn⟩ b = .ok ⟨segs', syn'⟩ by rw [HPD.out, if_neg (by simp)])
          go_wp2_with fail
          refine HPU.out.mono ?_
          rintro r w4 ⟨rfl, sv', hkw4, hK4⟩
          have hKd : Kept (w.heap.size ≤ ·) w w4 := (Same.to (X := (w.heap.size ≤ ·)) hKc).trans hK4 (fun i _ hi => by have h1 : W.heap.size ≤ i := hi; omega)
          have hR4 := blk_kept hR3 hK4 (fun h => by have h1 : W.heap.size ≤ w.heap.size + 1 + 1 := h; omega)
          obtain ⟨p0, p1⟩ := blk2 hR4
          have p2 := fro2 hR4
          obtain ⟨c0, c1, c2, c3, cf⟩ := blk4 hkw4.blk
          obtain ⟨sa, sc, hsv⟩ := own_slice hkw4.own
          subst hsv
          have hst := kw_sts hkw4
          obtain ⟨q0, q1⟩ := blk2 (set2b hR4 (.slice sa segs'.length sc) (.int .i64 syn'))
          have hKs : Kept (· = w.heap.size + 1 + 1) w4 ((w4.setCell ⟨w.heap.size + 1 + 1, 0, none⟩ (.slice sa segs'.length sc)).setCell ⟨w.heap.size + 1 + 1, 1, none⟩ (.int .i64 syn')) := ((Kept.refl _ w4).setB 0 _).setB 1 _
          have HST := hide ((hst.keep hKs (fun k hk e => by have h1 : W.heap.size ≤ k := hk; omega)).mono (Q := (w.heap.size ≤ ·)) (fun k _ hk => by have h1 : W.heap.size ≤ k := hk; omega))
          have HKF : Hid (Same w ((w4.setCell ⟨w.heap.size + 1 + 1, 0, none⟩ (.slice sa segs'.length sc)).setCell ⟨w.heap.size + 1 + 1, 1, none⟩ (.int .i64 syn'))) := kept_up (hKd.trans hKs (fun i _ hi => by subst hi; omega))
          clear hkw4 hK4 hst hKs hR3 hKd hR4 hKc
          go_wp2_with fail
          exact bodyPost_ret (v := .tuple #[diV (.slice sa segs'.length sc) syn', .int .i64 0]) (by simp [results, Try.results17, go_sem, q0, q1]) rfl (.inl ⟨_, _, HE.out, rfl, HST.out, HKF.out⟩)
        · have HE := hide (show appendD ⟨segs, syn⟩ b = .error code by rw [HPD.out, if_pos hc0])
          have hc' : (code != 0) = true := by simp [hc0]
          have HC := hide hc0
          clear hc0
          go_wp2_with fail
          refine HPU.out.mono ?_
          rintro r w4 ⟨rfl, sv', _, hK4⟩
          have hKd : Kept (w.heap.size ≤ ·) w w4 := (Same.to (X := (w.heap.size ≤ ·)) hKc).trans hK4 (fun i _ hi => by have h1 : W.heap.size ≤ i := hi; omega)
          have hKd2 := kept_up hKd
          have hR := blk_kept hR3 hK4 (fun h => by have h1 : W.heap.size ≤ w.heap.size + 1 + 1 := h; omega)
          have p2 := fro2 hR
          obtain ⟨p0, p1⟩ := blk2 hR
          obtain ⟨q0, q1⟩ := blk2 (set2b hR (.slice none 0 0) (.int .i64 0))
          have hKp : Same w ((w4.setCell ⟨w.heap.size + 1 + 1, 0, none⟩ (.slice none 0 0)).setCell ⟨w.heap.size + 1 + 1, 1, none⟩ (.int .i64 0)) := (hKd2.setCell (fun h => absurd h (by show ¬ w.heap.size + 1 + 1 < w.heap.size; omega)) _).setCell (fun h => absurd h (by show ¬ w.heap.size + 1 + 1 < w.heap.size; omega)) _
          clear hKd2 hKd hKc hK4 hR3
          go_wp2_with fail
          exact bodyPost_ret (v := .tuple #[diV (.slice none 0 0) 0, .int .i64 code]) (by simp [results, Try.results17, go_sem, q0, q1]) rfl (.inr ⟨code, HE.out, HC.out, rfl, hKp⟩)

end Go.Proofs.Ytillhpepfpldcaa
