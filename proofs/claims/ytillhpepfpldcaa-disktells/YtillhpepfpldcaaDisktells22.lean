import Derived.Test.YtillhpepfpldcaaDisktells21
import Derived.Test.YtillhpepfpldcaaDisktells12
/- disk.Check, Sync, Open, Append, Crash. -/
namespace Go.Proofs.Ytillhpepfpldcaa
open Go.RowKit

/-- what a call of a disk answers -/
def DAns (x : Except Int DiskT) (w : World) (r : Ending) (w' : World) : Prop :=
  (∃ d' sv, x = .ok d' ∧ r = .returned (.tuple #[diV sv d'.synced, .int .i64 0]) ∧ StSl (w.heap.size ≤ ·) w' sv d'.segs ∧ Same w w') ∨
  (∃ e, x = .error e ∧ e ≠ 0 ∧ r = .returned (.tuple #[diV (.slice none 0 0) 0, .int .i64 e]) ∧ Same w w')

theorem ends_form (segs : List (List UInt8)) (h : (lastS segs).length ≤ 400) : ∃ e0, endsOf segs = e0 ++ [(wholeS (lastS segs)).length] ∧ e0.length ≤ 1000 := by
  obtain ⟨e0, h1, h2⟩ := endsB_last (segT (lastS segs)).1 0
  refine ⟨e0, by unfold endsOf; rw [h1, Nat.zero_add]; rfl, ?_⟩
  have h3 := flatB_ge (segT (lastS segs)).1
  have h4 := whole_le (lastS segs)
  unfold wholeS at h4
  omega

theorem kw_sts {B : Nat} {w : World} {g : Nat} {sv bv ev : Value} {segs : List (List UInt8)} {syn : Int} {bp : List (BatchT × Value)} {es : List Nat} (h : KW B w g sv bv ev segs syn bp es) : StSl (B ≤ ·) w sv segs :=
  (own_sts h.own (by have := h.len; unfold maxLen; omega)).mono (fun _ _ hk => hk.2)

theorem dCheck_any (P : Nat → Prop) (w : World) (v : Value) (d : DiskT) (h : StSl P w v d.segs) :
    Calls Try.prog 26 #[diV v d.synced] w fun r w' => r = .returned (.int .i64 (checkD d)) ∧ Same w w' := by
  obtain ⟨segs, syn⟩ := d
  simp only at h ⊢
  have HKP := hide (fun wx (hk : Same w wx) => (kept_any P wx v ⟨segs, syn⟩ (h.same hk)).mono (R' := fun r w' => ∃ x, r = .returned (.tuple #[.pointer x, .int .i64 (checkD ⟨segs, syn⟩)]) ∧ Same wx w') (by
    rintro r w' (⟨_, rfl, hK⟩ | ⟨hc, g, sv, bv, ev, bp, rfl, _, _, hK⟩)
    · exact ⟨_, rfl, hK⟩
    · rw [hc]; exact ⟨_, rfl, hK⟩))
  obtain ⟨ao, cap, rfl⟩ := h.form
  clear h
  generalize checkD ⟨segs, syn⟩ = no at *
  go_enter Try.func26, Try.ntmps26
  go_wp2_with fail
  refine (HKP.out _ (by repeat' (first | assumption | exact Kept.refl _ _ | refine Kept.drewN ?_ _ | refine Kept.drew ?_ | refine Kept.alloc ?_ _ | refine Kept.setB ?_ _ _))).mono ?_
  rintro r w1 ⟨x, rfl, hK1⟩
  go_wp2_with fail
  go_ret
  exact ⟨rfl, hK1.unA⟩

set_option maxRecDepth 20000 in
set_option maxHeartbeats 1600000 in
theorem dSync_any (P : Nat → Prop) (w : World) (v : Value) (d : DiskT) (h : StSl P w v d.segs) :
    Calls Try.prog 18 #[diV v d.synced] w fun r w' => DAns (syncD d) w r w' := by
  obtain ⟨segs, syn⟩ := d
  simp only at h ⊢
  have HKP := hide (fun wx (hk : Same w wx) => kept_any P wx v ⟨segs, syn⟩ (h.same hk))
  have HSY := hide (show syncD ⟨segs, syn⟩ = if checkD ⟨segs, syn⟩ ≠ 0 then .error (checkD ⟨segs, syn⟩) else if tornD ⟨segs, syn⟩ then .error 4 else .ok ⟨segs, (lastS segs).length⟩ from rfl)
  obtain ⟨ao, cap, rfl⟩ := h.form
  clear h
  obtain ⟨W, hW⟩ : ∃ W, W = (w.alloc (.cells #[.slice ao segs.length cap, .int .i64 syn] 38)).alloc (.cells #[.slice none 0 0, .int .i64 0] 38) := ⟨_, rfl⟩
  have hres : W.heap[w.heap.size + 1]? = some (.cells #[.slice none 0 0, .int .i64 0] 38 (0, 0)) := by rw [hW]; exact al_new _ _ _
  have hKW : Same w W := by rw [hW]; exact ((Kept.refl _ w).alloc _).alloc _
  have hRW : w.heap.size + 1 < W.heap.size := (Array.getElem?_eq_some_iff.1 hres).1
  go_enter Try.func18, Try.ntmps18
  go_wp2_with fail
  rw [← hW]
  clear hW
  refine (HKP.out _ hKW).mono ?_
  rintro r w1 (⟨hc, rfl, hK1⟩ | ⟨hc, g, sv, bv, ev, bp, rfl, hkw, hbp, hK1⟩)
  · have hR1 := blk_kept hres hK1 (fun f => f)
    obtain ⟨p0, p1⟩ := blk2 hR1
    have p2 := fro2 hR1
    obtain ⟨q0, q1⟩ := blk2 (set2b hR1 (.slice none 0 0) (.int .i64 0))
    have hKp : Same w ((w1.setCell ⟨w.heap.size + 1, 0, none⟩ (.slice none 0 0)).setCell ⟨w.heap.size + 1, 1, none⟩ (.int .i64 0)) := ((hKW.trans hK1 (fun _ _ f => f)).setCell (fun h => absurd h (by show ¬ w.heap.size + 1 < w.heap.size; omega)) _).setCell (fun h => absurd h (by show ¬ w.heap.size + 1 < w.heap.size; omega)) _
    have hc' : (checkD ⟨segs, syn⟩ != 0) = true := by simp [hc]
    rw [if_pos hc] at HSY
    have HC := hide hc
    clear hc hKW hK1 hres
    generalize checkD ⟨segs, syn⟩ = no at *
    go_wp2_with fail
    exact bodyPost_ret (v := .tuple #[diV (.slice none 0 0) 0, .int .i64 no]) (by simp [results, Try.results18, go_sem, q0, q1]) rfl (.inr ⟨no, HSY.out, HC.out, rfl, hKp⟩)
  · rw [if_neg (by simp [hc])] at HSY
    obtain ⟨e0, he0, he1⟩ := ends_form segs (last_len hkw)
    rw [he0] at hkw
    have HT := hide (torn_any hkw (by omega))
    have HKw := hide hkw
    have hR1 := blk_kept hres hK1 (fun f => f)
    have HKa := hide (hKW.trans hK1 (fun _ _ f => f))
    have hRg : w.heap.size + 1 < g := by have := hkw.hB; omega
    have HTD := hide (show tornD ⟨segs, syn⟩ = decide ((wholeS (lastS segs)).length < (lastS segs).length) from rfl)
    clear hkw hKW hK1 hres hc he0
    generalize (wholeS (lastS segs)).length = nw at *
    by_cases ht : nw < (lastS segs).length
    · rw [decide_eq_true ht] at HT HTD
      have HE := hide (show syncD ⟨segs, syn⟩ = .error 4 by rw [HSY.out, HTD.out]; rfl)
      clear ht HSY HTD
      go_wp2_with fail
      refine HT.out.mono ?_
      rintro r w2 ⟨rfl, hK2⟩
      have hR2 := blk_kept hR1 hK2 (fun f => f)
      obtain ⟨p0, p1⟩ := blk2 hR2
      have p2 := fro2 hR2
      obtain ⟨q0, q1⟩ := blk2 (set2b hR2 (.slice none 0 0) (.int .i64 0))
      have hKp : Same w ((w2.setCell ⟨w.heap.size + 1, 0, none⟩ (.slice none 0 0)).setCell ⟨w.heap.size + 1, 1, none⟩ (.int .i64 0)) := ((HKa.out.trans hK2 (fun _ _ f => f)).setCell (fun h => absurd h (by show ¬ w.heap.size + 1 < w.heap.size; omega)) _).setCell (fun h => absurd h (by show ¬ w.heap.size + 1 < w.heap.size; omega)) _
      clear hK2 hR1
      go_wp2_with fail
      exact bodyPost_ret (v := .tuple #[diV (.slice none 0 0) 0, .int .i64 4]) (by simp [results, Try.results18, go_sem, q0, q1]) rfl (.inr ⟨4, HE.out, by decide, rfl, hKp⟩)
    · rw [decide_eq_false ht] at HT HTD
      have HE := hide (show syncD ⟨segs, syn⟩ = .ok ⟨segs, (lastS segs).length⟩ by rw [HSY.out, HTD.out]; rfl)
      clear ht HSY HTD
      go_wp2_with fail
      refine HT.out.mono ?_
      rintro r w2 ⟨rfl, hK2⟩
      have hR2 := blk_kept hR1 hK2 (fun f => f)
      have HSn := hide (sync_any (HKw.out.same hK2))
      have HKb := hide (HKa.out.trans hK2 (fun _ _ f => f))
      clear hK2 hR1 HKw HKa
      go_wp2_with fail
      refine HSn.out.mono ?_
      rintro r w3 ⟨rfl, hkw3, hK3⟩
      have hR3 := blk_kept hR2 hK3 (fun h => by have h1 : W.heap.size ≤ w.heap.size + 1 := h; omega)
      obtain ⟨p0, p1⟩ := blk2 hR3
      have p2 := fro2 hR3
      obtain ⟨c0, c1, c2, c3, cf⟩ := blk4 hkw3.blk
      obtain ⟨sa, sc, hsv⟩ := own_slice hkw3.own
      subst hsv
      have hst := kw_sts hkw3
      obtain ⟨q0, q1⟩ := blk2 (set2b hR3 (.slice sa segs.length sc) (.int .i64 (lastS segs).length))
      have hKs : Kept (· = w.heap.size + 1) w3 ((w3.setCell ⟨w.heap.size + 1, 0, none⟩ (.slice sa segs.length sc)).setCell ⟨w.heap.size + 1, 1, none⟩ (.int .i64 (lastS segs).length)) := ((Kept.refl _ w3).setB 0 _).setB 1 _
      have HST := hide ((hst.keep hKs (fun k hk e => by have h1 : W.heap.size ≤ k := hk; omega)).mono (Q := (w.heap.size ≤ ·)) (fun k _ hk => by have h1 : W.heap.size ≤ k := hk; omega))
      have HKF : Hid (Same w ((w3.setCell ⟨w.heap.size + 1, 0, none⟩ (.slice sa segs.length sc)).setCell ⟨w.heap.size + 1, 1, none⟩ (.int .i64 (lastS segs).length))) := kept_up (((Same.to HKb.out).trans (X := (w.heap.size ≤ ·)) hK3 (fun i _ hi => by have h1 : W.heap.size ≤ i := hi; omega)).trans hKs (fun i _ hi => by subst hi; omega))
      clear hkw3 hK3 hst hKs hR2
      go_wp2_with fail
      exact bodyPost_ret (v := .tuple #[diV (.slice sa segs.length sc) (lastS segs).length, .int .i64 0]) (by simp [results, Try.results18, go_sem, q0, q1]) rfl (.inl ⟨_, _, HE.out, rfl, HST.out, HKF.out⟩)

end Go.Proofs.Ytillhpepfpldcaa

/- disk.Open, Crash. -/
namespace Go.Proofs.Ytillhpepfpldcaa
open Go.RowKit

theorem bp_get {l : List (BatchT × Value)} : ∀ {i : Nat} {p : BatchT × Value}, l[i]? = some p → (bpCells l)[i * 2]? = some (.int .i64 p.1.number) ∧ (bpCells l)[i * 2 + 1]? = some p.2 := by
  induction l with
  | nil => intro i p h; simp at h
  | cons x r ih =>
    intro i p h
    simp only [bpCells, List.flatMap_cons]
    cases i with
    | zero => simp at h; subst h; exact ⟨rfl, rfl⟩
    | succ i =>
      have := ih (i := i) (p := p) (by simpa using h)
      unfold bpCells at this
      rw [show (i + 1) * 2 = i * 2 + 1 + 1 by omega]
      exact ⟨this.1, this.2⟩

theorem kw_bas {B : Nat} {w : World} {g : Nat} {sv bv ev : Value} {segs : List (List UInt8)} {syn : Int} {bp : List (BatchT × Value)} {es : List Nat} (h : KW B w g sv bv ev segs syn bp es) (hl : bp.length ≤ 1000000) {l : List BatchT} (he : bp.map Prod.fst = l) : BaSl (B ≤ ·) w bv l := by
  subst he
  rcases h.bat.2 with ⟨rfl, h0⟩ | ⟨b, cap, cur, rfl, hb, hh, hc1, hc2, hc3, htk⟩
  · obtain rfl : bp = [] := List.length_eq_zero_iff.1 h0
    exact BaSl.nil _ _
  · have hown : w.ownsRow B 24 2 (.slice (some ⟨b, 0, none⟩) bp.length cap) bp.length (bpCells bp) := h.bat
    refine ⟨some ⟨b, 0, none⟩, cap, by rw [List.length_map], by rw [List.length_map]; exact ⟨by unfold maxLen; omega, hc1, fun e => (by cases e)⟩, fun i x hx => ?_⟩
    rw [List.getElem?_map] at hx
    cases hp : bp[i]? with
    | none => rw [hp] at hx; cases hx
    | some p =>
      rw [hp] at hx
      simp only [Option.map_some, Option.some.injEq] at hx
      subst hx
      obtain ⟨g1, g2⟩ := bp_get hp
      have hi : i < bp.length := (List.getElem?_eq_some_iff.1 hp).1
      have c1 := World.ownsRow.cellAt hown (i * 2) (by omega)
      have c2 := World.ownsRow.cellAt hown (i * 2 + 1) (by omega)
      rw [g1] at c1
      rw [g2] at c2
      exact ⟨b, 0, p.2, rfl, hb, by rw [Nat.zero_add]; exact c1, by rw [Nat.zero_add]; exact c2, (h.evs p (List.mem_of_getElem? hp)).mono (fun _ _ hk => hk.1)⟩

theorem bats_len {segs : List (List UInt8)} (h8 : segs.length ≤ 8) (he : ∀ s ∈ segs, s.length ≤ 400) : (batchesD segs).length ≤ 1600 := by
  have key : ∀ (l : List (List UInt8)), (∀ s ∈ l, s.length ≤ 400) → (batchesD l).length ≤ 200 * l.length := by
    intro l
    induction l with
    | nil => intro _; simp [batchesD]
    | cons s r ih =>
      intro h
      have h1 := ih (fun x hx => h x (by simp [hx]))
      have h2 := flatB_ge (segT s).1
      have h3 := whole_le s
      have h4 := h s (by simp)
      unfold wholeS at h3
      unfold batchesD at h1 ⊢
      rw [List.flatMap_cons, List.length_append, List.length_cons]
      omega
  have := key segs he
  omega

set_option maxRecDepth 20000 in
set_option maxHeartbeats 1600000 in
theorem dCrash_any (P : Nat → Prop) (w : World) (v : Value) (d : DiskT) (keep : Int) (hk63 : keep ≤ 9223372036854775807) (h : StSl P w v d.segs) :
    Calls Try.prog 19 #[diV v d.synced, .int .i64 keep] w fun r w' => DAns (crashD d keep) w r w' := by
  obtain ⟨segs, syn⟩ := d
  simp only at h ⊢
  have HKP := hide (fun wx (hk : Same w wx) => kept_any P wx v ⟨segs, syn⟩ (h.same hk))
  have HSY := hide (show crashD ⟨segs, syn⟩ keep = if checkD ⟨segs, syn⟩ ≠ 0 then .error (checkD ⟨segs, syn⟩) else if keep < 0 then .error 3 else .ok (cutD ⟨segs, syn⟩ keep) from rfl)
  obtain ⟨ao, cap, rfl⟩ := h.form
  clear h
  obtain ⟨W, hW⟩ : ∃ W, W = (w.alloc (.cells #[.slice ao segs.length cap, .int .i64 syn] 38)).alloc (.cells #[.slice none 0 0, .int .i64 0] 38) := ⟨_, rfl⟩
  have hres : W.heap[w.heap.size + 1]? = some (.cells #[.slice none 0 0, .int .i64 0] 38 (0, 0)) := by rw [hW]; exact al_new _ _ _
  have hKW : Same w W := by rw [hW]; exact ((Kept.refl _ w).alloc _).alloc _
  have hRW : w.heap.size + 1 < W.heap.size := (Array.getElem?_eq_some_iff.1 hres).1
  have trs : ∀ {a b c : World}, Same a b → Same b c → Same a c := fun h k => h.trans k (fun _ _ f => f)
  go_enter Try.func19, Try.ntmps19
  go_wp2_with fail
  rw [← hW]
  clear hW
  refine (HKP.out _ hKW).mono ?_
  rintro r w1 (⟨hc, rfl, hK1⟩ | ⟨hc, g, sv, bv, ev, bp, rfl, hkw, hbp, hK1⟩)
  · have hR := blk_kept hres hK1 (fun f => f)
    have hKa := trs hKW hK1
    have hc' : (checkD ⟨segs, syn⟩ != 0) = true := by simp [hc]
    rw [if_pos hc] at HSY
    have HC := hide hc
    clear hc hKW hK1 hres
    generalize checkD ⟨segs, syn⟩ = no at *
    have p2 := fro2 hR
    obtain ⟨p0, p1⟩ := blk2 hR
    obtain ⟨q0, q1⟩ := blk2 (set2b hR (.slice none 0 0) (.int .i64 0))
    have hKp : Same w ((w1.setCell ⟨w.heap.size + 1, 0, none⟩ (.slice none 0 0)).setCell ⟨w.heap.size + 1, 1, none⟩ (.int .i64 0)) := (hKa.setCell (fun h => absurd h (by show ¬ w.heap.size + 1 < w.heap.size; omega)) _).setCell (fun h => absurd h (by show ¬ w.heap.size + 1 < w.heap.size; omega)) _
    clear hKa
    go_wp2_with fail
    exact bodyPost_ret (v := .tuple #[diV (.slice none 0 0) 0, .int .i64 no]) (by simp [results, Try.results19, go_sem, q0, q1]) rfl (.inr ⟨no, HSY.out, HC.out, rfl, hKp⟩)
  · rw [if_neg (by simp [hc])] at HSY
    have hR := blk_kept hres hK1 (fun f => f)
    have hKa := trs hKW hK1
    by_cases hk : keep < 0
    · rw [if_pos hk] at HSY
      have p2 := fro2 hR
      obtain ⟨p0, p1⟩ := blk2 hR
      obtain ⟨q0, q1⟩ := blk2 (set2b hR (.slice none 0 0) (.int .i64 0))
      have hKp : Same w ((w1.setCell ⟨w.heap.size + 1, 0, none⟩ (.slice none 0 0)).setCell ⟨w.heap.size + 1, 1, none⟩ (.int .i64 0)) := (hKa.setCell (fun h => absurd h (by show ¬ w.heap.size + 1 < w.heap.size; omega)) _).setCell (fun h => absurd h (by show ¬ w.heap.size + 1 < w.heap.size; omega)) _
      clear hKW hK1 hres hc hkw hKa
      go_wp2_with fail
      exact bodyPost_ret (v := .tuple #[diV (.slice none 0 0) 0, .int .i64 3]) (by simp [results, Try.results19, go_sem, q0, q1]) rfl (.inr ⟨3, HSY.out, by decide, rfl, hKp⟩)
    · rw [if_neg hk] at HSY
      have HKw := hide hkw
      have hll := last_len hkw
      have hz := bsize (lastS segs)
      -- Synced is within the last segment
      obtain ⟨sn, hsn, hsl⟩ : ∃ sn : Nat, syn = sn ∧ sn ≤ (lastS segs).length := by
        cases right_of hc with
        | none => exact ⟨0, rfl, Nat.zero_le _⟩
        | some i s n k h1 h2 h3 h4 h5 h6 => exact ⟨n, rfl, by rw [lastS_app]; exact end_le h6⟩
      subst hsn
      obtain ⟨m, hm⟩ : ∃ m : Nat, (m : Int) = (sn : Int) + min keep (((lastS segs).length : Int) - (sn : Int)) := ⟨((sn : Int) + min keep (((lastS segs).length : Int) - (sn : Int))).toNat, by omega⟩
      have hml : m ≤ (lastS segs).length := by omega
      have HM := hide (show cutD ⟨segs, sn⟩ keep = ⟨setLastS segs ((lastS segs).take m), sn⟩ by unfold cutD; simp only; rw [← hm]; rfl)
      have HL := hide (fun wx (hx : Same w1 wx) => last_any (hkw.same hx))
      have HCU := hide (fun wx (hx : Same w1 wx) => cut_any (hkw.same hx) m hml)
      obtain ⟨c0, c1, c2, c3, cf⟩ := blk4 hkw.blk
      obtain ⟨sa, sc, hsv⟩ := own_slice hkw.own
      subst hsv
      have hKc : Same w1 w1 := Kept.refl _ _
      have HALL := hide (fun wy (hy : Same w1 wy) => (hy.cell c1 (fun f => f) : wy.cell? ⟨g, 1, none⟩ = _))
      have HM2 := hide hm
      have hwr : IntKind.i64.wrap (((lastS segs).length : Int) - (sn : Int)) = ((lastS segs).length : Int) - (sn : Int) := by rw [IntKind.wrap_i64]; omega
      have hwr2 : IntKind.i64.wrap ((sn : Int) + min keep (((lastS segs).length : Int) - (sn : Int))) = m := by rw [← hm, IntKind.wrap_i64]; omega
      clear hkw hbp hc hKW hK1 hres c0 c1 c2 c3 cf hm
      generalize lastS segs = s at *
      obtain ⟨c1⟩ : Nonempty (w1.cell? ⟨g, 1, none⟩ = some (.int .i64 sn)) := ⟨HALL.out _ (Kept.refl _ _)⟩
      go_wp2_with fail
      go_region_held3 (fun w' => w'.cell? ⟨g, 1, none⟩ = some (.int .i64 sn)) (go_keep) (first
        | (go_at_call 52; refine (HL.out _ (by first | exact hKc.drewN _ | exact hKc.drew | exact hKc)).mono ?_; rintro e w9 ⟨rfl, n9, hw9⟩; have hKc := trs (by first | exact hKc.drewN _ | exact hKc.drew | exact hKc) (same_drewN hw9); have c1 := HALL.out _ hKc; clear hw9)
        | (go_at_call 47; refine (HCU.out _ (by first | exact hKc.drewN _ | exact hKc.drew | exact hKc)).mono ?_; rintro e w10 ⟨rfl, hkw10, hK10⟩; have c1 := (blk4 hkw10.blk).2.1))
      all_goals
        have HE := hide (show crashD ⟨segs, sn⟩ keep = .ok ⟨setLastS segs (s.take m), sn⟩ by rw [HSY.out, HM.out])
        have hKd : Kept (w.heap.size ≤ ·) w w10 := (Same.to (X := (w.heap.size ≤ ·)) (trs hKa (by first | exact hKc | exact hKc.drewN _ | exact hKc.drew))).trans hK10 (fun i _ hi => by have h1 : W.heap.size ≤ i := hi; omega)
        have hR3 : w10.heap[w.heap.size + 1]? = some (.cells #[.slice none 0 0, .int .i64 0] 38 (0, 0)) := blk_kept (blk_kept hR hKc (fun f => f)) hK10 (fun h => by have h1 : W.heap.size ≤ w.heap.size + 1 := h; omega)
        obtain ⟨p0, p1⟩ := blk2 hR3
        have p2 := fro2 hR3
        obtain ⟨d0, d1, d2, d3, df⟩ := blk4 hkw10.blk
        have hst := kw_sts hkw10
        obtain ⟨q0, q1⟩ := blk2 (set2b hR3 (.slice sa segs.length sc) (.int .i64 sn))
        have hKs : Kept (· = w.heap.size + 1) w10 ((w10.setCell ⟨w.heap.size + 1, 0, none⟩ (.slice sa segs.length sc)).setCell ⟨w.heap.size + 1, 1, none⟩ (.int .i64 sn)) := ((Kept.refl _ w10).setB 0 _).setB 1 _
        have HST := hide ((hst.keep hKs (fun k hk e => by have h1 : W.heap.size ≤ k := hk; omega)).mono (Q := (w.heap.size ≤ ·)) (fun k _ hk => by have h1 : W.heap.size ≤ k := hk; omega))
        have HKF : Hid (Same w ((w10.setCell ⟨w.heap.size + 1, 0, none⟩ (.slice sa segs.length sc)).setCell ⟨w.heap.size + 1, 1, none⟩ (.int .i64 sn))) := kept_up (hKd.trans hKs (fun i _ hi => by subst hi; omega))
        clear hkw10 hK10 hst hKs hR hKd HL HCU HALL hKc hKa
        go_wp2_with fail
        exact bodyPost_ret (v := .tuple #[diV (.slice sa segs.length sc) sn, .int .i64 0]) (by simp [results, Try.results19, go_sem, q0, q1]) rfl (.inl ⟨_, _, HE.out, rfl, HST.out, HKF.out⟩)

end Go.Proofs.Ytillhpepfpldcaa
