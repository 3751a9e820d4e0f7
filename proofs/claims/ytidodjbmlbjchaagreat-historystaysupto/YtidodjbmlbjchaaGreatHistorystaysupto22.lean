import Derived.Test.YtidodjbmlbjchaaGreatHistorystaysupto20
import Derived.Test.YtidodjbmlbjchaaGreatHistorystaysupto21
import Derived.Test.YtidodjbmlbjchaaGreatHistorystaysupto17
/- state's wrongThing. -/
namespace Go.Proofs.YtidodjbmlbjchaaGreat
open Go.RowKit

theorem wrongCell_asks (w : World) : AsksAt w 65 #[] wrongC := by
  intro wx f c ai ni ci _ hids
  exact wrongCell_any wx f c _ anyB hids

theorem enters_ec (args : Array Value) (w : World) : (callFunc 62 args).run Tryz.prog w = .ok (.enter 62 args) w := by kernel_rfl

def prevT (l : List ThingT) (i : Nat) : Option ThingT := if i = 0 then none else l[i - 1]?

theorem eachT_one (types : List TypeT) (ask : FieldT → CellT → Int) (t : ThingT) : eachT types ask [t] = eachC ask (fieldsOf types t.ty) t.cells := by
  rw [eachT, eachT]
  split
  · rfl
  · rename_i h; exact (Decidable.of_not_not h).symm

def lastE (p : Option ThingT) (t : ThingT) : Int := match p with | none => 0 | some q => if aheadT q t then 0 else 4
theorem lastE_ord (p t : ThingT) : (if ordI p.ty p.id t.ty t.id < 0 then (0 : Int) else 4) = lastE (some p) t := by
  show _ = if aheadT p t = true then (0 : Int) else 4
  have h := ordI_neg p t.ty t.id
  by_cases ha : ordI p.ty p.id t.ty t.id < 0
  · rw [if_pos ha, if_pos (show aheadT p t = true from h.1 ha)]
  · rw [if_neg ha, if_neg (show ¬ aheadT p t = true from fun e => ha (h.2 e))]
theorem wrongTh_eq (types : List TypeT) (p : Option ThingT) (t : ThingT) : wrongTh types p t = if isIx t.ty types.length = false then 5 else if isIdT t.id = false then 3 else if t.cells.length ≠ (fieldsOf types t.ty).length then 1 else if eachC wrongC (fieldsOf types t.ty) t.cells ≠ 0 then eachC wrongC (fieldsOf types t.ty) t.cells else lastE p t := by
  unfold wrongTh
  cases p <;> rfl

set_option maxRecDepth 20000 in
set_option maxHeartbeats 6400000 in
theorem wrongThing_any (w : World) (vt vh : Value) (types : List TypeT) (l : List ThingT) (i : Nat) (hi : i < l.length) (hl : l.length ≤ 1000) (ht : TypSl anyB w vt types) (hh : ThgSl anyB w vh l) :
    Calls Tryz.prog 42 #[stV vt vh, .int .i64 i] w fun e w' => e = .returned (.int .i64 (wrongTh types (prevT l i) l[i])) ∧ Same w w' := by
  obtain ⟨at', ct, rfl, ⟨htm, htc⟩, _⟩ := id ht
  obtain ⟨ah, ch, rfl, ⟨_, hlc⟩, _⟩ := id hh
  obtain ⟨b, off, ac, nc, cc, rfl, _, c0, c1, c2, hnc, hcs⟩ := hh.at i hi
  have HONE := hide (fun wy (hy : Same w wy) => (hh.same hy).one i hi (ch - i) (by omega))
  obtain ⟨m, hm⟩ : ∃ m, wrongTh types (prevT l i) l[i] = m := ⟨_, rfl⟩
  rw [hm]
  have HPRV := hide (show ∀ (_ : 0 < i), prevT l i = some l[i - 1] from fun h0 => by rw [prevT, if_neg (by omega), List.getElem?_eq_getElem (by omega)])
  have HPR0 := hide (show ∀ (_ : i = 0), prevT l i = none from fun h0 => by rw [prevT, if_pos h0])
  obtain ⟨pv, hpv⟩ : ∃ pv, prevT l i = pv := ⟨_, rfl⟩
  rw [hpv] at hm HPRV HPR0
  clear hpv
  obtain ⟨t, het⟩ : ∃ t, t = l[i] := ⟨_, rfl⟩
  rw [← het] at c0 c1 hnc hcs hm HONE
  clear het
  have HT := hide ht
  have HH := hide hh
  have HNC := hide hnc
  have HM := hide hm
  rw [wrongTh_eq] at HM
  obtain ⟨q1, hq1⟩ : ∃ q, isIx t.ty types.length = q := ⟨_, rfl⟩
  obtain ⟨q2, hq2⟩ : ∃ q, isIdT t.id = q := ⟨_, rfl⟩
  have HQ1 := hide hq1
  have HII := hide isIndex_is
  have HID := hide isId_is
  rw [hq1, hq2] at HM
  have HQ2 := hide hq2
  obtain ⟨w2, hw2⟩ : ∃ w2, w2 = (w.alloc (.cells #[.slice at' types.length ct, .slice (some ⟨b, off, none⟩) l.length ch] 25)).alloc (.cells #[.int .i64 t.ty, .int .i64 t.id, .slice ac nc cc] 68) := ⟨_, rfl⟩
  obtain ⟨g1, hg1⟩ : ∃ g, g = w.heap.size := ⟨_, rfl⟩
  obtain ⟨g2, hg2⟩ : ∃ g, g = g1 + 1 := ⟨_, rfl⟩
  have HK2 : Hid (Same w w2) := hide (by rw [hw2]; exact ((Kept.refl _ w).alloc _).alloc _)
  have HB1 := hide (show w2.heap[g1]? = some (.cells #[.slice at' types.length ct, .slice (some ⟨b, off, none⟩) l.length ch] 25 (0, 0)) by
    rw [hw2, hg1]; exact new_kept ((Kept.refl (fun _ => False) _).alloc _) (fun f => f))
  have HB2 := hide (show w2.heap[g2]? = some (.cells #[.int .i64 t.ty, .int .i64 t.id, .slice ac nc cc] 68 (0, 0)) by
    have := new_kept (Kept.refl (fun _ => False) ((w.alloc (.cells #[.slice at' types.length ct, .slice (some ⟨b, off, none⟩) l.length ch] 25)).alloc (.cells #[.int .i64 t.ty, .int .i64 t.id, .slice ac nc cc] 68))) (fun f => f)
    rw [World.size_alloc] at this
    rw [hw2, hg2, hg1]; exact this)
  obtain ⟨s0, s1⟩ := blk2 HB1.out
  obtain ⟨t0, t1, t2⟩ := blk3 HB2.out
  have c0a := fun ob => ((Kept.refl (fun _ => False) w).alloc ob).cell c0 (fun f => f)
  have c1a := fun ob => ((Kept.refl (fun _ => False) w).alloc ob).cell c1 (fun f => f)
  have c2a := fun ob => ((Kept.refl (fun _ => False) w).alloc ob).cell c2 (fun f => f)
  clear hm hnc hcs ht hh hq1 hq2 c0 c1 c2
  go_enter Tryz.func42, Tryz.ntmps42
  go_upto_region 2 with fail
  rw [← hw2, ← hg1, ← hg2]
  clear hw2 hg1 hg2 c0a c1a c2a
  go_wp2_with fail
  refine (HII.out _ _ _ q1 HQ1.out).mono ?_
  rintro e w3 ⟨rfl, hw3⟩
  have hw3' := hw3.symm
  subst hw3'
  cases q1
  · have HF := hide (show 5 = m by rw [← HM.out, if_pos rfl])
    go_wp2_with fail
    go_ret
    exact ⟨ret_int HF.out, HK2.out⟩
  · go_wp2_with fail
    refine (HID.out _ _ q2 HQ2.out).mono ?_
    rintro e w3 ⟨rfl, hw3⟩
    have hw3' := hw3.symm
    subst hw3'
    cases q2
    · have HF := hide (show 3 = m by rw [← HM.out, if_neg (by decide), if_pos rfl])
      go_wp2_with fail
      go_ret
      exact ⟨ret_int HF.out, HK2.out⟩
    · have HM2 := hide (show (if t.cells.length ≠ (fieldsOf types t.ty).length then 1 else if eachC wrongC (fieldsOf types t.ty) t.cells ≠ 0 then eachC wrongC (fieldsOf types t.ty) t.cells else lastE pv t) = m by
        have h9 := HM.out
        rwa [if_neg (by decide), if_neg (by decide)] at h9)
      clear HM
      have hty : 0 ≤ t.ty ∧ t.ty < types.length := by
        have := HQ1.out
        simp only [isIx, Bool.and_eq_true, decide_eq_true_eq] at this
        exact this
      obtain ⟨k, hk⟩ : ∃ k : Nat, k = t.ty.toNat := ⟨_, rfl⟩
      have htk : t.ty = (k : Int) := by omega
      have hkl : k < types.length := by omega
      have HFO := hide (show fieldsOf types t.ty = types[k].fields by rw [fieldsOf, ← hk, List.getElem?_eq_getElem hkl])
      have HTY := hide hty
      rw [htk] at t0
      obtain ⟨bt, ot, af, nf, cf, rfl, y0, y1, hnf, hfl⟩ := (HT.out.same HK2.out).at k hkl
      have HNF := hide hnf
      clear hk htk hty hnf hfl
      have HEC := hide (fun wy (hy : Same w wy) (hcl : t.cells.length = (fieldsOf types t.ty).length) => eachCell_any wy _ _ types [t] 65 #[] wrongC (by intro args w; kernel_rfl) (HT.out.same hy) (HONE.out wy hy) (fun u hu => by simp at hu; subst hu; exact ⟨HTY.out, hcl⟩) (wrongCell_asks wy))
      by_cases hcl : nc = nf
      · have HCL := hide (show t.cells.length = (fieldsOf types t.ty).length by rw [HFO.out]; have := HNC.out; have := HNF.out; omega)
        have HM3 := hide (show (if eachC wrongC (fieldsOf types t.ty) t.cells ≠ 0 then eachC wrongC (fieldsOf types t.ty) t.cells else lastE pv t) = m by
          have h9 := HM2.out
          rwa [if_neg (not_not_intro HCL.out)] at h9)
        obtain ⟨mC, hmC⟩ : ∃ mC, eachC wrongC (fieldsOf types t.ty) t.cells = mC := ⟨_, rfl⟩
        have HMC := hide (show eachT types wrongC [t] = mC by rw [eachT_one, hmC])
        rw [hmC] at HM3
        clear hmC
        have hcb : ((nc : Int) != nf) = false := by simp [hcl]
        clear hcl HM2
        obtain ⟨i1, hi1⟩ : ∃ i1, i1 = i + 1 := ⟨_, rfl⟩
        have hwr : IntKind.i64.wrap ((i : Int) + 1) = (i1 : Int) := by rw [IntKind.wrap_i64]; omega
        have hj0 : (0 : Int) ≤ (i1 : Int) := by omega
        have hj1 : (i1 : Int) ≤ (ch : Int) := by omega
        have hj2 : i ≤ i1 := by omega
        have hj3 : i1 - i = 1 := by omega
        have hj4 : ¬ ch = i := by omega
        clear hi1
        obtain ⟨z0, z1⟩ := blk2 HB1.out
        obtain ⟨v0, v1, v2⟩ := blk3 HB2.out
        have HST8 := hide (fun wy (hy : Same w2 wy) => (⟨hy.cell z0 (fun f => f), hy.cell z1 (fun f => f)⟩ : wy.cell? ⟨g1, 0, none⟩ = some (.slice (some ⟨bt, ot, none⟩) types.length ct) ∧ wy.cell? ⟨g1, 1, none⟩ = some (.slice (some ⟨b, off, none⟩) l.length ch)))
        have HTT8 := hide (fun wy (hy : Same w2 wy) => (⟨hy.cell v0 (fun f => f), hy.cell v1 (fun f => f), hy.cell v2 (fun f => f)⟩ : wy.cell? ⟨g2, 0, none⟩ = some (.int .i64 t.ty) ∧ wy.cell? ⟨g2, 1, none⟩ = some (.int .i64 t.id) ∧ wy.cell? ⟨g2, 2, none⟩ = some (.slice ac nc cc)))
        clear z0 z1 v0 v1 v2
        go_wp2_with fail
        go_quiet (fail)
        go_wp2_with fail
        refine wp_region_noPanic ?_
        refine wp_till 9 (fun w' => w'.cell? ⟨g1, 0, none⟩ = some (.slice (some ⟨bt, ot, none⟩) types.length ct) ∧ w'.cell? ⟨g1, 1, none⟩ = some (.slice (some ⟨b, off, none⟩) l.length ch)) (by kernel_rfl) ?_ (fun hC0 => ?_)
        · exact ⟨s0, s1⟩
        refine till_any (i := 0) (v := ?v1) rfl (by kernel_rfl) (by kernel_rfl) (by kernel_rfl) (by kernel_rfl) (fun _ _ _ h => h) (Or.inl ⟨by rfl, ?hy1⟩) (fun _ => hC0) ?rest1
        case hy1 => (intro w hSw; (try dsimp only at hSw); go_simp <;> (with_reducible rfl))
        try simp only [Act.put, List.setIfInBounds_toArray]
        refine till_take (i := 1) (v := ?v2) rfl (by kernel_rfl) (by kernel_rfl) (by kernel_rfl) (by kernel_rfl) (fun _ _ _ h => h) (Or.inl ⟨by rfl, ?hy2⟩) hC0 ?rest2
        case hy2 => (intro w hSw; (try dsimp only at hSw); go_simp <;> (with_reducible rfl))
        try simp only [Act.put]
        refine till_any (i := 2) (v := ?v3) rfl (by kernel_rfl) (by kernel_rfl) (by kernel_rfl) (by kernel_rfl) (fun _ _ _ h => h) (Or.inl ⟨by rfl, ?hy3⟩) (fun _ => hC0) ?rest3
        case hy3 => (intro w hSw; (try dsimp only at hSw); go_simp <;> (with_reducible rfl))
        try simp only [Act.put]
        refine till_take (i := 3) (v := ?v4) rfl (by kernel_rfl) (by kernel_rfl) (by kernel_rfl) (by kernel_rfl) (fun _ _ _ h => h) (Or.inl ⟨by rfl, ?hy4⟩) hC0 ?rest4
        case hy4 => (intro w hSw; (try dsimp only at hSw); go_simp <;> (with_reducible rfl))
        try simp only [Act.put]
        refine till_any (i := 4) (v := ?v5) rfl (by kernel_rfl) (by kernel_rfl) (by kernel_rfl) (by kernel_rfl) (fun _ _ _ h => h) (Or.inl ⟨by rfl, ?hy5⟩) (fun _ => hC0) ?rest5
        case hy5 => (intro w hSw; (try dsimp only at hSw); go_simp <;> (with_reducible rfl))
        try simp only [Act.put]
        refine till_any (i := 5) (v := ?v6) rfl (by kernel_rfl) (by kernel_rfl) (by kernel_rfl) (by kernel_rfl) (fun _ _ _ h => h) (Or.inl ⟨by rfl, ?hy6⟩) (fun _ => hC0) ?rest6
        case hy6 => (intro w hSw; (try dsimp only at hSw); go_simp <;> (with_reducible rfl))
        try simp only [Act.put]
        refine till_any (i := 6) (v := ?v7) rfl (by kernel_rfl) (by kernel_rfl) (by kernel_rfl) (by kernel_rfl) (fun _ _ _ h => h) (Or.inl ⟨by rfl, ?hy7⟩) (fun _ => hC0) ?rest7
        case hy7 => (intro w hSw; (try dsimp only at hSw); go_simp <;> (with_reducible rfl))
        try simp only [Act.put]
        refine till_any (i := 7) (v := ?v8) rfl (by kernel_rfl) (by kernel_rfl) (by kernel_rfl) (by kernel_rfl) (fun _ _ _ h => h) (Or.inl ⟨by rfl, ?hy8⟩) (fun _ => hC0) ?rest8
        case hy8 => (intro w hSw; (try dsimp only at hSw); go_simp <;> (with_reducible rfl))
        try simp only [Act.put]
        refine till_ready (rs := [8]) (by kernel_rfl) (by simp) ?_
        refine TillReady.cons rfl (fun K hK => ?_) TillReady.nil
        refine step_call (by rfl) 62 _ _ rfl #[.slice (some ⟨bt, ot, none⟩) types.length ct, .slice (some ⟨b, off + i * 3, none⟩) 1 (ch - i), .func (.func 65) #[] #[]] (by simp [Act.eval]) (enters_ec _) (HEC.out _ (tra HK2.out (show Same w2 _ from (by (repeat' (first | assumption | exact Kept.refl _ _ | refine Kept.drew ?_ | refine Kept.drewN ?_ _ | refine Kept.alloc ?_ _))))) HCL.out) ?_
        rintro e w8 ⟨rfl, hK8⟩
        refine ⟨_, rfl, ?_⟩
        have HK8 := hide (tra (show Same w2 _ from (by (repeat' (first | assumption | exact Kept.refl _ _ | refine Kept.drew ?_ | refine Kept.drewN ?_ _ | refine Kept.alloc ?_ _)))) hK8)
        clear hK8 HEC
        refine hK.out _ _ ?_ (fun hC9 => ?_)
        · exact HST8.out _ HK8.out
        clear hK K hC0
        try simp only [Act.put]
        refine till_ready (rs := [9]) (by kernel_rfl) (by simp) ?_
        refine TillReady.free rfl (by kernel_rfl) (fun K hK => ?_) TillReady.nil
        go_simp
        refine hK.out _ _ ?_
        clear hK K
        try simp only [Act.put, List.setIfInBounds_toArray, List.set_cons_zero, List.set_cons_succ]
        refine till_done (by kernel_rfl) ?_ _
        refine NoPanic.normal ?_
        rw [HMC.out]
        by_cases hm0 : mC = 0
        · have HM4 := hide (show lastE pv t = m by
            have h9 := HM3.out
            rwa [if_neg (not_not_intro hm0)] at h9)
          subst hm0
          obtain ⟨s0, s1⟩ := HST8.out _ HK8.out
          obtain ⟨t0, t1, t2⟩ := HTT8.out _ HK8.out
          clear HM3 HMC
          by_cases hi0 : i = 0
          · subst hi0
            have HF := hide (show 0 = m by rw [← HM4.out, HPR0.out rfl]; rfl)
            go_wp2_with fail
            go_quiet (fail)
            go_wp2_with fail
            go_ret
            exact ⟨ret_int HF.out, tra HK2.out (HK8.out.drewN _)⟩
          · obtain ⟨i0, hi0e⟩ : ∃ i0, i = i0 + 1 := ⟨i - 1, by omega⟩
            have hi0l : i0 < l.length := by omega
            have HPV := hide (show pv = some (l[i0]'hi0l) by rw [HPRV.out (by omega)]; congr 2; omega)
            have hig : (0 : Int) < (i : Int) := by omega
            have hig' : 0 < i := by omega
            have hsub : ((i : Int) - 1) = (i0 : Int) := by omega
            have hsubw : IntKind.i64.wrap ((i : Int) - 1) = (i0 : Int) := by rw [IntKind.wrap_i64]; omega
            have hi00 : (0 : Int) ≤ (i0 : Int) := by omega
            have hi01 : (i0 : Int) < (l.length : Int) := by omega
            have hwi0 : IntKind.i64.wrap (i0 : Int) = (i0 : Int) := by rw [IntKind.wrap_i64]; omega
            obtain ⟨b', off', ac', nc', cc', hao, _, x0, x1, x2, _, _⟩ := (HH.out.same (tra HK2.out HK8.out)).at i0 (by omega)
            cases hao
            obtain ⟨p, hp⟩ : ∃ p, p = l[i0] := ⟨_, rfl⟩
            rw [← hp] at x0 x1 HPV
            clear hp hi0 hi0e
            have HO := hide order_any
            have HQ := hide (show (if ordI p.ty p.id t.ty t.id < 0 then (0 : Int) else 4) = m by rw [← HM4.out, HPV.out]; exact lastE_ord p t)
            go_wp2_with fail
            go_region_held3 (fun w' => w'.cell? ⟨g1, 1, none⟩ = some (.slice (some ⟨b, off, none⟩) l.length ch) ∧ w'.cell? ⟨b, off + i0 * 3, none⟩ = some (.int .i64 p.ty) ∧ w'.cell? ⟨b, off + i0 * 3 + 1, none⟩ = some (.int .i64 p.id) ∧ w'.cell? ⟨b, off + i0 * 3 + 2, none⟩ = some (.slice ac' nc' cc') ∧ w'.cell? ⟨g2, 0, none⟩ = some (.int .i64 t.ty) ∧ w'.cell? ⟨g2, 1, none⟩ = some (.int .i64 t.id) ∧ w'.cell? ⟨g2, 2, none⟩ = some (.slice ac nc cc)) (go_keep)
              ((go_at_call 61; refine (HO.out _ _ _ _ _ _ _ _ _ _ _).mono ?_; rintro e w9 ⟨rfl, hK9⟩; have u0 := hK9.cell (p := ⟨g1, 1, none⟩) (by exact s1) (fun f => f); have u1 := hK9.cell (p := ⟨b, off + i0 * 3, none⟩) (by exact x0) (fun f => f); have u2 := hK9.cell (p := ⟨b, off + i0 * 3 + 1, none⟩) (by exact x1) (fun f => f); have u3 := hK9.cell (p := ⟨b, off + i0 * 3 + 2, none⟩) (by exact x2) (fun f => f); have u4 := hK9.cell (p := ⟨g2, 0, none⟩) (by exact t0) (fun f => f); have u5 := hK9.cell (p := ⟨g2, 1, none⟩) (by exact t1) (fun f => f); have u6 := hK9.cell (p := ⟨g2, 2, none⟩) (by exact t2) (fun f => f)))
            all_goals
              have HK9 := hide (tra HK8.out hK9.unD)
              clear hK9 u0 u1 u2 u3 u4 u5 u6
              obtain ⟨q, hq⟩ : ∃ q, ordI p.ty p.id t.ty t.id = q := ⟨_, rfl⟩
              rw [hq] at HQ
              simp only [hq]
              clear hq
              by_cases hneg : q < 0
              · have HF := hide (show 0 = m by rw [← HQ.out, if_pos hneg])
                have hnge : ¬ (0 : Int) ≤ q := by omega
                clear HQ
                go_wp2_with fail
                go_ret
                exact ⟨ret_int HF.out, tra HK2.out HK9.out⟩
              · have HF := hide (show 4 = m by rw [← HQ.out, if_neg hneg])
                have hge : (0 : Int) ≤ q := by omega
                clear HQ hneg
                go_wp2_with fail
                go_ret
                exact ⟨ret_int HF.out, tra HK2.out HK9.out⟩
        · have HF := hide (show mC = m by
            have h9 := HM3.out
            rwa [if_pos hm0] at h9)
          have hnb : (mC != 0) = true := by simp [hm0]
          clear hm0
          go_wp2_with fail
          go_ret
          exact ⟨ret_int HF.out, tra HK2.out HK8.out⟩
      · have HF := hide (show 1 = m by
          have h9 := HM2.out
          rw [if_pos (by rw [HFO.out]; have := HNC.out; have := HNF.out; omega)] at h9
          exact h9)
        have hcb : ((nc : Int) != nf) = true := by simp; omega
        clear hcl
        go_wp2_with fail
        go_quiet (fail)
        go_wp2_with fail
        go_ret
        exact ⟨ret_int HF.out, HK2.out.drewN _⟩

end Go.Proofs.YtidodjbmlbjchaaGreat

/- state.Check. -/
namespace Go.Proofs.YtidodjbmlbjchaaGreat
open Go.RowKit

theorem wrongThs_step (types : List TypeT) (l : List ThingT) (i : Nat) (h : i < l.length) :
    wrongThs types (prevT l i) (l.drop i) = if wrongTh types (prevT l i) l[i] ≠ 0 then wrongTh types (prevT l i) l[i] else wrongThs types (prevT l (i + 1)) (l.drop (i + 1)) := by
  rw [List.drop_eq_getElem_cons h, wrongThs]
  have : prevT l (i + 1) = some l[i] := by rw [prevT, if_neg (by omega)]; simp [List.getElem?_eq_getElem h]
  rw [this]

theorem fit_of {types : List TypeT} {l : List ThingT} (h : wrongThs types none l = 0) : sortT l ∧ ∀ t ∈ l, fitTh types t := by
  obtain ⟨h1, h2, _⟩ := (wrongThs_iff _ _ _).1 h
  refine ⟨h2, fun t ht => ?_⟩
  obtain ⟨g1, _, g3, _⟩ := h1 t ht
  simp only [isIx, Bool.and_eq_true, decide_eq_true_eq] at g1
  exact ⟨g1, g3⟩

set_option maxRecDepth 20000 in
set_option maxHeartbeats 3200000 in
theorem stCheck_any (w : World) (vt vh : Value) (s : StateT) (ht : TypSl anyB w vt s.types) (hh : ThgSl anyB w vh s.things) :
    Calls Tryz.prog 13 #[stV vt vh] w fun e w' => e = .returned (.int .i64 (checkSt s)) ∧ Same w w' := by
  obtain ⟨types, l⟩ := s
  simp only at ht hh ⊢
  obtain ⟨at', ct, rfl, _, _⟩ := id ht
  obtain ⟨ah, ch, rfl, _, _⟩ := id hh
  have hmax : l.length ≤ 9223372036854775807 := hh.len.2.1
  obtain ⟨m, hm⟩ : ∃ m, checkSt ⟨types, l⟩ = m := ⟨_, rfl⟩
  rw [hm]
  unfold checkSt at hm
  simp only at hm
  obtain ⟨W, hW⟩ : ∃ W, W = w.alloc (.cells #[.slice at' types.length ct, .slice ah l.length ch] 25) := ⟨_, rfl⟩
  obtain ⟨g, hg⟩ : ∃ g, g = w.heap.size := ⟨_, rfl⟩
  have HKW := hide (show Same w W by rw [hW]; exact (Kept.refl _ w).alloc _)
  have HG := hide (show W.heap[g]? = some (.cells #[.slice at' types.length ct, .slice ah l.length ch] 25 (0, 0)) by rw [hW, hg]; exact heap_alloc_new _ _)
  have HT := hide (ht.same HKW.out)
  have HH := hide (hh.same HKW.out)
  have HSC := hide (show Calls Tryz.prog 41 #[.slice at' types.length ct] W fun e w' => e = .returned (.int .i64 (checkSc types)) ∧ Same W w' from scCheck_any W _ types anyB HT.out)
  obtain ⟨q, hq⟩ : ∃ q, checkSc types = q := ⟨_, rfl⟩
  rw [hq] at HSC hm
  have HM := hide hm
  clear hq hm ht hh
  obtain ⟨c0, c1⟩ := blk2 HG.out
  by_cases hq0 : q = 0
  rotate_left
  · have HF := hide (show q = m by have h := HM.out; rwa [if_pos hq0] at h)
    have hqb : (q != 0) = true := by simp [hq0]
    clear hq0 HM
    go_enter Tryz.func13, Tryz.ntmps13
    go_wp2_with fail
    rw [← hW]
    refine HSC.out.mono ?_
    rintro e w1 ⟨rfl, hK1⟩
    go_wp2_with fail
    go_ret
    exact ⟨ret_int HF.out, tra HKW.out hK1⟩
  subst hq0
  have HM2 := hide (show (if 12 < l.length then 2 else if wrongThs types none l ≠ 0 then wrongThs types none l else eachT types (idsC types l) l) = m by have h := HM.out; rwa [if_neg (by simp)] at h)
  clear HM
  by_cases h12 : 12 < l.length
  · have HF := hide (show 2 = m by have h := HM2.out; rwa [if_pos h12] at h)
    have h12i : (12 : Int) < l.length := by omega
    clear h12 HM2
    go_enter Tryz.func13, Tryz.ntmps13
    go_wp2_with fail
    rw [← hW, ← hg]
    refine HSC.out.mono ?_
    clear hW hg c0 c1
    rintro e w1 ⟨rfl, hK1⟩
    obtain ⟨c0, c1⟩ := blk2 (blk_kept HG.out hK1 (fun f => f))
    go_wp2_with fail
    go_ret
    exact ⟨ret_int HF.out, tra HKW.out hK1⟩
  have HM3 := hide (show (if wrongThs types none l ≠ 0 then wrongThs types none l else eachT types (idsC types l) l) = m by have h := HM2.out; rwa [if_neg h12] at h)
  have h12i : ¬ (12 : Int) < l.length := by omega
  have hl12 : l.length ≤ 12 := by omega
  clear h12 HM2
  have HWT := hide (fun wx (hx : Same W wx) i (hi : i < l.length) => wrongThing_any wx _ _ types l i hi (by omega) (HT.out.same hx) (HH.out.same hx))
  have HWI := hide (fun wx (hx : Same W wx) (h0 : wrongThs types none l = 0) => wrongIds_any wx _ _ types l (HT.out.same hx) (HH.out.same hx) (fit_of h0).1 (by omega) (fit_of h0).2)
  go_enter Tryz.func13, Tryz.ntmps13
  go_wp2_with fail
  rw [← hW, ← hg]
  refine HSC.out.mono ?_
  rintro e w1 ⟨rfl, hK1⟩
  clear hW hg c0 c1
  obtain ⟨c0, c1⟩ := blk2 (blk_kept HG.out hK1 (fun f => f))
  have HK1 := hide hK1
  clear hK1
  go_wp2_with fail
  go_loopg [19] l.length (fun gk iv wr => ∃ i : Nat, i + gk = l.length ∧ iv = .int .i64 i ∧ Hid (Same W wr) ∧ Hid (wrongThs types none l = wrongThs types (prevT l i) (l.drop i)))
  case atStart => exact ⟨0, by omega, rfl, HK1, rfl⟩
  case round =>
    obtain ⟨i, hi, rfl, HK, HE⟩ := hrel
    clear c0 c1
    obtain ⟨c0, c1⟩ := blk2 (blk_kept HG.out HK.out (fun f => f))
    by_cases hlt : i < l.length
    · obtain ⟨z, hz⟩ : ∃ z, wrongTh types (prevT l i) l[i] = z := ⟨_, rfl⟩
      have hW1 := HWT.out _ HK.out i hlt
      have hs := wrongThs_step types l i hlt
      rw [hz] at hW1 hs
      have HW1 := hide hW1
      have HS := hide hs
      clear hz hs hW1
      go_wp2_with fail
      refine HW1.out.mono ?_
      clear HW1
      rintro e w3 ⟨rfl, hK3⟩
      have HK3 := hide (tra HK.out hK3)
      clear hK3
      by_cases hz0 : z = 0
      · subst hz0
        have HN := hide (show wrongThs types none l = wrongThs types (prevT l (i + 1)) (l.drop (i + 1)) by rw [HE.out, HS.out, if_neg (by simp)])
        go_wp2_with fail
        go_roundg (gk - 1)
        case measure => omega
        case rel => exact ⟨i + 1, by omega, by go_num, HK3, HN⟩
      · have hzb : (z != 0) = true := by simp [hz0]
        have HF := hide (show z = m by
          have h1 : wrongThs types none l = z := by rw [HE.out, HS.out, if_pos hz0]
          have h2 := HM3.out
          rw [h1, if_pos hz0] at h2
          exact h2)
        clear hz0
        go_wp2_with fail
        go_ret
        exact ⟨ret_int HF.out, tra HKW.out HK3.out⟩
    · have h0 : wrongThs types none l = 0 := by rw [HE.out, List.drop_eq_nil_of_le (by omega)]; rfl
      have HF := hide (show eachT types (idsC types l) l = m by have h2 := HM3.out; rwa [if_neg (not_not_intro h0)] at h2)
      have HW2 := hide (HWI.out _ HK.out h0)
      clear h0
      go_wp2_with fail
      refine HW2.out.mono ?_
      clear HW2
      rintro e w3 ⟨rfl, hK3⟩
      go_wp2_with fail
      go_ret
      exact ⟨ret_int HF.out, tra HKW.out (tra HK.out hK3)⟩

end Go.Proofs.YtidodjbmlbjchaaGreat
