import Derived.Test.YtkkjchfhgjfclaaGreatDoorQueryalone30
import Derived.Test.YtkkjchfhgjfclaaGreatDoorCards
import Derived.Test.YtkkjchfhgjfclaaGreatDoorTie
import Derived.Test.YtkkjchfhgjfclaaGreatDoorQueryalone28
import Derived.ProofKit
import Derived.OpenShut
import Derived.SizedLaws
import Derived.Deep.DeepHandedRow
import Derived.Deep.DeepWitnessRowRef
import Derived.Lib.LaidTab
import Derived.Stop.LaidErr
/- What must be in any case, of queries. -/
namespace Go.Proofs.YtkkjchfhgjfclaaGreatDoor
open Go.RowKit

set_option maxRecDepth 20000 in
set_option maxHeartbeats 1600000 in
theorem queryBegun_any (w : World) (ht : Tab w) :
    Calls Tryz.prog 5 #[] w fun e w' => e = .returned (.bool true) ∧ Same w w' := by
  have HT := hide ht
  clear ht
  go_enter Tryz.func5, Tryz.ntmps5
  go_wp2_with fail
  refine (qRead_ok _ _ ask1 (by exact rq1)).mono ?_
  rintro e w1 ⟨v1, rfl, hv1, hK1⟩
  obtain ⟨a1, c1, rfl, _, _⟩ := id hv1
  have HV1 := hide hv1.plain
  clear hv1
  go_wp2_with fail
  refine (ask_any _).mono ?_
  rintro e w2 ⟨b2, rfl, hv2, hK2⟩
  have hP := qPrint_ok w2 _ ask1 hv2 (tab_keep HT.out (tra hK1 hK2)) cq1
  rw [pq1] at hP
  have HP := hide hP
  clear hv2 hP
  go_wp2_with fail
  refine HP.out.mono ?_
  rintro e w3 ⟨rfl, hK3⟩
  go_wp2_with fail
  refine (qRead_bad _ _ 1 (by exact rq2)).mono ?_
  rintro e w4 ⟨rfl, hK4, _⟩
  go_wp2_with fail
  refine (ask_any _).mono ?_
  rintro e w5 ⟨b5, rfl, hv5, hK5⟩
  have hck := qCheck_any w5 _ ask1 hv5
  rw [cq1] at hck
  have HCK := hide hck
  clear hck hv5
  go_wp2_with fail
  refine HCK.out.mono ?_
  rintro e w6 ⟨rfl, hK6⟩
  go_wp2_with fail
  refine (ask_any _).mono ?_
  rintro e w7 ⟨b7, rfl, hv7, hK7⟩
  have HS := hide (sameSels_eq _ ask1 rfl w7 _ _ (HV1.out.same (tra (tra (tra (tra (tra hK2 hK3) hK4) hK5) hK6) hK7)) hv7)
  clear hv7
  go_wp2_with fail
  refine HS.out.mono ?_
  rintro e w8 ⟨rfl, n8, rfl⟩
  go_wp2
  go_ret
  exact ⟨rfl, Kept.drewN (tra (tra (tra (tra (tra (tra hK1 hK2) hK3) hK4) hK5) hK6) hK7) _⟩

end Go.Proofs.YtkkjchfhgjfclaaGreatDoor

/- QueryAlone: the walk of the law's function. -/
namespace Go.Proofs.YtkkjchfhgjfclaaGreatDoor
open Go.RowKit

def anyP : Nat → Prop := fun _ => True

theorem ArgSl.anyP {w : World} {v : Value} {l : List ArgT} (h : ArgSl w v l) : ArgSlP anyP w v l := by
  obtain ⟨ao, cap, hv, hl, hc⟩ := h
  refine ⟨ao, cap, hv, hl, fun i a ha => ?_⟩
  obtain ⟨b, off, e, h⟩ := hc i a ha
  exact ⟨b, off, e, trivial, h⟩
theorem SelSl.anyP {w : World} {v : Value} {f : Sels} (h : SelSl w v f) : SelSlP anyP w v f := h.below.mono (fun _ _ _ => trivial)

/-- selects, where their parts lie, and where they lie themselves -/
def SelsAt (w : World) (v : Value) (ps : List SelC) : Prop :=
  ∃ ao c, v = .slice ao ps.length c ∧ (ao = none → ps.length = 0 ∧ c = 0) ∧ (ps.length ≤ c) ∧ (∀ ad, ao = some ad → ∃ b off, ad = ⟨b, off, none⟩) ∧ (∀ ad, ao = some ad → ∀ j u, (selCells ps)[j]? = some u → w.cell? (ad.add j) = some u) ∧ ∀ p ∈ ps, partsOk anyP w p

theorem partsOk.same {w w' : World} {p : SelC} (h : partsOk anyP w p) (hk : Same w w') : partsOk anyP w' p := h.keep hk (fun _ _ _ => ⟨fun f => f, trivial⟩)
theorem SelsAt.same {w w' : World} {v : Value} {ps : List SelC} (h : SelsAt w v ps) (hk : Same w w') : SelsAt w' v ps := by
  obtain ⟨ao, c, h1, h2, h3, h4, h5, h6⟩ := h
  exact ⟨ao, c, h1, h2, h3, h4, fun ad e j u hj => hk.cell (h5 ad e j u hj) (fun f => f), fun p hp => (h6 p hp).same hk⟩

theorem SelsAt.sels {w : World} {v : Value} {ps : List SelC} (h : SelsAt w v ps) (hl : ps.length ≤ 1000) : SelSl w v (selsOf ps) := by
  obtain ⟨ao, c, rfl, h2, h3, h4, h5, h6⟩ := h
  refine ⟨ao, c, by rw [selsOf_len], ⟨by rw [selsOf_len]; unfold maxLen; omega, by rw [selsOf_len]; exact h3⟩, ?_⟩
  cases ao with
  | none =>
    have := (h2 rfl).1
    rw [List.length_eq_zero_iff.1 this]
    exact .inl rfl
  | some ad =>
    obtain ⟨b, off, rfl⟩ := h4 ad rfl
    refine .inr ⟨b, off, rfl, SelAtP.plain _ _ _ (selAt_cells (P := anyP) ps off (fun j u hj => ?_) h6)⟩
    have := h5 _ rfl _ _ hj
    rw [add_none] at this
    exact this

theorem selCells_len (ps : List SelC) : (selCells ps).length = ps.length * 4 := by
  induction ps with
  | nil => rfl
  | cons p r ih => simp [selCells, selC] at ih ⊢; omega

theorem selCells_1 {w : World} {ps : List SelC} (h : ∀ p ∈ ps, partsOk anyP w p) : ∀ u ∈ selCells ps, u.oneCell' = true := by
  intro u hu
  simp only [selCells, List.mem_flatMap, selC] at hu
  obtain ⟨p, hp, hu⟩ := hu
  simp at hu
  obtain ⟨⟨aa, ca, ha, _⟩, ⟨ak, ck, hk, _⟩⟩ := h p hp
  rcases hu with rfl | rfl | rfl | rfl
  · rfl
  · rfl
  · rw [ha]; rfl
  · rw [hk]; rfl

theorem revQ_app (p q : Sels) : ∀ acc, revQ (appS p q) acc = revQ q (revQ p acc) := by
  induction p with
  | nil => intro acc; rfl
  | cons al nm args k r _ ih => intro acc; rw [appS, revQ, revQ]; exact ih _
theorem goodAll_app (p q : Sels) (h : goodAll (appS p q)) : goodAll q := by
  induction p with
  | nil => exact h
  | cons al nm args k r _ ih => exact ih h.2.2

/-- one select in a block of its own is a row that the call owns -/
theorem own_one4 {w : World} {g : Nat} {x y z u : Value} (h : w.heap[g]? = some (.cells #[x, y, z, u] 28 (0, 0))) : w.ownsRow g 28 4 (.slice (some ⟨g, 0, none⟩) 1 1) 1 [x, y, z, u] :=
  ⟨rfl, .inr ⟨g, 1, _, rfl, Nat.le_refl _, h, Nat.le_refl _, by unfold maxLen; omega, rfl, rfl⟩⟩

set_option maxRecDepth 20000 in
set_option maxHeartbeats 6400000 in
theorem queryAlone_any (w : World) (v : Value) (l : Sels) (ht : Tab w) (hv : SelSl w v l) :
    Calls Tryz.prog 3 #[v] w fun e w' => e = .returned (.bool true) ∧ Same w w' := by
  have HT := hide ht
  have HV := hide hv
  obtain ⟨ao, cap, rfl, ⟨hml, hcap⟩, _⟩ := id hv
  clear ht hv
  obtain ⟨c, hc⟩ : ∃ c, checkQ l = c := ⟨_, rfl⟩
  have hck := fun w1 (hK : Same w w1) => qCheck_any w1 _ l (HV.out.same hK)
  rw [hc] at hck
  have HCK := hide hck
  clear hck
  obtain ⟨t0, ti, tz0, tz1, tz2⟩ := info_parts infoSel
  by_cases hc0 : c = 0
  · have HC0 := hide (hc.trans hc0)
    subst hc0
    obtain ⟨hl0, _, hsz, _⟩ := (checkQ_iff l).1 HC0.out
    have hl40 : l.len ≤ 40 := by
      have : ∀ s : Sels, s.len ≤ s.size' := by
        intro s
        induction s with
        | nil => simp [Sels.len]
        | cons al nm args k r _ ih => rw [Sels.len, Sels.size']; omega
      have := this l
      omega
    have HGD := hide (checkQ_good HC0.out)
    have hck2 := fun w1 v1 (h : SelSl w1 v1 (revQ l .nil)) => qCheck_any w1 v1 (revQ l .nil) h
    rw [checkQ_rev HC0.out] at hck2
    have HCK2 := hide hck2
    clear hc hck2 hml hl0 hsz
    go_enter Tryz.func3, Tryz.ntmps3
    go_wp2_with fail
    refine (queryBegun_any _ HT.out).mono ?_
    rintro e w1 ⟨rfl, hK1⟩
    go_wp2_with fail
    refine (HCK.out w1 hK1).mono ?_
    rintro e w2 ⟨rfl, hK2⟩
    have HK2 := hide (tra hK1 hK2)
    clear hK1 hK2
    go_wp2_with fail
    go_loopg [3, 4] l.len (fun g vt i wr => ∃ (j : Nat) (p x : Sels) (ps : List SelC), x.len ≤ g ∧ g ≤ x.len ∧ j + x.len ≤ l.len ∧ l.len ≤ j + x.len ∧ i = .int .i64 j ∧ Hid (p.len = j) ∧ Hid (l = appS p x) ∧ Hid (Same w wr) ∧ Hid (SelsAt wr vt ps) ∧ Hid (selsOf ps = revQ p .nil) ∧ Hid (ps.length = j) ∧ Hid (∃ a n c, vt = .slice a n c))
    case atStart => exact ⟨0, .nil, l, [], Nat.le_refl _, Nat.le_refl _, by omega, by omega, rfl, rfl, rfl, HK2, ⟨none, 0, rfl, fun _ => ⟨rfl, rfl⟩, Nat.le_refl _, (fun ad e => by cases e), (fun ad e => by cases e), (fun p hp => by cases hp)⟩, rfl, rfl, ⟨none, 0, 0, rfl⟩⟩
    case round =>
      obtain ⟨j, p, x, ps, hg1, hg2, hj1, hj2, rfl, HPL, HFP, HKr, HPA, HPS, HPN, HVT⟩ := hrel
      obtain ⟨av, nv, cv, rfl⟩ := HVT.out
      clear HVT
      cases x with
      | nil =>
        have hlp : l = p := by rw [HFP.out, appS_nil]
        have hps := HPS.out
        rw [← hlp] at hps
        have hpn := HPN.out
        simp only [Sels.len] at hg1 hg2 hj1 hj2
        have htp := HPA.out.sels (by omega)
        rw [hps] at htp
        have HC2 := hide (HCK2.out wr _ htp)
        clear hlp hps hpn htp
        go_wp2_with fail
        refine HC2.out.mono ?_
        rintro e w3 ⟨rfl, hK3⟩
        go_wp2_with fail
        go_ret
        exact ⟨rfl, tra HKr.out hK3⟩
      | cons al nm args k r =>
        simp only [Sels.len] at hg1 hg2 hj1 hj2
        have hlt : j < l.len := by omega
        have hjc : j < cap := by omega
        obtain ⟨b, o, aa, ca, ak, ck, rfl, x0, x1, x2, x3, ha, hk, _⟩ := selSl_nth (HV.out.same HKr.out) HFP.out j HPL.out
        obtain ⟨hg, hgk, _⟩ := goodAll_app p _ (by have := HGD.out; rw [HFP.out] at this; exact this)
        have hone : SelSl wr (.slice (some ⟨b, o + j * 4, none⟩) 1 (cap - j)) (.cons al nm args k .nil) :=
          ⟨_, cap - j, rfl, ⟨by simp [Sels.len]; unfold maxLen; omega, by simp [Sels.len]; omega⟩, .inr ⟨b, o + j * 4, rfl, x0, x1, ⟨_, x2, ha⟩, (by obtain ⟨ak', ck', e, hl, hs⟩ := id hk; cases e; exact ⟨_, _, x3, hl, hs⟩), trivial⟩⟩
        have hc1 := qCheck_any wr _ _ hone
        rw [hg] at hc1
        have HC1 := hide hc1
        have HK := hide hk
        have HARG := hide ha
        have HGK := hide hgk
        have hkm : k.len ≤ 9223372036854775807 := by obtain ⟨_, _, e, hl, _⟩ := hk; exact hl.1
        clear hone hc1 hg hgk ha hk
        have hrest : ∀ w3, Same wr w3 → True := fun _ _ => trivial
        clear hrest
        go_wp2_with fail
        refine HC1.out.mono ?_
        rintro e w3 ⟨rfl, hK3⟩
        have y0 := hK3.cell x0 (fun f => f)
        have y1 := hK3.cell x1 (fun f => f)
        have y2 := hK3.cell x2 (fun f => f)
        have y3 := hK3.cell x3 (fun f => f)
        clear x0 x1 x2 x3 HC1
        have HW3 := hide hK3
        clear hK3
        -- what follows the test, from the world that it ends in
        by_cases hk0 : 0 < k.len
        · have hc2 := qCheck_any w3 _ k (HK.out.same HW3.out)
          rw [HGK.out (by omega)] at hc2
          have HC2 := hide hc2
          clear hc2
          go_wp2_with fail
          refine HC2.out.mono ?_
          rintro e w4 ⟨rfl, hK4⟩
          have z0 := hK4.cell y0 (fun f => f)
          have z1 := hK4.cell y1 (fun f => f)
          have z2 := hK4.cell y2 (fun f => f)
          have z3 := hK4.cell y3 (fun f => f)
          have HW4 := hide (tra HW3.out hK4)
          clear y0 y1 y2 y3 hK4 HC2
          have HPAi := hide (HPA.out.same HW4.out)
          obtain ⟨ap, cp, hvp, hnone, hpc, hads, hcs, hfls⟩ := HPAi.out
          have hpl := HPN.out
          have hpe : nv = ps.length ∧ av = ap ∧ cv = cp := by injection hvp with a b c; exact ⟨b, a, c⟩
          obtain ⟨rfl, rfl, rfl⟩ := hpe
          have hpl5 : ps.length ≤ 40 := by omega
          have HNN := hide (And.intro hnone (And.intro hads (And.intro hcs hfls)))
          have hO1 : ∀ x y z u, (w4.alloc (.cells #[x, y, z, u] 28)).ownsRow w4.heap.size 28 4 (.slice (some ⟨w4.heap.size, 0, none⟩) 1 1) 1 [x, y, z, u] := fun x y z u => own_one4 (heap_alloc_new w4 _)
          have HO1 := hide (hO1 (.string ⟨al.toArray⟩) (.string ⟨nm.toArray⟩) (.slice aa args.length ca) (.slice ak k.len ck))
          clear hO1 hvp hnone hads hcs hfls hpl hpc
          go_wp2_with (at_builtin; refine wpList_append_all rfl (.tmp 45) (.tmp 46) 22 rfl w4.heap.size 28 t0 _ 4 80 Tryz.underlying22 ti tz0 tz1 tz2 rfl (by decide) _ _ _ rfl HO1.out av ps.length cv (selCells ps) rfl ?z1 (selCells_len ps) ?z2 (selCells_1 HNN.out.2.2.2) ?z3 ?z4 ?z5 ?_)
          case z1 => exact HNN.out.1
          case z2 => exact fun ad e j u hj => ((Kept.refl (fun _ => False) w4).alloc _).cell (HNN.out.2.2.1 ad e j u hj) (fun f => f)
          case z3 => unfold maxLen; omega
          case z4 => omega
          case z5 => simp
          intro v7 w7 hown7 hgr7
          obtain ⟨g7, cap7, hv7⟩ := own_form hown7 (by omega)
          subst hv7
          have hcap7 : 1 + ps.length ≤ cap7 := by
            rcases hown7.2 with ⟨e, _⟩ | ⟨g', cap', cur, e, _, _, hc, _⟩
            · cases e
            · injection e with _ _ e3; rw [e3]; exact hc
          have hK7 : Same w4 w7 := ((Kept.refl (fun _ => False) w4).alloc _).trans (grown_k hgr7) (fun k hk e => by have e2 : k = w4.heap.size := Option.some.inj e; omega)
          have HFIN := hide (show SelsAt w7 (.slice (some ⟨g7, 0, none⟩) (1 + ps.length) cap7) (⟨al, nm, args, k, .slice aa args.length ca, .slice ak k.len ck⟩ :: ps) from
            ⟨some ⟨g7, 0, none⟩, cap7, by rw [List.length_cons, Nat.add_comm], (fun e => by cases e), by rw [List.length_cons]; omega, (fun ad e => by cases e; exact ⟨g7, 0, rfl⟩), (fun ad e j u hj => by cases e; exact World.ownsRow.cells hown7 (g := g7) rfl j u hj), fun x hx => by
              rcases List.mem_cons.1 hx with rfl | hx
              · exact partsOk.same ⟨(HARG.out.same HW4.out).anyP, (HK.out.same HW4.out).anyP⟩ hK7
              · exact (HNN.out.2.2.2 x hx).same hK7⟩)
          have HKf := hide (tra (tra HKr.out HW4.out) hK7)
          have HPNo := HPN.out
          clear hown7 hgr7 hK7 hcap7
          go_wp2_with fail
          go_roundg (gk - 1)
          case measure => omega
          case rel => exact ⟨j + 1, appS p (.cons al nm args k .nil), r, _, by omega, by omega, by omega, by omega, by go_num, by rw [Hid, appS_len, HPL.out]; rfl, by rw [Hid, appS_snoc]; exact HFP.out, HKf, HFIN, by rw [Hid, revQ_app, selsOf, HPS.out]; rfl, by rw [Hid, List.length_cons, HPNo], ⟨_, _, _, rfl⟩⟩
        · obtain ⟨w4, hw4⟩ : ∃ w4, w4 = w3 := ⟨_, rfl⟩
          rw [← hw4] at y0 y1 y2 y3
          have HW4 := hide (show Same wr w4 by rw [hw4]; exact HW3.out)
          rw [← hw4]
          clear hw4 HW3
          have HPAi := hide (HPA.out.same HW4.out)
          obtain ⟨ap, cp, hvp, hnone, hpc, hads, hcs, hfls⟩ := HPAi.out
          have hpl := HPN.out
          have hpe : nv = ps.length ∧ av = ap ∧ cv = cp := by injection hvp with a b c; exact ⟨b, a, c⟩
          obtain ⟨rfl, rfl, rfl⟩ := hpe
          have hpl5 : ps.length ≤ 40 := by omega
          have HNN := hide (And.intro hnone (And.intro hads (And.intro hcs hfls)))
          have hO1 : ∀ x y z u, (w4.alloc (.cells #[x, y, z, u] 28)).ownsRow w4.heap.size 28 4 (.slice (some ⟨w4.heap.size, 0, none⟩) 1 1) 1 [x, y, z, u] := fun x y z u => own_one4 (heap_alloc_new w4 _)
          have HO1 := hide (hO1 (.string ⟨al.toArray⟩) (.string ⟨nm.toArray⟩) (.slice aa args.length ca) (.slice ak k.len ck))
          clear hO1 hvp hnone hads hcs hfls hpl hpc
          go_wp2_with (at_builtin; refine wpList_append_all rfl (.tmp 45) (.tmp 46) 22 rfl w4.heap.size 28 t0 _ 4 80 Tryz.underlying22 ti tz0 tz1 tz2 rfl (by decide) _ _ _ rfl HO1.out av ps.length cv (selCells ps) rfl ?z1 (selCells_len ps) ?z2 (selCells_1 HNN.out.2.2.2) ?z3 ?z4 ?z5 ?_)
          case z1 => exact HNN.out.1
          case z2 => exact fun ad e j u hj => ((Kept.refl (fun _ => False) w4).alloc _).cell (HNN.out.2.2.1 ad e j u hj) (fun f => f)
          case z3 => unfold maxLen; omega
          case z4 => omega
          case z5 => simp
          intro v7 w7 hown7 hgr7
          obtain ⟨g7, cap7, hv7⟩ := own_form hown7 (by omega)
          subst hv7
          have hcap7 : 1 + ps.length ≤ cap7 := by
            rcases hown7.2 with ⟨e, _⟩ | ⟨g', cap', cur, e, _, _, hc, _⟩
            · cases e
            · injection e with _ _ e3; rw [e3]; exact hc
          have hK7 : Same w4 w7 := ((Kept.refl (fun _ => False) w4).alloc _).trans (grown_k hgr7) (fun k hk e => by have e2 : k = w4.heap.size := Option.some.inj e; omega)
          have HFIN := hide (show SelsAt w7 (.slice (some ⟨g7, 0, none⟩) (1 + ps.length) cap7) (⟨al, nm, args, k, .slice aa args.length ca, .slice ak k.len ck⟩ :: ps) from
            ⟨some ⟨g7, 0, none⟩, cap7, by rw [List.length_cons, Nat.add_comm], (fun e => by cases e), by rw [List.length_cons]; omega, (fun ad e => by cases e; exact ⟨g7, 0, rfl⟩), (fun ad e j u hj => by cases e; exact World.ownsRow.cells hown7 (g := g7) rfl j u hj), fun x hx => by
              rcases List.mem_cons.1 hx with rfl | hx
              · exact partsOk.same ⟨(HARG.out.same HW4.out).anyP, (HK.out.same HW4.out).anyP⟩ hK7
              · exact (HNN.out.2.2.2 x hx).same hK7⟩)
          have HKf := hide (tra (tra HKr.out HW4.out) hK7)
          have HPNo := HPN.out
          clear hown7 hgr7 hK7 hcap7
          go_wp2_with fail
          go_roundg (gk - 1)
          case measure => omega
          case rel => exact ⟨j + 1, appS p (.cons al nm args k .nil), r, _, by omega, by omega, by omega, by omega, by go_num, by rw [Hid, appS_len, HPL.out]; rfl, by rw [Hid, appS_snoc]; exact HFP.out, HKf, HFIN, by rw [Hid, revQ_app, selsOf, HPS.out]; rfl, by rw [Hid, List.length_cons, HPNo], ⟨_, _, _, rfl⟩⟩
  · have hc1 : (c != 0) = true := by simp [hc0]
    clear hc hc0
    go_enter Tryz.func3, Tryz.ntmps3
    go_wp2_with fail
    refine (queryBegun_any _ HT.out).mono ?_
    rintro e w1 ⟨rfl, hK1⟩
    go_wp2_with fail
    refine (HCK.out w1 hK1).mono ?_
    rintro e w2 ⟨rfl, hK2⟩
    go_wp2_with fail
    go_ret
    exact ⟨rfl, tra hK1 hK2⟩

end Go.Proofs.YtkkjchfhgjfclaaGreatDoor

/- One start that fits: the listed variables as their initialisers lay them; what the list gives the walks. -/
namespace Go.Proofs.YtkkjchfhgjfclaaGreatDoor
open Go.ChangeShapes Go.WideShapes Go.ChangeAt Go.RowKit

theorem own : ownKnob Tryz.prog.godebug = none := by kernel_rfl
theorem gTab : Tryz.prog.globalNamed "internal/strconv.uint64pow10" = some 3 := by kernel_rfl
theorem gTabType : (Tryz.prog.globals[3]?).map (·.type) = some 162 := by kernel_rfl
theorem cellsTab : Tryz.prog.cellsOf 162 = 20 := by kernel_rfl
theorem cellsU64 : Tryz.prog.cellsOf 149 = 1 := by kernel_rfl

/-- WHAT THE ROWS' LIST GIVES: strconv's table of powers. -/
theorem table {W : World} (h : laidMetH Tryz.prog Rows.queryAloneRow.laid W) : Tab W :=
  Lib.tabIs_of_head (rest := _) gTab gTabType Tryz.underlying162 Tryz.underlying149 cellsU64 cellsTab (laidMet.tail (laidMet.tail h))

def tabCells : DataW Unit → Array Value
  | .agg l => (l.map fun d => match d with | .lit (.int k n) => Value.int k n | _ => Value.nilIface).toArray
  | _ => #[]
def textOf : DataW Unit → ByteArray
  | .iface _ (.ptr (.agg [.lit (.string b)])) => ⟨b.toArray⟩
  | _ => ⟨#[]⟩

/-- So many blocks has the settled world. -/
noncomputable def low : Nat := (World.holding Tryz.prog default ⟨#[], #[], []⟩).heap.size

/-- The settled world, the listed variables holding what their initialisers lay. -/
noncomputable def laidWorld (os : Os) : World :=
  let w0 := World.holding Tryz.prog os ⟨#[.cells #[.string (textOf Rows.laid_strconv_ErrRange)] 169, .cells #[.string (textOf Rows.laid_strconv_ErrSyntax)] 169], #[], []⟩
  let put (h : Array Obj) (g : Nat) (c : Array Value) : Array Obj := h.modify g fun
    | .cells _ t frozen => .cells c t frozen
    | o => o
  let h1 := put w0.heap 3 (tabCells Rows.laid_internal_strconv_uint64pow10)
  let h2 := put h1 4 (tabCells Rows.laid_math_bits_deBruijn32tab)
  let h3 := put h2 5 (tabCells Rows.laid_math_bits_deBruijn64tab)
  let h4 := put h3 2 #[.iface 167 (.pointer (some ⟨low, 0, none⟩))]
  let h5 := put h4 1 #[.iface 167 (.pointer (some ⟨low + 1, 0, none⟩))]
  { w0 with heap := h5 }

theorem laid_met (os : Os) (args : Array Value) : laidMet Tryz.prog Rows.queryAloneRow.laid ((laidWorld os).forCall (fun _ _ => 0) ⟨#[], args, []⟩).memory :=
  laidMet_of_run' 8 (by kernel_rfl) (by kernel_rfl)

end Go.Proofs.YtkkjchfhgjfclaaGreatDoor
