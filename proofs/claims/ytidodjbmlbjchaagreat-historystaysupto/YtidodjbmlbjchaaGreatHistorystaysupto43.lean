/- state.Undo. -/
import Derived.Test.YtidodjbmlbjchaaGreatHistorystaysupto41
import Derived.Test.YtidodjbmlbjchaaGreatHistorystaysupto42
import Derived.Test.YtidodjbmlbjchaaGreatHistorystaysupto10
namespace Go.Proofs.YtidodjbmlbjchaaGreat
open Go.RowKit

theorem doSt_no {s : StateT} {e : EventT} {m : Int} (h : doSt s e = .error m) : m ≠ 0 := by
  unfold doSt at h
  split at h
  · cases h; assumption
  · split at h
    · cases h; assumption
    · exact doIt_no h

theorem undoSt_ok {s s' : StateT} {e : EventT} (h : doSt s e = .ok s') : undoSt s e = if e.kind = 1 then .ok ⟨2, e.ty, e.id, 0, 0, []⟩
    else if e.kind = 2 then undropE s.types (getT s.things (placeT s.things e.ty e.id))
    else .ok (unchangeE (getF (fieldsOf s.types e.ty) e.field) (getC (getT s.things (placeT s.things e.ty e.id)).cells e.field) e) := by
  unfold undoSt
  rw [h]
  rfl

/-- where an event that is no make is done, its thing is -/
theorem done_has {s s' : StateT} {e : EventT} (h : doSt s e = .ok s') (hk : e.kind ≠ 1) : hasTh s.things e.ty e.id = true := by
  obtain ⟨hr, _, hi⟩ := doSt_right h
  rcases doIt_inv hr hi with ⟨k, _⟩ | ⟨_, h1, _⟩ | ⟨_, _, h1, _⟩
  · exact absurd k hk
  · exact h1
  · exact h1

theorem done_field {s s' : StateT} {e : EventT} (h : doSt s e = .ok s') (hk : 3 ≤ e.kind) : isIx e.field (fieldsOf s.types e.ty).length = true := by
  obtain ⟨hr, _, hi⟩ := doSt_right h
  have hh := done_has h (by omega)
  unfold doIt at hi
  rw [if_neg (by omega), if_neg (by rw [hh]; decide), if_neg (by omega), changeSt_cell] at hi
  cases hc : cellA s.types s.things e with
  | error m => rw [hc] at hi; cases hi
  | ok c => exact (cellA_inv hc).1

set_option maxRecDepth 20000 in
set_option maxHeartbeats 3200000 in
theorem stUndo_any (w : World) (vt vh : Value) (s : StateT) (e : EventT) (ht : TypSl anyB w vt s.types) (hh : ThgSl anyB w vh s.things) :
    Calls Tryz.prog 8 #[stV vt vh, evV e] w fun r w' => unA w w' r (undoSt s e) := by
  obtain ⟨at', ct, rfl, _, _⟩ := id ht
  obtain ⟨ah, ch, rfl, ⟨_, hch⟩, _⟩ := id hh
  obtain ⟨W, hW⟩ : ∃ W, W = ((w.alloc (.cells #[.slice at' s.types.length ct, .slice ah s.things.length ch] 25)).alloc (.cells #[.int .i64 e.kind, .int .i64 e.ty, .int .i64 e.id, .int .i64 e.field, .int .i64 e.n, .string ⟨e.text.toArray⟩] 27)).alloc (.cells #[.int .i64 0, .int .i64 0, .int .i64 0, .int .i64 0, .int .i64 0, .string ⟨#[]⟩] 27) := ⟨_, rfl⟩
  obtain ⟨gs, hgs⟩ : ∃ g, g = w.heap.size := ⟨_, rfl⟩
  obtain ⟨ge, hge⟩ : ∃ g, g = w.heap.size + 1 := ⟨_, rfl⟩
  obtain ⟨gr, hgr⟩ : ∃ g, g = w.heap.size + 1 + 1 := ⟨_, rfl⟩
  have HKW := hide (show Same w W by rw [hW]; exact (((Kept.refl _ w).alloc _).alloc _).alloc _)
  have hGS : W.heap[gs]? = some (.cells #[.slice at' s.types.length ct, .slice ah s.things.length ch] 25 (0, 0)) := by rw [hW, hgs]; rw [Below.heap_alloc _ _ _ (by simp; omega)]; exact al_o _ _ _
  have hGE : W.heap[ge]? = some (.cells #[.int .i64 e.kind, .int .i64 e.ty, .int .i64 e.id, .int .i64 e.field, .int .i64 e.n, .string ⟨e.text.toArray⟩] 27 (0, 0)) := by rw [hW, hge]; rw [Below.heap_alloc _ _ _ (by simp)]; exact al_n _ _ _
  have HGR := hide (show W.heap[gr]? = some (.cells #[.int .i64 0, .int .i64 0, .int .i64 0, .int .i64 0, .int .i64 0, .string ⟨#[]⟩] 27 (0, 0)) by rw [hW, hgr]; have h := heap_alloc_new ((w.alloc (.cells #[.slice at' s.types.length ct, .slice ah s.things.length ch] 25)).alloc (.cells #[.int .i64 e.kind, .int .i64 e.ty, .int .i64 e.id, .int .i64 e.field, .int .i64 e.n, .string ⟨e.text.toArray⟩] 27)) (.cells #[.int .i64 0, .int .i64 0, .int .i64 0, .int .i64 0, .int .i64 0, .string ⟨#[]⟩] 27); rw [World.size_alloc, World.size_alloc] at h; exact h)
  have HLT := hide (show w.heap.size ≤ gs ∧ gs < ge ∧ ge < gr ∧ gr < W.heap.size by rw [hW, hgs, hge, hgr]; simp)
  obtain ⟨c0, c1⟩ := blk2' hGS
  obtain ⟨e0, e1, e2, e3, e4, e5⟩ := blk6 hGE
  have HALL := hide (fun wy (hy : Same W wy) => (⟨hy.cell c0 (fun f => f), hy.cell c1 (fun f => f), hy.cell e0 (fun f => f), hy.cell e1 (fun f => f), hy.cell e2 (fun f => f), hy.cell e3 (fun f => f), hy.cell e4 (fun f => f), hy.cell e5 (fun f => f)⟩ : wy.cell? ⟨gs, 0, none⟩ = _ ∧ wy.cell? ⟨gs, 1, none⟩ = _ ∧ wy.cell? ⟨ge, 0, none⟩ = _ ∧ wy.cell? ⟨ge, 1, none⟩ = _ ∧ wy.cell? ⟨ge, 2, none⟩ = _ ∧ wy.cell? ⟨ge, 3, none⟩ = _ ∧ wy.cell? ⟨ge, 4, none⟩ = _ ∧ wy.cell? ⟨ge, 5, none⟩ = _))
  have HDO := hide (fun wy (hy : Same W wy) => stDo_any wy _ _ s e ((ht.same HKW.out).same hy) ((hh.same HKW.out).same hy))
  have HT := hide (fun wy (hy : Same W wy) => (ht.same HKW.out).same hy)
  have HH := hide (fun wy (hy : Same W wy) => (hh.same HKW.out).same hy)
  have HFR := hide (fun (wy : World) (hy : Same W wy) => cells6e (blk_kept HGR.out hy (fun f => f)))
  have HEND := hide (fun (wy : World) (hy : Same W wy) (u : EventT) (m : Int) (hx : match undoSt s e with | .error n => u = ev0 ∧ m = n | .ok v => u = v ∧ m = 0) => (by
    obtain ⟨q, hKg⟩ := put6e (blk_kept HGR.out hy (fun f => f)) (.int .i64 u.kind) (.int .i64 u.ty) (.int .i64 u.id) (.int .i64 u.field) (.int .i64 u.n) (.string ⟨u.text.toArray⟩)
    obtain ⟨q0, q1, q2, q3, q4, q5, _⟩ := cells6e q
    refine ⟨q0, q1, q2, q3, q4, q5, (tra HKW.out hy).trans hKg (fun i hi e => by have := HLT.out; omega), ?_⟩
    cases hu : undoSt s e with
    | error n => rw [hu] at hx; obtain ⟨rfl, rfl⟩ := hx; rfl
    | ok v => rw [hu] at hx; obtain ⟨rfl, rfl⟩ := hx; rfl :
      ((((((wy.setCell ⟨gr, 0, none⟩ (.int .i64 u.kind)).setCell ⟨gr, 1, none⟩ (.int .i64 u.ty)).setCell ⟨gr, 2, none⟩ (.int .i64 u.id)).setCell ⟨gr, 3, none⟩ (.int .i64 u.field)).setCell ⟨gr, 4, none⟩ (.int .i64 u.n)).setCell ⟨gr, 5, none⟩ (.string ⟨u.text.toArray⟩)).cell? ⟨gr, 0, none⟩ = some (.int .i64 u.kind) ∧
      ((((((wy.setCell ⟨gr, 0, none⟩ (.int .i64 u.kind)).setCell ⟨gr, 1, none⟩ (.int .i64 u.ty)).setCell ⟨gr, 2, none⟩ (.int .i64 u.id)).setCell ⟨gr, 3, none⟩ (.int .i64 u.field)).setCell ⟨gr, 4, none⟩ (.int .i64 u.n)).setCell ⟨gr, 5, none⟩ (.string ⟨u.text.toArray⟩)).cell? ⟨gr, 1, none⟩ = some (.int .i64 u.ty) ∧
      ((((((wy.setCell ⟨gr, 0, none⟩ (.int .i64 u.kind)).setCell ⟨gr, 1, none⟩ (.int .i64 u.ty)).setCell ⟨gr, 2, none⟩ (.int .i64 u.id)).setCell ⟨gr, 3, none⟩ (.int .i64 u.field)).setCell ⟨gr, 4, none⟩ (.int .i64 u.n)).setCell ⟨gr, 5, none⟩ (.string ⟨u.text.toArray⟩)).cell? ⟨gr, 2, none⟩ = some (.int .i64 u.id) ∧
      ((((((wy.setCell ⟨gr, 0, none⟩ (.int .i64 u.kind)).setCell ⟨gr, 1, none⟩ (.int .i64 u.ty)).setCell ⟨gr, 2, none⟩ (.int .i64 u.id)).setCell ⟨gr, 3, none⟩ (.int .i64 u.field)).setCell ⟨gr, 4, none⟩ (.int .i64 u.n)).setCell ⟨gr, 5, none⟩ (.string ⟨u.text.toArray⟩)).cell? ⟨gr, 3, none⟩ = some (.int .i64 u.field) ∧
      ((((((wy.setCell ⟨gr, 0, none⟩ (.int .i64 u.kind)).setCell ⟨gr, 1, none⟩ (.int .i64 u.ty)).setCell ⟨gr, 2, none⟩ (.int .i64 u.id)).setCell ⟨gr, 3, none⟩ (.int .i64 u.field)).setCell ⟨gr, 4, none⟩ (.int .i64 u.n)).setCell ⟨gr, 5, none⟩ (.string ⟨u.text.toArray⟩)).cell? ⟨gr, 4, none⟩ = some (.int .i64 u.n) ∧
      ((((((wy.setCell ⟨gr, 0, none⟩ (.int .i64 u.kind)).setCell ⟨gr, 1, none⟩ (.int .i64 u.ty)).setCell ⟨gr, 2, none⟩ (.int .i64 u.id)).setCell ⟨gr, 3, none⟩ (.int .i64 u.field)).setCell ⟨gr, 4, none⟩ (.int .i64 u.n)).setCell ⟨gr, 5, none⟩ (.string ⟨u.text.toArray⟩)).cell? ⟨gr, 5, none⟩ = some (.string ⟨u.text.toArray⟩) ∧
      unA w ((((((wy.setCell ⟨gr, 0, none⟩ (.int .i64 u.kind)).setCell ⟨gr, 1, none⟩ (.int .i64 u.ty)).setCell ⟨gr, 2, none⟩ (.int .i64 u.id)).setCell ⟨gr, 3, none⟩ (.int .i64 u.field)).setCell ⟨gr, 4, none⟩ (.int .i64 u.n)).setCell ⟨gr, 5, none⟩ (.string ⟨u.text.toArray⟩)) (.returned (.tuple #[evV u, .int .i64 m])) (undoSt s e)))
  have HT0 := hide ht
  have HH0 := hide hh
  clear ht hh hGS hGE hch
  go_enter Tryz.func8, Tryz.ntmps8
  go_upto_region 1 with fail
  rw [← hW, ← hgr, ← hge, ← hgs]
  clear hW hgr hge hgs
  go_wp2_with fail
  refine (HDO.out _ (Kept.refl _ _)).mono ?_
  clear HDO c0 c1 e0 e1 e2 e3 e4 e5
  intro r w1 hQ
  obtain ⟨hK1, hm⟩ := hQ
  have HK1 := hide hK1
  clear hK1
  obtain ⟨x, hx⟩ : ∃ x, undoSt s e = x := ⟨_, rfl⟩
  cases hd : doSt s e with
  | error m =>
    rw [hd] at hm
    simp only at hm
    subst hm
    have hm0 := doSt_no hd
    have hqb : (m != 0) = true := by simp [hm0]
    have hxe : undoSt s e = .error m := by unfold undoSt; rw [hd]
    have HX := hide hxe
    obtain ⟨w2, hw2⟩ : ∃ w2, w2 = w1.alloc (.cells #[.slice none 0 0, .slice none 0 0] 25) := ⟨_, rfl⟩
    have HK2 := hide (show Same W w2 by rw [hw2]; exact HK1.out.alloc _)
    obtain ⟨q0, q1, q2, q3, q4, q5, q6⟩ := HEND.out w2 HK2.out ev0 m (by rw [hxe]; exact ⟨rfl, rfl⟩)
    obtain ⟨p0, p1, p2, p3, p4, p5, pf⟩ := HFR.out w2 HK2.out
    have HF := hide q6
    clear hd hm0 hxe hx q6
    go_upto_region 2 with fail
    rw [← hw2]
    clear hw2
    go_wp2_with fail
    exact bodyPost_ret (v := .tuple #[evV ev0, .int .i64 m]) (by simp [results, Tryz.results8, go_sem, q0, q1, q2, q3, q4, q5]) rfl HF.out
  | ok s' =>
    rw [hd] at hm
    simp only at hm
    obtain ⟨va, vb, rfl, hva, hvb⟩ := hm
    obtain ⟨a9, c9, rfl, _, _⟩ := id hva
    obtain ⟨b9, d9, rfl, _, _⟩ := id hvb
    have HX := hide (undoSt_ok hd)
    obtain ⟨hrs, hre, _⟩ := doSt_right hd
    have HHAS := hide (fun (h : e.kind ≠ 1) => done_has hd h)
    have HFI := hide (fun (h : 3 ≤ e.kind) => done_field hd h)
    have HR := hide hrs
    have HRE := hide hre
    obtain ⟨w2, hw2⟩ : ∃ w2, w2 = w1.alloc (.cells #[.slice a9 s'.types.length c9, .slice b9 s'.things.length d9] 25) := ⟨_, rfl⟩
    have HK2 := hide (show Same W w2 by rw [hw2]; exact HK1.out.alloc _)
    clear hd hva hvb hx hrs hre
    go_upto_region 2 with fail
    rw [← hw2]
    clear hw2
    obtain ⟨c0, c1, e0, e1, e2, e3, e4, e5⟩ := HALL.out w2 HK2.out
    by_cases k1 : e.kind = 1
    · obtain ⟨q0, q1, q2, q3, q4, q5, q6⟩ := HEND.out w2 HK2.out ⟨2, e.ty, e.id, 0, 0, []⟩ 0 (by rw [HX.out, if_pos k1]; exact ⟨rfl, rfl⟩)
      obtain ⟨p0, p1, p2, p3, p4, p5, pf⟩ := HFR.out w2 HK2.out
      have HF := hide q6
      rw [k1] at e0
      clear q6 k1
      go_wp2_with fail
      exact bodyPost_ret (v := .tuple #[evV ⟨2, e.ty, e.id, 0, 0, []⟩, .int .i64 0]) (by simp [results, Tryz.results8, go_sem, q0, q1, q2, q3, q4, q5]) rfl HF.out
    have b1 : (e.kind == 1) = false := by simp [k1]
    have hhas := HHAS.out k1
    obtain ⟨hpl, hp1, hp2⟩ := place_has HR.out.sorted hhas
    have HTA := hide (fun wy (hy : Same W wy) => thingAt_any wy _ s.things anyB (HH.out wy hy) HR.out.sorted (by have := HR.out.few; omega) e.ty e.id)
    obtain ⟨p, hp⟩ : ∃ p, placeT s.things e.ty e.id = p := ⟨_, rfl⟩
    rw [hhas] at HTA
    rw [hp] at HTA HX
    simp only [hp] at hpl hp1 hp2
    have HK1' := hide k1
    have hpl2 : p < s.things.length := hpl
    have HP12 := hide (show (s.things[p]'hpl2).ty = e.ty ∧ (s.things[p]'hpl2).id = e.id from ⟨hp1, hp2⟩)
    clear hp1 hp2
    clear hpl
    clear k1 hhas hp
    have hpl := hpl2
    go_wp2_with fail
    refine (HTA.out _ HK2.out).mono ?_
    rintro r w3 ⟨rfl, hK3⟩
    have HK3 := hide (tra HK2.out hK3)
    clear hK3 c0 c1 e0 e1 e2 e3 e4 e5 HTA
    obtain ⟨c0, c1, e0, e1, e2, e3, e4, e5⟩ := HALL.out w3 HK3.out
    by_cases k2 : e.kind = 2
    · have HUD := hide (undrop_any w3 _ _ s.types s.things p (HT.out w3 HK3.out) (HH.out w3 HK3.out) hpl (by have := HR.out.few; omega) (right_fit HR.out _ (List.getElem_mem hpl)))
      have HXE := hide (show undoSt s e = undropE s.types s.things[p] by rw [HX.out, if_neg HK1'.out, if_pos k2, getT_at hpl])
      rw [k2] at e0
      clear k2 b1
      go_wp2_with fail
      refine HUD.out.mono ?_
      intro r w4 hQ
      obtain ⟨hK4, hm⟩ := hQ
      have HK4 := hide (tra HK3.out hK4)
      clear hK4
      obtain ⟨p0, p1, p2, p3, p4, p5, pf⟩ := HFR.out w4 HK4.out
      cases hu : undropE s.types s.things[p] with
      | error m =>
        rw [hu] at hm HXE
        simp only at hm
        subst hm
        obtain ⟨q0, q1, q2, q3, q4, q5, q6⟩ := HEND.out w4 HK4.out ev0 m (by rw [HXE.out]; exact ⟨rfl, rfl⟩)
        have HF := hide q6
        clear q6 hu
        go_wp2_with fail
        exact bodyPost_ret (v := .tuple #[evV ev0, .int .i64 m]) (by simp [results, Tryz.results8, go_sem, q0, q1, q2, q3, q4, q5]) rfl HF.out
      | ok u =>
        rw [hu] at hm HXE
        simp only at hm
        subst hm
        obtain ⟨q0, q1, q2, q3, q4, q5, q6⟩ := HEND.out w4 HK4.out u 0 (by rw [HXE.out]; exact ⟨rfl, rfl⟩)
        have HF := hide q6
        clear q6 hu
        go_wp2_with fail
        exact bodyPost_ret (v := .tuple #[evV u, .int .i64 0]) (by simp [results, Tryz.results8, go_sem, q0, q1, q2, q3, q4, q5]) rfl HF.out
    have b2 : (e.kind == 2) = false := by simp [k2]
    have hk36 : 3 ≤ e.kind ∧ e.kind ≤ 6 := by have := HRE.out.kind; have := HK1'.out; omega
    have hix := HFI.out hk36.1
    have hxe : undoSt s e = .ok (unchangeE (getF (fieldsOf s.types e.ty) e.field) (getC (getT s.things p).cells e.field) e) := by rw [HX.out, if_neg HK1'.out, if_neg k2]
    have hit : 0 ≤ e.ty ∧ e.ty < s.types.length := by simpa [isIx] using HRE.out.ty
    obtain ⟨kt, hkt⟩ : ∃ k : Nat, k = e.ty.toNat := ⟨_, rfl⟩
    have htk : e.ty = (kt : Int) := by omega
    have hkl : kt < s.types.length := by omega
    have hfo : fieldsOf s.types e.ty = s.types[kt].fields := by rw [fieldsOf, ← hkt, List.getElem?_eq_getElem hkl]
    rw [hfo] at hix hxe
    have hif : 0 ≤ e.field ∧ e.field < s.types[kt].fields.length := by simpa [isIx] using hix
    obtain ⟨j, hjj⟩ : ∃ k : Nat, k = e.field.toNat := ⟨_, rfl⟩
    have hj : e.field = (j : Int) := by omega
    have hjf : j < s.types[kt].fields.length := by omega
    have hgf : getF s.types[kt].fields e.field = s.types[kt].fields[j] := by rw [getF, ← hjj, List.getElem?_eq_getElem hjf]; rfl
    have okt := HR.out.each _ (List.getElem_mem hpl)
    have hjc : j < s.things[p].cells.length := by rw [okt.2.2.1, HP12.out.1, hfo]; exact hjf
    have hgc : getC (getT s.things p).cells e.field = s.things[p].cells[j] := by rw [getT_at hpl, getC, ← hjj, List.getElem?_eq_getElem hjc]; rfl
    rw [hgf, hgc] at hxe
    obtain ⟨bt, ot, af, nf, cf, rfl, _, y1, hnf, hfl⟩ := HT0.out.at kt hkl
    obtain ⟨bf, of, rfl, f0, f1, f2⟩ := hfl.at j hjf
    obtain ⟨bh, oh, ac, nc, cc, rfl, _, _, _, z2, hnc, hcl⟩ := HH0.out.at p hpl
    obtain ⟨bc, oc, ai, ni, ci, rfl, _, d0, d1, d2, hni, hid⟩ := hcl.at j hjc
    have hjn : (j : Int) < (nf : Int) := by omega
    have hjn2 : (j : Int) < (nc : Int) := by omega
    have hkn : (kt : Int) < (s.types.length : Int) := by omega
    have hpn : (p : Int) < (s.things.length : Int) := by omega
    have hb1 := cell_lt y1
    have hb2 := cell_lt f0
    have hb3 := cell_lt z2
    have hb4 := cell_lt d0
    simp only at hb1 hb2 hb3 hb4
    obtain ⟨f, hf⟩ : ∃ f, s.types[kt].fields[j] = f := ⟨_, rfl⟩
    obtain ⟨c, hc⟩ : ∃ c, s.things[p].cells[j] = c := ⟨_, rfl⟩
    rw [hf] at f0 f1 f2 hxe
    rw [hc] at d0 d1 hni hid hxe
    have HUN := hide (fun wy (hy : Same W wy) => unchange_any wy f c _ e anyB (hid.same (tra HKW.out hy)) hk36)
    obtain ⟨u, hu⟩ : ∃ u, unchangeE f c e = u := ⟨_, rfl⟩
    rw [hu] at HUN hxe
    have HEV : evV e = .agg #[.int .i64 e.kind, .int .i64 e.ty, .int .i64 e.id, .int .i64 (j : Int), .int .i64 e.n, .string ⟨e.text.toArray⟩] := by simp only [evV, hj]
    rw [HEV] at HUN
    clear hu HEV
    have HCC := hide (fun wy (hy : Same W wy) => (⟨(tra HKW.out hy).cell y1 (fun f => f), (tra HKW.out hy).cell f0 (fun f => f), (tra HKW.out hy).cell f1 (fun f => f), (tra HKW.out hy).cell f2 (fun f => f), (tra HKW.out hy).cell z2 (fun f => f), (tra HKW.out hy).cell d0 (fun f => f), (tra HKW.out hy).cell d1 (fun f => f), (tra HKW.out hy).cell d2 (fun f => f)⟩ : wy.cell? ⟨bt, ot + kt * 2 + 1, none⟩ = _ ∧ wy.cell? ⟨bf, of + j * 3, none⟩ = _ ∧ wy.cell? ⟨bf, of + j * 3 + 1, none⟩ = _ ∧ wy.cell? ⟨bf, of + j * 3 + 2, none⟩ = _ ∧ wy.cell? ⟨bh, oh + p * 3 + 2, none⟩ = _ ∧ wy.cell? ⟨bc, oc + j * 3, none⟩ = _ ∧ wy.cell? ⟨bc, oc + j * 3 + 1, none⟩ = _ ∧ wy.cell? ⟨bc, oc + j * 3 + 2, none⟩ = _))
    have HXE := hide hxe
    have HNE := hide (show (gr ≠ bh ∧ gr ≠ bc ∧ bh ≠ gr ∧ bc ≠ gr) ∧ (gr ≠ gs ∧ gr ≠ ge ∧ gs ≠ gr ∧ ge ≠ gr) by have := HLT.out; omega)
    have HET := hide (And.intro htk hj)
    rw [htk] at e1
    rw [hj] at e3
    clear y1 f0 f1 f2 z2 d0 d1 d2 hni hid hxe hf hc hgf hgc hfo hjc okt hjj hkt hit hif hix htk hj k2 hk36 hb1 hb2 hb3 hb4 hnf hfl hnc hcl
    obtain ⟨y1, f0, f1, f2, _, _, _, _⟩ := HCC.out w3 HK3.out
    go_wp2_with fail
    go_region_held3 (fun w' => w'.cell? ⟨gs, 0, none⟩ = some (.slice (some ⟨bt, ot, none⟩) s.types.length ct) ∧ w'.cell? ⟨ge, 1, none⟩ = some (.int .i64 kt) ∧ w'.cell? ⟨bt, ot + kt * 2 + 1, none⟩ = some (.slice (some ⟨bf, of, none⟩) nf cf) ∧ w'.cell? ⟨ge, 3, none⟩ = some (.int .i64 j) ∧ w'.cell? ⟨bf, of + j * 3, none⟩ = some (.string ⟨f.name.toArray⟩) ∧ w'.cell? ⟨bf, of + j * 3 + 1, none⟩ = some (.int .i64 f.kind) ∧ w'.cell? ⟨bf, of + j * 3 + 2, none⟩ = some (.string ⟨f.of.toArray⟩)) (go_keep) (fail)
    obtain ⟨w5, hw5⟩ : ∃ w5, w5 = (w3.alloc (.cells #[.string ⟨f.name.toArray⟩, .int .i64 f.kind, .string ⟨f.of.toArray⟩] 58)).drew := ⟨_, rfl⟩
    obtain ⟨gf, hgf⟩ : ∃ g, g = w3.heap.size := ⟨_, rfl⟩
    have HK5 := hide (show Same W w5 by rw [hw5]; exact (HK3.out.alloc _).drew)
    have hbk : w5.heap[gf]? = some (.cells #[.string ⟨f.name.toArray⟩, .int .i64 f.kind, .string ⟨f.of.toArray⟩] 58 (0, 0)) := by rw [hw5, hgf]; exact heap_alloc_new w3 _
    have hnf : gr ≠ gf ∧ gf ≠ gr := by have h1 := HLT.out; have h2 := HK3.out.size; omega
    obtain ⟨n1, n2⟩ := hnf
    obtain ⟨⟨n3, n4, n5, n6⟩, ⟨n7, n8, n9, n10⟩⟩ := HNE.out
    obtain ⟨g0, g1, g2⟩ := blk3 hbk
    clear c0 c1 e0 e1 e2 e3 e4 e5 y1 f0 f1 f2
    go_wp2_with fail
    rw [← hw5, ← hgf]
    clear hw5 hgf hbk
    obtain ⟨c0, c1, e0, e1, e2, e3, e4, e5⟩ := HALL.out w5 HK5.out
    obtain ⟨_, _, _, _, z2, d0, d1, d2⟩ := HCC.out w5 HK5.out
    rw [HET.out.2] at e3
    go_region_held3 (fun w' => w'.cell? ⟨gf, 0, none⟩ = some (.string ⟨f.name.toArray⟩) ∧ w'.cell? ⟨gf, 1, none⟩ = some (.int .i64 f.kind) ∧ w'.cell? ⟨gf, 2, none⟩ = some (.string ⟨f.of.toArray⟩) ∧ w'.cell? ⟨gs, 1, none⟩ = some (.slice (some ⟨bh, oh, none⟩) s.things.length ch) ∧ w'.cell? ⟨bh, oh + p * 3 + 2, none⟩ = some (.slice (some ⟨bc, oc, none⟩) nc cc) ∧ w'.cell? ⟨bc, oc + j * 3, none⟩ = some (.int .i64 c.n) ∧ w'.cell? ⟨bc, oc + j * 3 + 1, none⟩ = some (.string ⟨c.text.toArray⟩) ∧ w'.cell? ⟨bc, oc + j * 3 + 2, none⟩ = some (.slice ai ni ci) ∧
      w'.cell? ⟨ge, 0, none⟩ = some (.int .i64 e.kind) ∧ w'.cell? ⟨ge, 1, none⟩ = some (.int .i64 e.ty) ∧ w'.cell? ⟨ge, 2, none⟩ = some (.int .i64 e.id) ∧ w'.cell? ⟨ge, 3, none⟩ = some (.int .i64 j) ∧ w'.cell? ⟨ge, 4, none⟩ = some (.int .i64 e.n) ∧ w'.cell? ⟨ge, 5, none⟩ = some (.string ⟨e.text.toArray⟩)) (go_keep)
      ((go_at_call 30; refine (HUN.out _ (tra HK5.out (by exact (by repeat' (first | assumption | exact Kept.refl _ _ | refine Kept.drewN ?_ _ | refine Kept.drew ?_ | refine Kept.alloc ?_ _ | refine Kept.setB ?_ _ _))))).mono ?_; rintro r9 w6 ⟨rfl, hK6⟩; have u0 := hK6.cell (p := ⟨gf, 0, none⟩) (by exact g0) (fun f => f); have u1 := hK6.cell (p := ⟨gf, 1, none⟩) (by exact g1) (fun f => f); have u2 := hK6.cell (p := ⟨gf, 2, none⟩) (by exact g2) (fun f => f); have hK56 := tra HK5.out (tra (by exact (by repeat' (first | assumption | exact Kept.refl _ _ | refine Kept.drewN ?_ _ | refine Kept.drew ?_ | refine Kept.alloc ?_ _ | refine Kept.setB ?_ _ _))) hK6); obtain ⟨vy, v1, v2, v3, v4, vx, v6, v7⟩ := HALL.out w6 hK56; clear vx vy; have v5 := hK6.cell (p := ⟨ge, 3, none⟩) (by exact e3) (fun f => f); obtain ⟨_, _, _, _, x1, x2, x3, x4⟩ := HCC.out w6 hK56; obtain ⟨p0, p1, p2, p3, p4, p5, pf⟩ := HFR.out w6 hK56))
    obtain ⟨q0, q1, q2, q3, q4, q5, q6⟩ := HEND.out w6 hK56 u 0 (by rw [HXE.out]; exact ⟨rfl, rfl⟩)
    have HF := hide q6
    clear q6
    go_wp2_with fail
    exact bodyPost_ret (v := .tuple #[evV u, .int .i64 0]) (by simp [results, Tryz.results8, go_sem, q0, q1, q2, q3, q4, q5]) rfl HF.out

end Go.Proofs.YtidodjbmlbjchaaGreat
