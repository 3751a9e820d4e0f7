/- history.behind. -/
import Derived.Test.YtidodjbmlbjchaaGreatHistorystaysupto11
import Derived.Test.YtidodjbmlbjchaaGreatHistorystaysupto43
import Derived.Test.YtidodjbmlbjchaaGreatHistorystaysupto23
namespace Go.Proofs.YtidodjbmlbjchaaGreat
open Go.RowKit

/-- a box with a state in blocks from b0 on -/
structure StB (b0 : Nat) (w0 w : World) (g : Nat) (a1 : Option Addr) (c1 : Nat) (a2 : Option Addr) (c2 : Nat) (s : StateT) : Prop where
  kept : Kept (· = g) w0 w
  blk : w.heap[g]? = some (.cells #[.slice a1 s.types.length c1, .slice a2 s.things.length c2] 25 (0, 0))
  ty : TypSl (b0 ≤ ·) w (.slice a1 s.types.length c1) s.types
  th : ThgSl (b0 ≤ ·) w (.slice a2 s.things.length c2) s.things

theorem StB.same {b0 g c1 c2 : Nat} {a1 a2 : Option Addr} {w0 w w' : World} {s : StateT} (h : StB b0 w0 w g a1 c1 a2 c2 s) (k : Same w w') : StB b0 w0 w' g a1 c1 a2 c2 s :=
  ⟨h.kept.trans k (fun _ _ f => f.elim), blk_kept h.blk k (fun f => f), h.ty.same k, h.th.same k⟩
theorem StB.put {b0 g d1 d2 : Nat} {e1 e2 : Option Addr} {w0 w : World} {x y : Value} {s : StateT} (hk : Kept (· = g) w0 w) (hb : w.heap[g]? = some (.cells #[x, y] 25 (0, 0))) (hg : g < b0) (ht : TypSl (b0 ≤ ·) w (.slice e1 s.types.length d1) s.types) (hh : ThgSl (b0 ≤ ·) w (.slice e2 s.things.length d2) s.things) :
    StB b0 w0 ((w.setCell ⟨g, 0, none⟩ (.slice e1 s.types.length d1)).setCell ⟨g, 1, none⟩ (.slice e2 s.things.length d2)) g e1 d1 e2 d2 s := by
  have hK : Kept (· = g) w ((w.setCell ⟨g, 0, none⟩ (.slice e1 s.types.length d1)).setCell ⟨g, 1, none⟩ (.slice e2 s.things.length d2)) := ((Kept.refl _ w).setB 0 _).setB 1 _
  exact ⟨hk.trans hK (fun _ _ e => e), set2b' hb _ _, ht.keep hK (fun x hx e => by omega), hh.keep hK (fun x hx e => by omega)⟩

theorem ThO.sl {lo hi : Nat} {w : World} {v : Value} {l : List ThingT} (h : ThO lo hi w v l) (hl : l.length ≤ maxLen) (hc : ∀ t ∈ l, t.cells.length ≤ maxLen ∧ ∀ c ∈ t.cells, c.ids.length ≤ maxLen) : ThgSl (fun k => lo ≤ k ∧ k < hi) w v l := by
  obtain ⟨tp, D, rfl, hown, hhr, hD0, hDm, hDn, hceo⟩ := h
  refine thg_own hown (fun k hk => ⟨(own_up hown k hk).1, hhr k hk⟩) (by simpa using hl) (fun p hp => ?_) rfl
  obtain ⟨i, hi⟩ := List.getElem?_of_mem hp
  have hil : i < tp.length := (List.getElem?_eq_some_iff.1 hi).1
  have hm := hc p.1 (List.mem_map_of_mem hp)
  have h1 := D_mono hDm i 0 (by omega) (by omega)
  have h2 := D_mono hDm tp.length (i + 1) (by omega) (Nat.le_refl _)
  exact ((hceo i p hi).sl hm.1 hm.2).mono (fun k _ hk => ⟨by omega, by omega⟩)

set_option maxRecDepth 20000 in
set_option maxHeartbeats 3200000 in
theorem behind_any (P : Nat → Prop) (w : World) (vt vh lv : Value) (s : StateT) (l : List EventT) (ht : TypSl anyB w vt s.types) (hh : ThgSl anyB w vh s.things) (hsm : Small s.types s.things) (hl : EvSl P w lv l) :
    Calls Tryz.prog 44 #[stV vt vh, lv] w fun r w' => doA w w' r (allS s l) := by
  obtain ⟨at', ct, rfl, _, _⟩ := id ht
  obtain ⟨ah, ch, rfl, _, _⟩ := id hh
  obtain ⟨al, cl, rfl⟩ := hl.form
  obtain ⟨hz1, hmax, hz2⟩ := hl.len
  clear hz1 hz2
  obtain ⟨W, hW⟩ : ∃ W, W = (w.alloc (.cells #[.slice at' s.types.length ct, .slice ah s.things.length ch] 25)).alloc (.cells #[.slice none 0 0, .slice none 0 0] 25) := ⟨_, rfl⟩
  obtain ⟨gs, hgs⟩ : ∃ g, g = w.heap.size := ⟨_, rfl⟩
  obtain ⟨gr, hgr⟩ : ∃ g, g = w.heap.size + 1 := ⟨_, rfl⟩
  have HKW := hide (show Same w W by rw [hW]; exact ((Kept.refl _ w).alloc _).alloc _)
  have hGS : W.heap[gs]? = some (.cells #[.slice at' s.types.length ct, .slice ah s.things.length ch] 25 (0, 0)) := by rw [hW, hgs]; exact al_o _ _ _
  have HGR := hide (show W.heap[gr]? = some (.cells #[.slice none 0 0, .slice none 0 0] 25 (0, 0)) by rw [hW, hgr]; exact al_n _ _ _)
  have HLT := hide (show w.heap.size ≤ gs ∧ gs < gr ∧ gr < W.heap.size by rw [hW, hgs, hgr]; simp)
  have HGS := hide hGS
  have HCL := hide (cloneSt_any anyB W _ _ s.types s.things (ht.same HKW.out) (hh.same HKW.out) hsm)
  have HEV := hide (fun wy (hy : Kept (· = gs) W wy) => ((hl.mono (Q := (· < w.heap.size)) (fun b hb _ => hb)).same HKW.out).keep hy (fun b hb e => by have := HLT.out; omega))
  obtain ⟨x, hx⟩ : ∃ x, allS s l = x := ⟨_, rfl⟩
  rw [hx]
  have HX := hide hx
  have HSM := hide hsm
  obtain ⟨c0, c1⟩ := blk2' hGS
  clear hx ht hh hl hGS hsm
  go_enter Tryz.func44, Tryz.ntmps44
  go_upto_region 1 with fail
  rw [← hW, ← hgr, ← hgs]
  clear hW hgr hgs
  go_wp2_with fail
  refine HCL.out.mono ?_
  clear HCL c0 c1
  rintro r w1 ⟨a1, t1, a2, t2, lo1, hi1, lo2, hi2, rfl, hty, hth, ⟨hl1, hl2, _⟩, hK1⟩
  have hsm := HSM.out
  have HS0 := hide (show StB W.heap.size W ((w1.setCell ⟨gs, 0, none⟩ (.slice a1 s.types.length t1)).setCell ⟨gs, 1, none⟩ (.slice a2 s.things.length t2)) gs a1 t1 a2 t2 s from
    StB.put hK1.to (blk_kept HGS.out hK1 (fun f => f)) (by have := HLT.out; omega)
      ((hty.sl (by unfold maxLen; have := hsm.1; omega) (fun c hc => by have := hsm.2.1 c hc; unfold maxLen; omega)).mono (fun k _ hk => by omega))
      ((hth.sl (by unfold maxLen; have := hsm.2.2.1; omega) (fun t ht => ⟨by have := (hsm.2.2.2 t ht).1; unfold maxLen; omega, fun c hc => by have := (hsm.2.2.2 t ht).2 c hc; unfold maxLen; omega⟩)).mono (fun k _ hk => by omega)))
  obtain ⟨c0, c1⟩ := blk2' (blk_kept HGS.out hK1 (fun f => f))
  have p2 := fro2' (blk_kept HGS.out hK1 (fun f => f))
  clear hty hth hl1 hl2 hK1 hsm
  go_upto_region 2 with fail
  obtain ⟨w2, hw2⟩ : ∃ w2, w2 = (w1.setCell ⟨gs, 0, none⟩ (.slice a1 s.types.length t1)).setCell ⟨gs, 1, none⟩ (.slice a2 s.things.length t2) := ⟨_, rfl⟩
  rw [← hw2] at HS0 ⊢
  clear hw2 c0 c1 p2
  go_wp2_with fail
  go_loopg [14] l.length (fun g i wr => ∃ k : Nat, k + g = l.length ∧ i = .int .i64 k ∧ ∃ (sk : StateT) (a1 : Option Addr) (t1 : Nat) (a2 : Option Addr) (t2 : Nat), Hid (StB W.heap.size W wr gs a1 t1 a2 t2 sk) ∧ Hid (allS sk (l.drop k) = x))
  case atStart => exact ⟨0, by omega, rfl, s, a1, t1, a2, t2, HS0, HX.out⟩
  case round =>
    obtain ⟨k, hk, rfl, sk, a1', t1', a2', t2', HS, HXK⟩ := hrel
    obtain ⟨c0, c1⟩ := blk2' HS.out.blk
    by_cases hlt : k < l.length
    · obtain ⟨b, off, rfl, _, f0, f1, f2, f3, f4, f5⟩ := (HEV.out wr HS.out.kept).at k hlt
      obtain ⟨e, hee⟩ : ∃ e, e = l[k] := ⟨_, rfl⟩
      have HXE := hide (show (match doSt sk e with | .error m => .error m | .ok s' => allS s' (l.drop (k + 1))) = x by
        have h := HXK.out
        rw [List.drop_eq_getElem_cons hlt, ← hee, allS] at h
        exact h)
      rw [← hee] at f0 f1 f2 f3 f4 f5
      clear hee
      obtain ⟨w3, hw3⟩ : ∃ w3, w3 = wr.alloc (.cells #[.int .i64 e.kind, .int .i64 e.ty, .int .i64 e.id, .int .i64 e.field, .int .i64 e.n, .string ⟨e.text.toArray⟩] 27) := ⟨_, rfl⟩
      obtain ⟨g3, hg3⟩ : ∃ g, g = wr.heap.size := ⟨_, rfl⟩
      have HK3 := hide (show Same wr w3 by rw [hw3]; exact (Kept.refl _ wr).alloc _)
      obtain ⟨e0, e1, e2, e3, e4, e5⟩ := blk6 (show w3.heap[g3]? = some (.cells #[.int .i64 e.kind, .int .i64 e.ty, .int .i64 e.id, .int .i64 e.field, .int .i64 e.n, .string ⟨e.text.toArray⟩] 27 (0, 0)) by rw [hw3, hg3]; exact heap_alloc_new _ _)
      have HS3 := hide (HS.out.same HK3.out)
      have HDO := hide (stDo_any w3 _ _ sk e HS3.out.ty.any HS3.out.th.any)
      go_upto_region 5 with fail
      rw [← hw3, ← hg3]
      clear hw3 hg3 f0 f1 f2 f3 f4 f5 c0 c1
      obtain ⟨c0, c1⟩ := blk2' HS3.out.blk
      go_wp2_with fail
      refine HDO.out.mono ?_
      clear HDO e0 e1 e2 e3 e4 e5 c0 c1
      rintro r w4 ⟨hK4, hm⟩
      have HS4 := hide (HS3.out.same hK4)
      have hR4 := blk_kept HGR.out HS4.out.kept (by have := HLT.out; show ¬ gr = gs; omega)
      have HR4 := hide hR4
      clear hK4 hR4
      cases hd : doSt sk e with
      | error m =>
        rw [hd] at hm HXE
        simp only at hm
        subst hm
        have hm0 := doSt_no hd
        have hqb : (m != 0) = true := by simp [hm0]
        obtain ⟨w5, hw5⟩ : ∃ w5, w5 = w4.alloc (.cells #[.slice none 0 0, .slice none 0 0] 25) := ⟨_, rfl⟩
        have HK45 := hide (show Same w4 w5 by rw [hw5]; exact (Kept.refl _ w4).alloc _)
        have HR5 := hide (blk_kept HR4.out HK45.out (fun f => f))
        obtain ⟨p0, p1⟩ := blk2' HR5.out
        have p2 := fro2' HR5.out
        obtain ⟨q0', q1'⟩ := blk2' (set2b' HR5.out (.slice none 0 0) (.slice none 0 0))
        have hKg : Kept (· = gr) w5 ((w5.setCell ⟨gr, 0, none⟩ (.slice none 0 0)).setCell ⟨gr, 1, none⟩ (.slice none 0 0)) := ((Kept.refl _ w5).setB 0 _).setB 1 _
        have HF := hide (show doA w _ (.returned (.tuple #[stV (.slice none 0 0) (.slice none 0 0), .int .i64 m])) x from
          ⟨HKW.out.trans (((HS4.out.same HK45.out).kept.mono (Y := fun k => k = gs ∨ k = gr) (fun i _ e => .inl e)).trans hKg (fun i _ e => .inr e)) (fun i hi e => by have := HLT.out; omega), by rw [← HXE.out]⟩)
        clear hd hm0 hKg
        go_upto_region 6 with fail
        rw [← hw5]
        clear hw5
        go_wp2_with fail
        exact bodyPost_ret (v := .tuple #[stV (.slice none 0 0) (.slice none 0 0), .int .i64 m]) (by simp [results, Tryz.results44, go_sem, q0', q1']) rfl HF.out
      | ok s' =>
        rw [hd] at hm HXE
        simp only at hm
        obtain ⟨va, vb, rfl, hva, hvb⟩ := hm
        obtain ⟨a5, c5, rfl, _, _⟩ := id hva
        obtain ⟨a6, c6, rfl, _, _⟩ := id hvb
        obtain ⟨w5, hw5⟩ : ∃ w5, w5 = w4.alloc (.cells #[.slice a5 s'.types.length c5, .slice a6 s'.things.length c6] 25) := ⟨_, rfl⟩
        obtain ⟨g5, hg5⟩ : ∃ g, g = w4.heap.size := ⟨_, rfl⟩
        have HK45 := hide (show Same w4 w5 by rw [hw5]; exact (Kept.refl _ w4).alloc _)
        have HS5 := hide (HS4.out.same HK45.out)
        obtain ⟨z0, z1⟩ := blk2' (show w5.heap[g5]? = some (.cells #[.slice a5 s'.types.length c5, .slice a6 s'.things.length c6] 25 (0, 0)) by rw [hw5, hg5]; exact heap_alloc_new _ _)
        have hsz : W.heap.size ≤ w3.heap.size := Nat.le_trans HS.out.kept.size HK3.out.size
        have HSN := hide (StB.put HS5.out.kept HS5.out.blk (by have := HLT.out; omega) ((hva.same HK45.out).mono (fun k _ hk => Nat.le_trans hsz hk)) ((hvb.same HK45.out).mono (fun k _ hk => Nat.le_trans hsz hk)))
        obtain ⟨y0, y1⟩ := blk2' HS5.out.blk
        have y2 := fro2' HS5.out.blk
        clear hd hva hvb hsz
        go_upto_region 6 with fail
        rw [← hw5, ← hg5]
        clear hw5 hg5
        go_wp2_with fail
        go_roundg (gk - 1)
        case measure => omega
        case rel => exact ⟨k + 1, by omega, by go_num, s', a5, c5, a6, c6, HSN, HXE⟩
    · have HXE := hide (show .ok sk = x by
        have h := HXK.out
        rw [List.drop_eq_nil_of_le (by omega), allS] at h
        exact h)
      have HRr := hide (blk_kept HGR.out HS.out.kept (by have := HLT.out; show ¬ gr = gs; omega))
      obtain ⟨p0, p1⟩ := blk2' HRr.out
      have p2 := fro2' HRr.out
      obtain ⟨q0', q1'⟩ := blk2' (set2b' HRr.out (.slice a1' sk.types.length t1') (.slice a2' sk.things.length t2'))
      have hKg : Kept (· = gr) wr ((wr.setCell ⟨gr, 0, none⟩ (.slice a1' sk.types.length t1')).setCell ⟨gr, 1, none⟩ (.slice a2' sk.things.length t2')) := ((Kept.refl _ wr).setB 0 _).setB 1 _
      have hlt2 := HLT.out
      have HF := hide (show doA w _ (.returned (.tuple #[stV (.slice a1' sk.types.length t1') (.slice a2' sk.things.length t2'), .int .i64 0])) x from
        ⟨HKW.out.trans ((HS.out.kept.mono (Y := fun k => k = gs ∨ k = gr) (fun i _ e => .inl e)).trans hKg (fun i _ e => .inr e)) (fun i hi e => by omega), by
          rw [← HXE.out]
          exact ⟨_, _, rfl, (HS.out.ty.keep hKg (fun k hk e => by omega)).mono (fun k _ hk => by omega), (HS.out.th.keep hKg (fun k hk e => by omega)).mono (fun k _ hk => by omega)⟩⟩)
      clear hKg hlt2
      go_wp2_with fail
      exact bodyPost_ret (v := .tuple #[stV (.slice a1' sk.types.length t1') (.slice a2' sk.things.length t2'), .int .i64 0]) (by simp [results, Tryz.results44, go_sem, q0', q1']) rfl HF.out

end Go.Proofs.YtidodjbmlbjchaaGreat
