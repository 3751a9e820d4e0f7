/- The law HistoryBack. -/
import Derived.Test.YtidodjbmlbjchaaGreatHistoryback51
namespace Go.Proofs.YtidodjbmlbjchaaGreat
open Go.RowKit

/-- a box with a state, whose blocks are others -/
structure StN (w0 w : World) (g : Nat) (a1 : Option Addr) (c1 : Nat) (a2 : Option Addr) (c2 : Nat) (s : StateT) : Prop where
  kept : Kept (· = g) w0 w
  blk : w.heap[g]? = some (.cells #[.slice a1 s.types.length c1, .slice a2 s.things.length c2] 25 (0, 0))
  ty : TypSl (· ≠ g) w (.slice a1 s.types.length c1) s.types
  th : ThgSl (· ≠ g) w (.slice a2 s.things.length c2) s.things
theorem StN.same {g c1 c2 : Nat} {a1 a2 : Option Addr} {w0 w w' : World} {s : StateT} (h : StN w0 w g a1 c1 a2 c2 s) (k : Same w w') : StN w0 w' g a1 c1 a2 c2 s :=
  ⟨h.kept.trans k (fun _ _ f => f.elim), blk_kept h.blk k (fun f => f), h.ty.same k, h.th.same k⟩
theorem StN.put {g d1 d2 : Nat} {e1 e2 : Option Addr} {w0 w : World} {x y : Value} {s : StateT} (hk : Kept (· = g) w0 w) (hb : w.heap[g]? = some (.cells #[x, y] 25 (0, 0))) (ht : TypSl (· ≠ g) w (.slice e1 s.types.length d1) s.types) (hh : ThgSl (· ≠ g) w (.slice e2 s.things.length d2) s.things) :
    StN w0 ((w.setCell ⟨g, 0, none⟩ (.slice e1 s.types.length d1)).setCell ⟨g, 1, none⟩ (.slice e2 s.things.length d2)) g e1 d1 e2 d2 s := by
  have hK : Kept (· = g) w ((w.setCell ⟨g, 0, none⟩ (.slice e1 s.types.length d1)).setCell ⟨g, 1, none⟩ (.slice e2 s.things.length d2)) := ((Kept.refl _ w).setB 0 _).setB 1 _
  exact ⟨hk.trans hK (fun _ _ e => e), set2b' hb _ _, ht.keep hK (fun x hx e => hx e), hh.keep hK (fun x hx e => hx e)⟩

set_option maxRecDepth 20000 in
set_option maxHeartbeats 3200000 in
theorem historyBack_any (w : World) (vt vh lv : Value) (s : StateT) (l : List EventT) (ht : TypSl anyB w vt s.types) (hh : ThgSl anyB w vh s.things) (hl : EvSl anyB w lv l) :
    Calls Tryz.prog 6 #[stV vt vh, lv] w fun r w' => r = .returned (.bool true) ∧ Same w w' := by
  obtain ⟨at', ct, rfl, _, _⟩ := id ht
  obtain ⟨ah, ch, rfl, _, _⟩ := id hh
  obtain ⟨al, cl, rfl⟩ := hl.form
  obtain ⟨hz1, hmax, hz2⟩ := hl.len
  clear hz1 hz2
  obtain ⟨W, hW⟩ : ∃ W, W = w.alloc (.cells #[.slice at' s.types.length ct, .slice ah s.things.length ch] 25) := ⟨_, rfl⟩
  obtain ⟨gs, hgs⟩ : ∃ g, g = w.heap.size := ⟨_, rfl⟩
  have HKW := hide (show Same w W by rw [hW]; exact (Kept.refl _ w).alloc _)
  have hGS : W.heap[gs]? = some (.cells #[.slice at' s.types.length ct, .slice ah s.things.length ch] 25 (0, 0)) := by rw [hW, hgs]; exact heap_alloc_new _ _
  have HGS := hide hGS
  have HSC := hide (fun wy (hy : Same W wy) => blk2' (blk_kept hGS hy (fun f => f)))
  have HTB := hide (show TypSl (fun k => k < W.heap.size) W (.slice at' s.types.length ct) s.types from (ht.same HKW.out).mono (fun k hk _ => hk))
  have HHB := hide (show ThgSl (fun k => k < W.heap.size) W (.slice ah s.things.length ch) s.things from (hh.same HKW.out).mono (fun k hk _ => hk))
  have HLB := hide (show EvSl (fun k => k < W.heap.size) W (.slice al l.length cl) l from (hl.same HKW.out).mono (fun k hk _ => hk))
  clear ht hh hl hGS
  go_enter Tryz.func6, Tryz.ntmps6
  go_upto_region 1 with fail
  rw [← hW, ← hgs]
  clear hW hgs
  go_wp2_with fail
  refine (historyBegun_any _).mono ?_
  rintro r w1 ⟨rfl, hK1⟩
  have HK1 := hide hK1
  clear hK1
  go_wp2_with fail
  refine (stateBegun_any _).mono ?_
  rintro r w2 ⟨rfl, hK2⟩
  have HK2 := hide (tra HK1.out hK2)
  clear hK2
  have HGR := hide (group_any _ w2 _ _ _ s l (HTB.out.any.same HK2.out) (HHB.out.any.same HK2.out) (HLB.out.same HK2.out))
  obtain ⟨c0, c1⟩ := HSC.out w2 HK2.out
  go_wp2_with fail
  refine HGR.out.mono ?_
  clear HGR c0 c1
  rintro r w3 ⟨hK3, hm⟩
  have HK3 := hide (tra HK2.out hK3)
  clear hK3
  cases hg : groupS s l with
  | error m =>
    rw [hg] at hm
    simp only at hm
    subst hm
    have hm0 := groupS_no hg
    have hqb : (m != 0) = true := by simp [hm0]
    clear hg hm0
    go_wp2_with fail
    go_ret
    exact ⟨rfl, tra HKW.out (HK3.out.alloc _)⟩
  | ok a =>
    rw [hg] at hm
    simp only at hm
    obtain ⟨va, vb, rfl, hva, hvb⟩ := hm
    obtain ⟨hrs, hl8, hall⟩ := groupS_ok hg
    obtain ⟨a3, c3, rfl, _, _⟩ := id hva
    obtain ⟨a4, c4, rfl, _, _⟩ := id hvb
    have HG := hide hg
    have HALL := hide hall
    obtain ⟨w4, hw4⟩ : ∃ w4, w4 = w3.alloc (.cells #[.slice a3 a.types.length c3, .slice a4 a.things.length c4] 25) := ⟨_, rfl⟩
    obtain ⟨ga, hga⟩ : ∃ g, g = w3.heap.size := ⟨_, rfl⟩
    have HK34 := hide (show Same w3 w4 by rw [hw4]; exact (Kept.refl _ w3).alloc _)
    have HK4 := hide (tra HK3.out HK34.out)
    have HTA := hide (show TypSl (fun k => k < w4.heap.size) w4 (.slice a3 a.types.length c3) a.types from (hva.same HK34.out).mono (fun k hk _ => hk))
    have HHA := hide (show ThgSl (fun k => k < w4.heap.size) w4 (.slice a4 a.things.length c4) a.things from (hvb.same HK34.out).mono (fun k hk _ => hk))
    have HBX := hide (show w4.heap[ga]? = some (.cells #[.slice a3 a.types.length c3, .slice a4 a.things.length c4] 25 (0, 0)) by rw [hw4, hga]; exact heap_alloc_new _ _)
    clear hva hvb hg hrs hl8 hall
    go_upto_region 4 with fail
    rw [← hw4, ← hga]
    clear hw4 hga
    obtain ⟨c0, c1⟩ := HSC.out w4 HK4.out
    go_wp2_with fail
    obtain ⟨w5, hw5⟩ : ∃ w5, w5 = w4.alloc (.cells #[.slice at' s.types.length ct, .slice ah s.things.length ch] 25) := ⟨_, rfl⟩
    obtain ⟨g7, hg7⟩ : ∃ g, g = w4.heap.size := ⟨_, rfl⟩
    have HK45 := hide (show Same w4 w5 by rw [hw5]; exact (Kept.refl _ w4).alloc _)
    have HLT := hide (show W.heap.size ≤ g7 ∧ g7 < w5.heap.size ∧ w4.heap.size ≤ g7 by have := HK4.out.size; rw [hw5, hg7, World.size_alloc]; omega)
    have hb7 : w5.heap[g7]? = some (.cells #[.slice at' s.types.length ct, .slice ah s.things.length ch] 25 (0, 0)) := by rw [hw5, hg7]; exact heap_alloc_new _ _
    have HST := hide (show StN w5 w5 g7 at' ct ah ch s from ⟨Kept.refl _ _, hb7, ((HTB.out.same HK4.out).same HK45.out).mono (fun k _ hk => by have := HLT.out; omega), ((HHB.out.same HK4.out).same HK45.out).mono (fun k _ hk => by have := HLT.out; omega)⟩)
    have HEV := hide (fun wy (hy : Kept (· = g7) w5 wy) => ((HLB.out.same HK4.out).same HK45.out).keep hy (fun b hb e => by have := HLT.out; omega))
    rw [← hw5, ← hg7]
    clear hw5 hg7 hb7 c0 c1
    go_loopg [8] l.length (fun g i wr => ∃ k : Nat, k + g = l.length ∧ i = .int .i64 k ∧ ∃ (sk : StateT) (b1 : Option Addr) (t1 : Nat) (b2 : Option Addr) (t2 : Nat), Hid (StN w5 wr g7 b1 t1 b2 t2 sk) ∧ Hid (allS s (l.take k) = .ok sk))
    case atStart => exact ⟨0, by omega, rfl, s, at', ct, ah, ch, HST, rfl⟩
    case round =>
      obtain ⟨k, hk, rfl, sk, b1, t1, b2, t2, HS, HA⟩ := hrel
      by_cases hlt : k < l.length
      · obtain ⟨be, off, rfl, _, f0, f1, f2, f3, f4, f5⟩ := (HEV.out wr HS.out.kept).at k hlt
        obtain ⟨e, hee⟩ : ∃ e, e = l[k] := ⟨_, rfl⟩
        obtain ⟨sn, hsn, hsn2⟩ := allS_next HALL.out HA.out (List.getElem?_eq_getElem hlt)
        rw [← hee] at f0 f1 f2 f3 f4 f5 hsn
        have HSN := hide hsn2
        have HDO := hide (fun wy (hy : Same wr wy) => stDo_any wy _ _ sk e (HS.out.same hy).ty.any (HS.out.same hy).th.any)
        rw [hsn] at HDO
        obtain ⟨c0, c1⟩ := blk2' HS.out.blk
        have HG7 := hide (show g7 < wr.heap.size from (Array.getElem?_eq_some_iff.1 HS.out.blk).1)
        have HBL := hide (fun wy (hy : Same wr wy) => (⟨hy.cell f0 (fun f => f), hy.cell f1 (fun f => f), hy.cell f2 (fun f => f), hy.cell f3 (fun f => f), hy.cell f4 (fun f => f), hy.cell f5 (fun f => f)⟩ : wy.cell? ⟨be, off + k * 6, none⟩ = _ ∧ wy.cell? ⟨be, off + k * 6 + 1, none⟩ = _ ∧ wy.cell? ⟨be, off + k * 6 + 2, none⟩ = _ ∧ wy.cell? ⟨be, off + k * 6 + 3, none⟩ = _ ∧ wy.cell? ⟨be, off + k * 6 + 4, none⟩ = _ ∧ wy.cell? ⟨be, off + k * 6 + 5, none⟩ = _))
        have hbe : be < wr.heap.size := cell_lt f0
        have hn1 : be ≠ wr.heap.size := by omega
        have hn2 : wr.heap.size ≠ be := by omega
        have hn3 : g7 ≠ wr.heap.size := by have := HG7.out; omega
        have hn4 : wr.heap.size ≠ g7 := by omega
        clear hee hsn hsn2
        go_upto_region 10 with fail
        go_cut [9, 10] from 36 to 53 (fun v9 v10 wx => ∃ (g9 : Nat) (a5 : Option Addr) (c5 : Nat) (a6 : Option Addr) (c6 : Nat), v9 = .pointer (some ⟨g9, 0, none⟩) ∧ v10 = .int .i64 0 ∧ Hid (Same wr wx) ∧ Hid (wx.heap[g9]? = some (.cells #[.slice a5 sn.types.length c5, .slice a6 sn.things.length c6] 25 (0, 0))) ∧ Hid (TypSl (wr.heap.size ≤ ·) wx (.slice a5 sn.types.length c5) sn.types) ∧ Hid (ThgSl (wr.heap.size ≤ ·) wx (.slice a6 sn.things.length c6) sn.things))
        case first =>
          go_region_held3 (fun w' => w'.cell? ⟨g7, 0, none⟩ = some (.slice b1 sk.types.length t1) ∧ w'.cell? ⟨g7, 1, none⟩ = some (.slice b2 sk.things.length t2) ∧ w'.cell? ⟨be, off + k * 6, none⟩ = some (.int .i64 e.kind) ∧ w'.cell? ⟨be, off + k * 6 + 1, none⟩ = some (.int .i64 e.ty) ∧ w'.cell? ⟨be, off + k * 6 + 2, none⟩ = some (.int .i64 e.id) ∧ w'.cell? ⟨be, off + k * 6 + 3, none⟩ = some (.int .i64 e.field) ∧ w'.cell? ⟨be, off + k * 6 + 4, none⟩ = some (.int .i64 e.n) ∧ w'.cell? ⟨be, off + k * 6 + 5, none⟩ = some (.string ⟨e.text.toArray⟩)) (go_keep)
            ((go_at_call 7; refine (HDO.out _ (by exact (by repeat' (first | assumption | exact Kept.refl _ _ | refine Kept.drewN ?_ _ | refine Kept.drew ?_ | refine Kept.alloc ?_ _ | refine Kept.setB ?_ _ _)))).mono ?_; rintro r9 w9 ⟨hK9, vt9, vh9, rfl, h1, h2⟩; obtain ⟨a5, c5, rfl, _, _⟩ := id h1; obtain ⟨a6, c6, rfl, _, _⟩ := id h2; have HK9 := hide (tra (show Same wr _ from (by exact (by repeat' (first | assumption | exact Kept.refl _ _ | refine Kept.drewN ?_ _ | refine Kept.drew ?_ | refine Kept.alloc ?_ _ | refine Kept.setB ?_ _ _)))) hK9); have HF9 := hide (And.intro (h1.mono (Q := (wr.heap.size ≤ ·)) (fun k _ hk => Nat.le_trans (show wr.heap.size ≤ _ from (show Same wr _ from (by exact (by repeat' (first | assumption | exact Kept.refl _ _ | refine Kept.drewN ?_ _ | refine Kept.drew ?_ | refine Kept.alloc ?_ _ | refine Kept.setB ?_ _ _)))).size) hk)) (h2.mono (Q := (wr.heap.size ≤ ·)) (fun k _ hk => Nat.le_trans (show wr.heap.size ≤ _ from (show Same wr _ from (by exact (by repeat' (first | assumption | exact Kept.refl _ _ | refine Kept.drewN ?_ _ | refine Kept.drew ?_ | refine Kept.alloc ?_ _ | refine Kept.setB ?_ _ _)))).size) hk))); obtain ⟨v0, v1⟩ := blk2' (HS.out.same HK9.out).blk; obtain ⟨v2, v3, v4, v5, v6, v7⟩ := HBL.out w9 HK9.out; first | (have hbx := new_kept hK9 (fun f => f); obtain ⟨y0, y1⟩ := blk2' hbx; have y2 := fro2' hbx) | (have hbx := new_kept hK9.unD (fun f => f); obtain ⟨y0, y1⟩ := blk2' hbx; have y2 := fro2' hbx) | skip; have hn5 : be ≠ w9.heap.size := (by have := HK9.out.size; omega); have hn6 : w9.heap.size ≠ be := (by omega); have hn7 : g7 ≠ w9.heap.size := (by have := HK9.out.size; have := HG7.out; omega); have hn8 : w9.heap.size ≠ g7 := (by omega); clear hK9 h1 h2))
          all_goals
            go_wp2_with fail
            go_meet
            case rel =>
              first
                | (have hz : w9.heap[wr.heap.size]? = some (.cells #[.slice none 0 0, .slice none 0 0] 25 (0, 0)) := hbx
                   have hKg : Kept (· = wr.heap.size) w9 ((w9.setCell ⟨wr.heap.size, 0, none⟩ (.slice a5 sn.types.length c5)).setCell ⟨wr.heap.size, 1, none⟩ (.slice a6 sn.things.length c6)) := ((Kept.refl _ w9).setB 0 _).setB 1 _
                   exact ⟨_, _, _, _, _, rfl, rfl, HK9.out.trans hKg (fun i hi e => by omega), set2b' hz _ _, ((HF9.out.1.off hz).keep hKg (fun k hk e => hk.2 e)).mono (fun k _ hk => hk.1), ((HF9.out.2.off hz).keep hKg (fun k hk e => hk.2 e)).mono (fun k _ hk => hk.1)⟩)
                | exact ⟨_, _, _, _, _, rfl, rfl, HK9.out.alloc _, heap_alloc_new _ _, HF9.out.1.same ((Kept.refl _ w9).alloc _), HF9.out.2.same ((Kept.refl _ w9).alloc _)⟩
        case rest =>
          obtain ⟨g9, a5, c5, a6, c6, rfl, rfl, HKc, hbc, htc, hhc⟩ := hcut
          obtain ⟨z0, z1⟩ := blk2' hbc.out
          have HSc := hide (HS.out.same HKc.out)
          obtain ⟨y0, y1⟩ := blk2' HSc.out.blk
          have y2 := fro2' HSc.out.blk
          have HNEW := hide (StN.put HSc.out.kept HSc.out.blk (htc.out.mono (fun k _ hk => by have := HG7.out; omega)) (hhc.out.mono (fun k _ hk => by have := HG7.out; omega)))
          clear hbc htc hhc hn1 hn2 hn3 hn4 hbe c0 c1 f0 f1 f2 f3 f4 f5
          go_wp2_with fail
          go_roundg (gk - 1)
          case measure => omega
          case rel => exact ⟨k + 1, by omega, by go_num, sn, a5, c5, a6, c6, HNEW, HSN⟩
      · have hsk : sk = a := by
          have h1 := HA.out
          rw [List.take_of_length_le (by omega), HALL.out] at h1
          cases h1
          rfl
        subst hsk
        have HKK := hide (fun wy (hy : Same wr wy) => (show Kept (· = g7) w4 wy from ((HK45.out.to).trans HS.out.kept (fun _ _ e => e)).trans hy (fun _ _ f => f.elim)))
        have HFA := hide (fun wy (hy : Same wr wy) => (⟨blk2' (blk_kept HBX.out (HKK.out wy hy) (by have h1 := (Array.getElem?_eq_some_iff.1 HBX.out).1; have h2 := HLT.out; show ¬ ga = g7; omega)), (HTA.out.keep (HKK.out wy hy) (fun b hb e => by have := HLT.out; omega)).any, (HHA.out.keep (HKK.out wy hy) (fun b hb e => by have := HLT.out; omega)).any⟩ : (wy.cell? ⟨ga, 0, none⟩ = some (.slice a3 sk.types.length c3) ∧ wy.cell? ⟨ga, 1, none⟩ = some (.slice a4 sk.things.length c4)) ∧ TypSl anyB wy (.slice a3 sk.types.length c3) sk.types ∧ ThgSl anyB wy (.slice a4 sk.things.length c4) sk.things))
        have HFS := hide (fun wy (hy : Same wr wy) => (⟨blk2' (blk_kept (blk_kept HGS.out HK4.out (fun f => f)) (HKK.out wy hy) (by have h1 := (Array.getElem?_eq_some_iff.1 HGS.out).1; have h2 := HLT.out; show ¬ gs = g7; omega)), ((HTB.out.same HK4.out).keep (HKK.out wy hy) (fun b hb e => by have := HLT.out; omega)).any, ((HHB.out.same HK4.out).keep (HKK.out wy hy) (fun b hb e => by have := HLT.out; omega)).any⟩ : (wy.cell? ⟨gs, 0, none⟩ = some (.slice at' s.types.length ct) ∧ wy.cell? ⟨gs, 1, none⟩ = some (.slice ah s.things.length ch)) ∧ TypSl anyB wy (.slice at' s.types.length ct) s.types ∧ ThgSl anyB wy (.slice ah s.things.length ch) s.things))
        have HFL := hide (fun wy (hy : Same wr wy) => (HEV.out wr HS.out.kept).same hy)
        have HFIN := hide (fun wy (hy : Same wr wy) => (show Same w wy from (tra HKW.out HK4.out).trans (HKK.out wy hy) (fun i hi e => by have h1 := HKW.out.size; have h2 := HLT.out; omega)))
        have HBK := hide (fun wy (hy : Same wr wy) => hback_any _ wy _ _ _ s l (HFS.out wy hy).2.1 (HFS.out wy hy).2.2 (HFL.out wy hy))
        have HS1 := hide (sameState_eq wr _ _ _ _ sk HS.out.ty.any (HFA.out wr (Kept.refl _ _)).2.1 HS.out.th.any (HFA.out wr (Kept.refl _ _)).2.2)
        obtain ⟨c0, c1⟩ := blk2' HS.out.blk
        obtain ⟨x0, x1⟩ := (HFA.out wr (Kept.refl _ _)).1
        rcases Nat.eq_zero_or_pos l.length with hl0 | hl0
        · obtain rfl : l = [] := List.length_eq_zero_iff.1 hl0
          have hss : s = sk := by have h := HALL.out; rw [allS] at h; cases h; rfl
          subst hss
          have HS2 := hide (fun wy (hy : Same wr wy) => sameState_eq wy _ _ _ _ s (HFA.out wy hy).2.1 (HFS.out wy hy).2.1 (HFA.out wy hy).2.2 (HFS.out wy hy).2.2)
          clear hl0
          go_wp2_with fail
          refine HS1.out.mono ?_
          clear c0 c1 x0 x1 HS1
          rintro r w6 ⟨rfl, hK6⟩
          have HK6 := hide hK6
          clear hK6
          obtain ⟨c0, c1⟩ := (HFS.out w6 HK6.out).1
          obtain ⟨x0, x1⟩ := (HFA.out w6 HK6.out).1
          go_wp2_with fail
          refine (HS2.out w6 HK6.out).mono ?_
          clear c0 c1 x0 x1
          rintro r w66 ⟨rfl, hK66⟩
          have HK66 := hide (tra HK6.out hK66)
          clear hK66
          obtain ⟨c0, c1⟩ := (HFS.out w66 HK66.out).1
          go_wp2_with fail
          refine (HBK.out _ HK66.out).mono ?_
          clear c0 c1
          rintro r w7 ⟨hK7, hm⟩
          have HK7 := hide (tra HK66.out hK7)
          clear hK7
          cases hb : backS s [] with
          | error m =>
            rw [hb] at hm
            simp only at hm
            subst hm
            obtain rfl := back_err HG.out hb
            clear hb
            go_wp2_with fail
            go_ret
            exact ⟨rfl, HFIN.out _ HK7.out⟩
          | ok us =>
            rw [hb] at hm
            simp only at hm
            obtain ⟨v, rfl, hus⟩ := hm
            obtain ⟨au, cu, rfl⟩ := hus.form
            have HGA := hide (group_any _ w7 _ _ _ s us (HFA.out _ HK7.out).2.1 (HFA.out _ HK7.out).2.2 hus)
            rw [group_back HG.out hb] at HGA
            obtain ⟨x0, x1⟩ := (HFA.out _ HK7.out).1
            clear hb hus
            go_wp2_with fail
            refine HGA.out.mono ?_
            clear HGA x0 x1
            rintro r w8 ⟨hK8, vc, vd, rfl, hvc, hvd⟩
            obtain ⟨a7, c7, rfl, _, _⟩ := id hvc
            obtain ⟨a8, c8, rfl, _, _⟩ := id hvd
            obtain ⟨w9, hw9⟩ : ∃ w9, w9 = w8.alloc (.cells #[.slice a7 s.types.length c7, .slice a8 s.things.length c8] 25) := ⟨_, rfl⟩
            obtain ⟨g9, hg9⟩ : ∃ g, g = w8.heap.size := ⟨_, rfl⟩
            have HK89 := hide (show Same w8 w9 by rw [hw9]; exact (Kept.refl _ w8).alloc _)
            have HK9 := hide (tra HK7.out (tra hK8 HK89.out))
            obtain ⟨z0, z1⟩ := blk2' (show w9.heap[g9]? = some (.cells #[.slice a7 s.types.length c7, .slice a8 s.things.length c8] 25 (0, 0)) by rw [hw9, hg9]; exact heap_alloc_new _ _)
            have HSE := hide (sameState_eq w9 _ _ _ _ s (hvc.same HK89.out).any (HFS.out _ HK9.out).2.1 (hvd.same HK89.out).any (HFS.out _ HK9.out).2.2)
            obtain ⟨c0, c1⟩ := (HFS.out _ HK9.out).1
            clear hK8 hvc hvd
            go_upto_region 20 with fail
            rw [← hw9, ← hg9]
            clear hw9 hg9
            go_wp2_with fail
            refine HSE.out.mono ?_
            rintro r w10 ⟨rfl, hK10⟩
            have HF := hide (HFIN.out _ (tra HK9.out hK10))
            clear hK10
            go_wp2_with fail
            go_ret
            exact ⟨rfl, HF.out⟩
        · have hl1 : (0 : Int) < (l.length : Int) := by omega
          have hl2 : ((l.length : Int) == 0) = false := by simp; intro h; rw [h] at hl0; simp at hl0
          clear hl0
          go_wp2_with fail
          refine HS1.out.mono ?_
          clear c0 c1 x0 x1 HS1
          rintro r w6 ⟨rfl, hK6⟩
          have HK6 := hide hK6
          clear hK6
          obtain ⟨c0, c1⟩ := (HFS.out w6 HK6.out).1
          go_wp2_with fail
          refine (HBK.out _ HK6.out).mono ?_
          clear c0 c1
          rintro r w7 ⟨hK7, hm⟩
          have HK7 := hide (tra HK6.out hK7)
          clear hK7
          cases hb : backS s l with
          | error m =>
            rw [hb] at hm
            simp only at hm
            subst hm
            obtain rfl := back_err HG.out hb
            clear hb
            go_wp2_with fail
            go_ret
            exact ⟨rfl, HFIN.out _ HK7.out⟩
          | ok us =>
            rw [hb] at hm
            simp only at hm
            obtain ⟨v, rfl, hus⟩ := hm
            obtain ⟨au, cu, rfl⟩ := hus.form
            have HGA := hide (group_any _ w7 _ _ _ sk us (HFA.out _ HK7.out).2.1 (HFA.out _ HK7.out).2.2 hus)
            rw [group_back HG.out hb] at HGA
            obtain ⟨x0, x1⟩ := (HFA.out _ HK7.out).1
            clear hb hus
            go_wp2_with fail
            refine HGA.out.mono ?_
            clear HGA x0 x1
            rintro r w8 ⟨hK8, vc, vd, rfl, hvc, hvd⟩
            obtain ⟨a7, c7, rfl, _, _⟩ := id hvc
            obtain ⟨a8, c8, rfl, _, _⟩ := id hvd
            obtain ⟨w9, hw9⟩ : ∃ w9, w9 = w8.alloc (.cells #[.slice a7 s.types.length c7, .slice a8 s.things.length c8] 25) := ⟨_, rfl⟩
            obtain ⟨g9, hg9⟩ : ∃ g, g = w8.heap.size := ⟨_, rfl⟩
            have HK89 := hide (show Same w8 w9 by rw [hw9]; exact (Kept.refl _ w8).alloc _)
            have HK9 := hide (tra HK7.out (tra hK8 HK89.out))
            obtain ⟨z0, z1⟩ := blk2' (show w9.heap[g9]? = some (.cells #[.slice a7 s.types.length c7, .slice a8 s.things.length c8] 25 (0, 0)) by rw [hw9, hg9]; exact heap_alloc_new _ _)
            have HSE := hide (sameState_eq w9 _ _ _ _ s (hvc.same HK89.out).any (HFS.out _ HK9.out).2.1 (hvd.same HK89.out).any (HFS.out _ HK9.out).2.2)
            obtain ⟨c0, c1⟩ := (HFS.out _ HK9.out).1
            clear hK8 hvc hvd
            go_upto_region 20 with fail
            rw [← hw9, ← hg9]
            clear hw9 hg9
            go_wp2_with fail
            refine HSE.out.mono ?_
            rintro r w10 ⟨rfl, hK10⟩
            have HF := hide (HFIN.out _ (tra HK9.out hK10))
            clear hK10
            go_wp2_with fail
            go_ret
            exact ⟨rfl, HF.out⟩

end Go.Proofs.YtidodjbmlbjchaaGreat
