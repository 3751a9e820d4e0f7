/- The law HistoryStays. -/
import Derived.Test.YtidodjbmlbjchaaGreatHistorystaysupto51
import Derived.Test.YtidodjbmlbjchaaGreatHistorystaysupto52
namespace Go.Proofs.YtidodjbmlbjchaaGreat
open Go.RowKit

def stOf : Except Int StateT → StateT
  | .error _ => state0
  | .ok s => s
def noOf : Except Int StateT → Int
  | .error m => m
  | .ok _ => 0
theorem doA_open {w w' : World} {r : Ending} {x : Except Int StateT} (h : doA w w' r x) : ∃ a1 c1 a2 c2, r = .returned (.tuple #[stV (.slice a1 (stOf x).types.length c1) (.slice a2 (stOf x).things.length c2), .int .i64 (noOf x)]) ∧ TypSl anyB w' (.slice a1 (stOf x).types.length c1) (stOf x).types ∧ ThgSl anyB w' (.slice a2 (stOf x).things.length c2) (stOf x).things ∧ Same w w' := by
  cases x with
  | error m => exact ⟨none, 0, none, 0, h.2, TypSl.nil _ _, ThgSl.nil _ _, h.1⟩
  | ok s =>
    obtain ⟨hk, vt, vh, e, h1, h2⟩ := h
    obtain ⟨a1, c1, rfl, _, _⟩ := id h1
    obtain ⟨a2, c2, rfl, _, _⟩ := id h2
    exact ⟨a1, c1, a2, c2, e, h1.any, h2.any, hk⟩

theorem evCells_one (l : List EventT) : ∀ u ∈ evCells l, u.oneCell' = true := by
  intro u hu
  simp only [evCells, List.mem_flatMap] at hu
  obtain ⟨e, _, he⟩ := hu
  exact evC_one e u he
theorem evCells_app (a b : List EventT) : evCells (a ++ b) = evCells a ++ evCells b := by simp [evCells]
theorem own_zero (w : World) : (w.alloc (.cells #[] 27)).ownsRow w.heap.size 27 6 (.slice (some ⟨w.heap.size, 0, none⟩) 0 0) 0 [] := by
  refine ⟨rfl, .inr ⟨w.heap.size, 0, #[], rfl, Nat.le_refl _, heap_alloc_new _ _, Nat.le_refl _, ?_, ?_, rfl⟩⟩
  · simp
  · simp

set_option maxRecDepth 20000 in
set_option maxHeartbeats 3200000 in
theorem historyStays_any (w : World) (tv lv mv : Value) (types : List TypeT) (l m : List EventT) (n : Int) (hn : n ≤ 9223372036854775807) (hlm : l.length + m.length ≤ 2000000) (ht : TypSl anyB w tv types) (hl : EvSl anyB w lv l) (hm : EvSl anyB w mv m) :
    Calls Tryz.prog 5 #[tv, lv, mv, .int .i64 n] w fun r w' => r = .returned (.bool true) ∧ Same w w' := by
  obtain ⟨at', ct, rfl, _, _⟩ := id ht
  obtain ⟨al, cl, rfl⟩ := hl.form
  obtain ⟨am, cm, rfl⟩ := hm.form
  obtain ⟨i0, hi, hz0, hz1, hz2⟩ := info_parts info_evh
  have HT := hide (fun wy (hy : Same w wy) => ht.same hy)
  have HL := hide (fun wy (hy : Same w wy) => hl.same hy)
  have HM := hide (fun wy (hy : Same w wy) => hm.same hy)
  have HLM := hide hlm
  have HAT := hide (fun wy (hy : Same w wy) => at_any anyB wy _ _ types l n hn (ht.same hy) (hl.same hy))
  have HAL := hide (fun wy (hy : Same w wy) => all_any anyB wy _ _ types l (ht.same hy) (hl.same hy))
  have HAN := hide (fun wy (hy : Same w wy) => at_any anyB wy _ _ types l l.length (by omega) (ht.same hy) (hl.same hy))
  have HAM := hide (fun wy (hy : Same w wy) v (hv : EvSl anyB wy v (l ++ m)) => at_any anyB wy _ v types (l ++ m) n hn (ht.same hy) hv)
  have HST := hide (fun (h0 : 0 ≤ n) (h1 : n ≤ l.length) => atS_stays types l m n h0 h1)
  obtain ⟨x1, hx1⟩ : ∃ x, atS types l n = x := ⟨_, rfl⟩
  obtain ⟨x2, hx2⟩ : ∃ x, atS types (l ++ m) n = x := ⟨_, rfl⟩
  obtain ⟨x3, hx3⟩ : ∃ x, atS types l l.length = x := ⟨_, rfl⟩
  rw [hx1] at HAT HST
  rw [hx2] at HAM HST
  rw [hx3] at HAL HAN
  clear hx1 hx2 hx3 ht hl hm hlm
  go_enter Tryz.func5, Tryz.ntmps5
  go_wp2_with fail
  refine (historyBegun_any _).mono ?_
  rintro r w1 ⟨rfl, hK1⟩
  have HK1 := hide hK1
  clear hK1
  go_wp2_with fail
  refine (HAT.out _ HK1.out).mono ?_
  intro r w2 hQ
  obtain ⟨a1, c1, a2, c2, rfl, h1, h2, hK2⟩ := doA_open hQ
  obtain ⟨w3, hw3⟩ : ∃ w3, w3 = w2.alloc (.cells #[.slice a1 (stOf x1).types.length c1, .slice a2 (stOf x1).things.length c2] 25) := ⟨_, rfl⟩
  obtain ⟨g9, hg9⟩ : ∃ g, g = w2.heap.size := ⟨_, rfl⟩
  have HK23 := hide (show Same w2 w3 by rw [hw3]; exact (Kept.refl _ w2).alloc _)
  have HK3 := hide (tra HK1.out (tra hK2 HK23.out))
  have hb9 : w3.heap[g9]? = some (.cells #[.slice a1 (stOf x1).types.length c1, .slice a2 (stOf x1).things.length c2] 25 (0, 0)) := by rw [hw3, hg9]; exact heap_alloc_new _ _
  have HF9 := hide (fun wy (hy : Same w3 wy) => (⟨blk2' (blk_kept hb9 hy (fun f => f)), h1.same (tra HK23.out hy), h2.same (tra HK23.out hy)⟩ : (wy.cell? ⟨g9, 0, none⟩ = some (.slice a1 (stOf x1).types.length c1) ∧ wy.cell? ⟨g9, 1, none⟩ = some (.slice a2 (stOf x1).things.length c2)) ∧ TypSl anyB wy (.slice a1 (stOf x1).types.length c1) (stOf x1).types ∧ ThgSl anyB wy (.slice a2 (stOf x1).things.length c2) (stOf x1).things))
  clear hQ h1 h2 hK2 hb9
  go_upto_region 4 with fail
  rw [← hw3, ← hg9]
  clear hw3 hg9
  have hown0 : (w3.alloc (.cells #[] 27)).ownsRow w3.heap.size 27 6 (.slice (some ⟨w3.heap.size, 0, none⟩) 0 0) 0 [] := own_zero w3
  have HK3a := hide (tra HK3.out (show Same w3 (w3.alloc (.cells #[] 27)) from (Kept.refl _ w3).alloc _))
  obtain ⟨hn0, hn1⟩ := (HL.out _ HK3a.out).news
  have hln := HLM.out
  go_wp2_with (at_builtin; refine wpl_append_any _ rfl _ _ 37 rfl w3.heap.size 27 i0 _ 6 56 Tryz.underlying37 hi hz0 hz1 hz2 rfl (by decide) _ 0 [] rfl hown0 al l.length cl (evCells l) rfl hn0 (evCells_len l) hn1 (evCells_one l) ?a3 ?a4 ?a5 ?_)
  case a3 => unfold maxLen; omega
  case a4 => omega
  case a5 => simp
  intro v4 w4 hown4 hgr4 _
  have hK34 : Same w3 w4 := Kept.grown ((Kept.refl _ w3).alloc _) hgr4 (fun k hk hlt => by cases hk; exact absurd hlt (Nat.lt_irrefl _))
  have HK34 := hide hK34
  have HK4 := hide (tra HK3.out hK34)
  obtain ⟨hm0, hm1⟩ := (HM.out _ HK4.out).news
  obtain ⟨a4, c4, rfl⟩ := own_slice hown4
  clear hown0 hn0 hn1 hgr4
  go_wp2_with (at_builtin; refine wpl_append_any _ rfl _ _ 37 rfl w3.heap.size 27 i0 _ 6 56 Tryz.underlying37 hi hz0 hz1 hz2 rfl (by decide) _ l.length (evCells l) rfl hown4 am m.length cm (evCells m) rfl hm0 (evCells_len m) hm1 (evCells_one m) ?b3 ?b4 ?b5 ?_)
  case b3 => unfold maxLen; omega
  case b4 => omega
  case b5 => exact hK34.size
  intro v5 w5 hown5 hgr5 _
  have hK45 : Kept (w3.heap.size ≤ ·) w4 w5 := ((Kept.refl _ w4).grown hgr5 (fun k hk _ => (own_up hown4 k hk).1))
  have HK35 := hide (show Same w3 w5 from HK34.out.trans hK45 (fun i hi e => by omega))
  have HK5 := hide (tra HK3.out HK35.out)
  have hlen : (l ++ m).length = l.length + m.length := by simp
  have hev : EvSl anyB w5 v5 (l ++ m) := (own_evs (base := w3.heap.size) (t := 27) (by rw [hlen, evCells_app]; exact hown5) (by rw [hlen]; unfold maxLen; omega)).mono (fun _ _ _ => trivial)
  have HA2 := hide (HAM.out w5 HK5.out v5 hev)
  obtain ⟨a5, c5, rfl⟩ := own_slice hown5
  clear hown4 hown5 hgr5 hK45 hev hm0 hm1 hK34 hlen
  go_wp2_with fail
  refine HA2.out.mono ?_
  clear HA2
  intro r w6 hQ
  obtain ⟨b1, d1, b2, d2, rfl, h1, h2, hK6⟩ := doA_open hQ
  obtain ⟨w7, hw7⟩ : ∃ w7, w7 = w6.alloc (.cells #[.slice b1 (stOf x2).types.length d1, .slice b2 (stOf x2).things.length d2] 25) := ⟨_, rfl⟩
  obtain ⟨g11, hg11⟩ : ∃ g, g = w6.heap.size := ⟨_, rfl⟩
  have HK67 := hide (show Same w6 w7 by rw [hw7]; exact (Kept.refl _ w6).alloc _)
  have HK37 := hide (tra HK35.out (tra hK6 HK67.out))
  have HK7 := hide (tra HK3.out HK37.out)
  obtain ⟨y0, y1⟩ := blk2' (show w7.heap[g11]? = some (.cells #[.slice b1 (stOf x2).types.length d1, .slice b2 (stOf x2).things.length d2] 25 (0, 0)) by rw [hw7, hg11]; exact heap_alloc_new _ _)
  have HT2 := hide (h1.same HK67.out)
  have HH2 := hide (h2.same HK67.out)
  clear hQ h1 h2 hK6
  go_upto_region 5 with fail
  rw [← hw7, ← hg11]
  clear hw7 hg11
  obtain ⟨⟨x0, xx1⟩, ht9, hh9⟩ := HF9.out w7 HK37.out
  have HT9 := hide ht9
  have HH9 := hide hh9
  clear ht9 hh9
  go_cut [53] (fun v wx => v = .bool false ∧ Hid (Same w7 wx))
  case first =>
    by_cases h0 : 0 ≤ n
    · by_cases h1 : n ≤ (l.length : Int)
      · have hx : x2 = x1 := HST.out h0 h1
        subst hx
        have HSS := hide (sameState_eq w7 _ _ _ _ (stOf x2) HT9.out HT2.out HH9.out HH2.out)
        go_wp2_with fail
        refine HSS.out.mono ?_
        rintro r w8 ⟨rfl, hK8⟩
        have HK8 := hide hK8
        clear hK8
        go_wp2_with fail
        go_meet
        case rel => exact ⟨rfl, HK8.out⟩
      · go_wp2_with fail
        go_meet
        case rel => exact ⟨rfl, Kept.refl _ _⟩
    · go_wp2_with fail
      go_meet
      case rel => exact ⟨rfl, Kept.refl _ _⟩
  case rest =>
    obtain ⟨rfl, HKc⟩ := hcut
    have HK8 := hide (tra HK7.out HKc.out)
    clear x0 xx1 y0 y1 HT2 HH2 HT9 HH9
    go_wp2_with fail
    refine (HAL.out _ HK8.out).mono ?_
    intro r w9 hQ
    obtain ⟨e1, f1, e2, f2, rfl, h1, h2, hK9⟩ := doA_open hQ
    obtain ⟨w10, hw10⟩ : ∃ w10, w10 = w9.alloc (.cells #[.slice e1 (stOf x3).types.length f1, .slice e2 (stOf x3).things.length f2] 25) := ⟨_, rfl⟩
    obtain ⟨g13, hg13⟩ : ∃ g, g = w9.heap.size := ⟨_, rfl⟩
    have HK90 := hide (show Same w9 w10 by rw [hw10]; exact (Kept.refl _ w9).alloc _)
    have HK10 := hide (tra HK8.out (tra hK9 HK90.out))
    have hb13 : w10.heap[g13]? = some (.cells #[.slice e1 (stOf x3).types.length f1, .slice e2 (stOf x3).things.length f2] 25 (0, 0)) := by rw [hw10, hg13]; exact heap_alloc_new _ _
    have HF13 := hide (fun wy (hy : Same w10 wy) => (⟨blk2' (blk_kept hb13 hy (fun f => f)), h1.same (tra HK90.out hy), h2.same (tra HK90.out hy)⟩ : (wy.cell? ⟨g13, 0, none⟩ = some (.slice e1 (stOf x3).types.length f1) ∧ wy.cell? ⟨g13, 1, none⟩ = some (.slice e2 (stOf x3).things.length f2)) ∧ TypSl anyB wy (.slice e1 (stOf x3).types.length f1) (stOf x3).types ∧ ThgSl anyB wy (.slice e2 (stOf x3).things.length f2) (stOf x3).things))
    clear hQ h1 h2 hK9 hb13
    go_upto_region 8 with fail
    rw [← hw10, ← hg13]
    clear hw10 hg13
    go_wp2_with fail
    refine (HAN.out _ HK10.out).mono ?_
    intro r w11 hQ
    obtain ⟨p1, q1, p2, q2, rfl, h1, h2, hK11⟩ := doA_open hQ
    obtain ⟨w12, hw12⟩ : ∃ w12, w12 = w11.alloc (.cells #[.slice p1 (stOf x3).types.length q1, .slice p2 (stOf x3).things.length q2] 25) := ⟨_, rfl⟩
    obtain ⟨g14, hg14⟩ : ∃ g, g = w11.heap.size := ⟨_, rfl⟩
    have HK12 := hide (show Same w11 w12 by rw [hw12]; exact (Kept.refl _ w11).alloc _)
    have HKA := hide (tra hK11 HK12.out)
    have HKB := hide (tra HK10.out HKA.out)
    obtain ⟨y0, y1⟩ := blk2' (show w12.heap[g14]? = some (.cells #[.slice p1 (stOf x3).types.length q1, .slice p2 (stOf x3).things.length q2] 25 (0, 0)) by rw [hw12, hg14]; exact heap_alloc_new _ _)
    obtain ⟨⟨z0, z1⟩, ht13, hh13⟩ := HF13.out w12 HKA.out
    have HSS := hide (sameState_eq w12 _ _ _ _ (stOf x3) ht13 (h1.same HK12.out) hh13 (h2.same HK12.out))
    clear hQ h1 h2 hK11 ht13 hh13
    go_upto_region 9 with fail
    rw [← hw12, ← hg14]
    clear hw12 hg14
    go_wp2_with fail
    refine HSS.out.mono ?_
    rintro r w13 ⟨rfl, hK13⟩
    have HF := hide (tra HKB.out hK13)
    clear hK13
    go_wp2_with fail
    go_ret
    exact ⟨rfl, HF.out⟩

end Go.Proofs.YtidodjbmlbjchaaGreat
