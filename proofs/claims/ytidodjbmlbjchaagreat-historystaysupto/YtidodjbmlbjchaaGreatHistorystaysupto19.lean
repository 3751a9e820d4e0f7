import Derived.Test.YtidodjbmlbjchaaGreatHistorystaysupto17
import Derived.Test.YtidodjbmlbjchaaGreatHistorystaysupto07
import Derived.Test.YtidodjbmlbjchaaGreatHistorystaysupto18
import Derived.Deep.RegionHeld3
import Derived.Deep.CutRange
import Derived.Deep.CutBlock
/- parts.Order, parts.ThingAt. -/
namespace Go.Proofs.YtidodjbmlbjchaaGreat
open Go.RowKit

def orI (x y : Int) : Int := if x = 0 then y else x

set_option maxRecDepth 20000 in
theorem cmpOr_two (w : World) (b : Nat) (x y : Int) (h0 : w.cell? ⟨b, 0, none⟩ = some (.int .i64 x)) (h1 : w.cell? ⟨b, 1, none⟩ = some (.int .i64 y)) :
    Calls Tryz.prog 87 #[.slice (some ⟨b, 0, none⟩) 2 2] w fun e w' => e = .returned (.int .i64 (orI x y)) ∧ w' = w := by
  obtain ⟨m, hm⟩ : ∃ m, orI x y = m := ⟨_, rfl⟩
  rw [hm]
  have HM := hide hm
  clear hm
  unfold orI at HM
  go_enter Tryz.func87, Tryz.ntmps87
  go_wp2_with fail
  go_loopg [8] 2 (fun g i wr => ∃ j : Nat, j + g = 2 ∧ i = .int .i64 j ∧ wr = w ∧ Hid (1 ≤ j → x = 0) ∧ Hid (2 ≤ j → y = 0))
  case atStart => exact ⟨0, by omega, rfl, rfl, fun h => by omega, fun h => by omega⟩
  case round =>
    obtain ⟨j, hj, rfl, rfl, HX, HY⟩ := hrel
    match j, hj, HX, HY with
    | 0, hj, HX, HY =>
      by_cases hx : x = 0
      · subst hx
        go_wp2_with fail
        go_roundg (gk - 1)
        case measure => omega
        case rel => exact ⟨1, by omega, by go_num, rfl, hide (fun _ => by trivial), hide (fun h => by omega)⟩
      · have hb : (x != 0) = true := by simp [hx]
        have HF := hide (show x = m by rw [← HM.out, if_neg hx])
        clear hx
        go_wp2_with fail
        go_ret
        exact ⟨ret_int HF.out, rfl⟩
    | 1, hj, HX, HY =>
      by_cases hy : y = 0
      · subst hy
        go_wp2_with fail
        go_roundg (gk - 1)
        case measure => omega
        case rel => exact ⟨2, by omega, by go_num, rfl, hide (fun _ => HX.out (by omega)), hide (fun _ => by trivial)⟩
      · have hb : (y != 0) = true := by simp [hy]
        have HF := hide (show y = m by rw [← HM.out, if_pos (HX.out (by omega))])
        clear hy
        go_wp2_with fail
        go_ret
        exact ⟨ret_int HF.out, rfl⟩
    | 2, hj, HX, HY =>
      have HF := hide (show 0 = m by rw [← HM.out, if_pos (HX.out (by omega)), HY.out (by omega)])
      go_wp2_with fail
      go_ret
      exact ⟨ret_int HF.out, rfl⟩
    | j + 3, hj, HX, HY => omega

/-- the order of two things -/
def ordI (t1 i1 t2 i2 : Int) : Int := orI (Lib.compareInt t1 t2) (Lib.compareInt i1 i2)
theorem ordI_neg (a : ThingT) (ty id : Int) : ordI a.ty a.id ty id < 0 ↔ aheadK a ty id = true := by
  rw [aheadK_iff]
  unfold ordI orI Lib.compareInt
  repeat' split
  all_goals omega
theorem ordI_zero (a : ThingT) (ty id : Int) : ordI a.ty a.id ty id = 0 ↔ a.ty = ty ∧ a.id = id := by
  unfold ordI orI Lib.compareInt
  repeat' split
  all_goals omega

set_option maxRecDepth 20000 in
set_option maxHeartbeats 1600000 in
theorem order_any (w : World) (t1 i1 t2 i2 : Int) (a1 a2 : Option Addr) (n1 n2 c1 c2 : Nat) :
    Calls Tryz.prog 61 #[.agg #[.int .i64 t1, .int .i64 i1, .slice a1 n1 c1], .agg #[.int .i64 t2, .int .i64 i2, .slice a2 n2 c2]] w fun e w' => e = .returned (.int .i64 (ordI t1 i1 t2 i2)) ∧ Same w w' := by
  have HC := hide Tryz.cmp_Compare_int
  have HO := hide cmpOr_two
  obtain ⟨m, hm⟩ : ∃ m, orI (Lib.compareInt t1 t2) (Lib.compareInt i1 i2) = m := ⟨_, rfl⟩
  have HM := hide hm
  rw [show ordI t1 i1 t2 i2 = m from hm]
  clear hm
  go_enter Tryz.func61, Tryz.ntmps61
  go_upto_region 1 with fail
  obtain ⟨w2, hw2⟩ : ∃ w2, w2 = (w.alloc (.cells #[.int .i64 t1, .int .i64 i1, .slice a1 n1 c1] 68)).alloc (.cells #[.int .i64 t2, .int .i64 i2, .slice a2 n2 c2] 68) := ⟨_, rfl⟩
  obtain ⟨g1, hg1⟩ : ∃ g, g = w.heap.size := ⟨_, rfl⟩
  obtain ⟨g2, hg2⟩ : ∃ g, g = g1 + 1 := ⟨_, rfl⟩
  have hB1 : w2.heap[g1]? = some (.cells #[.int .i64 t1, .int .i64 i1, .slice a1 n1 c1] 68 (0, 0)) := by
    rw [hw2, hg1]; exact new_kept ((Kept.refl (fun _ => False) _).alloc _) (fun f => f)
  have hB2 : w2.heap[g2]? = some (.cells #[.int .i64 t2, .int .i64 i2, .slice a2 n2 c2] 68 (0, 0)) := by
    have := new_kept (Kept.refl (fun _ => False) ((w.alloc (.cells #[.int .i64 t1, .int .i64 i1, .slice a1 n1 c1] 68)).alloc (.cells #[.int .i64 t2, .int .i64 i2, .slice a2 n2 c2] 68))) (fun f => f)
    rw [World.size_alloc] at this
    rw [hw2, hg2, hg1]; exact this
  have HK2 : Hid (Same w w2) := hide (by rw [hw2]; exact ((Kept.refl _ w).alloc _).alloc _)
  obtain ⟨x0, x1, x2⟩ := blk3 hB1
  obtain ⟨y0, y1, y2⟩ := blk3 hB2
  rw [← hw2, ← hg1, ← hg2]
  clear hw2 hg1 hg2 hB1 hB2 x2 y2
  go_region_held3 (fun w' => w'.cell? ⟨g1, 0, none⟩ = some (.int .i64 t1) ∧ w'.cell? ⟨g1, 1, none⟩ = some (.int .i64 i1) ∧ w'.cell? ⟨g2, 0, none⟩ = some (.int .i64 t2) ∧ w'.cell? ⟨g2, 1, none⟩ = some (.int .i64 i2)) (go_keep) (first
    | (go_at_call 88; refine (HC.out _ _ _).mono ?_; rintro e w9 ⟨rfl, rfl⟩)
    | (go_at_call 87; refine (HO.out _ _ (Lib.compareInt t1 t2) (Lib.compareInt i1 i2) (by simp) (by simp)).mono ?_; rintro e w9 ⟨rfl, rfl⟩))
  all_goals
    go_wp2_with fail
    go_ret
    exact ⟨ret_int HM.out, tra HK2.out (by repeat' (first | assumption | exact Kept.refl _ _ | refine Kept.drewN ?_ _ | refine Kept.drew ?_ | refine Kept.alloc ?_ _ | refine Kept.setB ?_ _ _))⟩

end Go.Proofs.YtidodjbmlbjchaaGreat

/- parts.ThingAt. -/
namespace Go.Proofs.YtidodjbmlbjchaaGreat
open Go.RowKit

theorem place_eq {l : List ThingT} {ty ix : Int} {a : Nat} (hl : a ≤ l.length) (h1 : ∀ k (hk : k < l.length), k < a → aheadK l[k] ty ix = true) (h2 : ∀ hk : a < l.length, aheadK l[a] ty ix = false) : placeT l ty ix = a := by
  rcases Nat.lt_trichotomy (placeT l ty ix) a with h | h | h
  · have := placeT_at (l := l) (ty := ty) (id := ix) (by omega)
    rw [h1 _ (by omega) h] at this
    cases this
  · exact h
  · have hle := placeT_le l ty ix
    have := placeT_lt h (by omega)
    rw [h2 (by omega)] at this
    cases this

set_option maxRecDepth 20000 in
set_option maxHeartbeats 3200000 in
theorem bsearch_any (w : World) (v : Value) (l : List ThingT) (P : Nat → Prop) (h : ThgSl P w v l) (hs : sortT l) (hl : l.length ≤ 1000) (ty ix : Int) :
    Calls Tryz.prog 60 #[v, .agg #[.int .i64 ty, .int .i64 ix, .slice none 0 0], .func (.func 61) #[] #[]] w
      fun e w' => e = .returned (.tuple #[.int .i64 (placeT l ty ix), .bool (hasTh l ty ix)]) ∧ Same w w' := by
  obtain ⟨ao, cap, rfl, _, _⟩ := id h
  have H := hide h
  have HS := hide hs
  have HO := hide order_any
  clear h hs
  have hcf : ∀ (args : Array Value) (w : World), (callFunc 61 args).run Tryz.prog w = .ok (.enter 61 args) w := by intro args w; kernel_rfl
  obtain ⟨w1, hw1⟩ : ∃ w1, w1 = w.alloc (.cells #[.int .i64 ty, .int .i64 ix, .slice none 0 0] 68) := ⟨_, rfl⟩
  obtain ⟨g1, hg1⟩ : ∃ g, g = w.heap.size := ⟨_, rfl⟩
  have hB1 : w1.heap[g1]? = some (.cells #[.int .i64 ty, .int .i64 ix, .slice none 0 0] 68 (0, 0)) := by
    rw [hw1, hg1]; exact new_kept (Kept.refl (fun _ => False) _) (fun f => f)
  have HK1 : Hid (Same w w1) := hide (by rw [hw1]; exact (Kept.refl _ w).alloc _)
  have HB1 := hide hB1
  clear hB1
  go_enter Tryz.func60, Tryz.ntmps60
  go_wp2_with fail
  rw [← hw1, ← hg1]
  clear hw1 hg1
  go_loopg [9, 10] l.length (fun g i j wr => ∃ a b : Nat, a + g = b ∧ b ≤ l.length ∧ i = .int .i64 a ∧ j = .int .i64 b ∧ Hid (Same w1 wr) ∧ Hid (∀ k (hk : k < l.length), k < a → aheadK l[k] ty ix = true) ∧ Hid (∀ k (hk : k < l.length), b ≤ k → aheadK l[k] ty ix = false))
  case atStart => exact ⟨0, l.length, by omega, by omega, rfl, rfl, hide (Kept.refl _ _), hide (fun k _ hk => by omega), hide (fun k hk1 hk => by omega)⟩
  case round =>
    obtain ⟨a, b, hab, hbl, rfl, rfl, HKR, HA, HB⟩ := hrel
    by_cases hlt : a < b
    · obtain ⟨m, hm⟩ : ∃ m, m = (a + b) / 2 := ⟨_, rfl⟩
      have hmi : ((a : Int) + b) / 2 = (m : Int) := by omega
      have ham : a ≤ m := by omega
      have hmb : m < b := by omega
      clear hm
      obtain ⟨b1, off, ac, nc, cc, rfl, _, c0, c1, c2, _, _⟩ := (H.out.same (tra HK1.out HKR.out)).at m (by omega)
      obtain ⟨d0, d1, d2⟩ := blk3 (blk_kept HB1.out HKR.out (fun f => f))
      have HL := hide (show l[m]? = some l[m] from List.getElem?_eq_getElem (by omega))
      obtain ⟨t, ht⟩ : ∃ t, t = l[m] := ⟨_, rfl⟩
      rw [← ht] at c0 c1 HL
      have HOI := hide (ordI_neg t ty ix)
      have HTM := hide ht
      clear ht
      have HMID := hide (fun q (hq : aheadK t ty ix = q) (hx : q = true) k (hk : k < l.length) (hkm : k < m + 1) => show aheadK l[k] ty ix = true by
        rcases Nat.lt_or_ge k m with hlt | hge
        · refine ahead_key (b := t) ?_ (hq.trans hx)
          rw [HTM.out]; exact sort_get HS.out hlt (by omega)
        · obtain rfl : k = m := by omega
          rw [← HTM.out]; exact hq.trans hx)
      have HMIE := hide (fun q (hq : aheadK t ty ix = q) (hx : q = false) k (hk : k < l.length) (hkm : m ≤ k) => show aheadK l[k] ty ix = false by
        rcases Nat.lt_or_ge m k with hlt | hge
        · cases hh : aheadK l[k] ty ix with
          | false => rfl
          | true =>
            have := ahead_key (sort_get HS.out hlt hk) hh
            rw [← HTM.out, hq, hx] at this
            cases this
        · obtain rfl : k = m := by omega
          rw [← HTM.out]; exact hq.trans hx)
      have hbm0 : (0 : Int) ≤ (m : Int) := by omega
      have hbm1 : (m : Int) < (l.length : Int) := by omega
      by_cases hneg : ordI t.ty t.id ty ix < 0
      · have HQ := hide (HOI.out.1 hneg)
        go_wp2_with fail
        go_region_held3 (fun w' => w'.cell? ⟨b1, off + m * 3, none⟩ = some (.int .i64 t.ty) ∧ w'.cell? ⟨b1, off + m * 3 + 1, none⟩ = some (.int .i64 t.id) ∧ w'.cell? ⟨b1, off + m * 3 + 2, none⟩ = some (.slice ac nc cc) ∧ w'.cell? ⟨g1, 0, none⟩ = some (.int .i64 ty) ∧ w'.cell? ⟨g1, 1, none⟩ = some (.int .i64 ix) ∧ w'.cell? ⟨g1, 2, none⟩ = some (.slice none 0 0)) (go_keep)
          ((go_at_call 61; refine (HO.out _ _ _ _ _ _ _ _ _ _ _).mono ?_; rintro e w9 ⟨rfl, hK9⟩; have u0 := hK9.cell (p := ⟨b1, off + m * 3, none⟩) (by exact c0) (fun f => f); have u1 := hK9.cell (p := ⟨b1, off + m * 3 + 1, none⟩) (by exact c1) (fun f => f); have u2 := hK9.cell (p := ⟨b1, off + m * 3 + 2, none⟩) (by exact c2) (fun f => f); have v0 := hK9.cell (p := ⟨g1, 0, none⟩) (by exact d0) (fun f => f); have v1 := hK9.cell (p := ⟨g1, 1, none⟩) (by exact d1) (fun f => f); have v2 := hK9.cell (p := ⟨g1, 2, none⟩) (by exact d2) (fun f => f)))
        all_goals
          have HK9 := hide (tra HKR.out hK9.unD)
          clear hK9 u0 u1 u2 v0 v1 v2
          go_wp2_with fail
          go_roundg (b - (m + 1))
          case measure => omega
          case rel => exact ⟨m + 1, b, by omega, hbl, by go_num, rfl, HK9, hide (HMID.out _ rfl HQ.out), HB⟩
      · have HQ := hide (show aheadK t ty ix = false by rw [Bool.eq_false_iff]; exact fun e => hneg (HOI.out.2 e))
        go_wp2_with fail
        go_region_held3 (fun w' => w'.cell? ⟨b1, off + m * 3, none⟩ = some (.int .i64 t.ty) ∧ w'.cell? ⟨b1, off + m * 3 + 1, none⟩ = some (.int .i64 t.id) ∧ w'.cell? ⟨b1, off + m * 3 + 2, none⟩ = some (.slice ac nc cc) ∧ w'.cell? ⟨g1, 0, none⟩ = some (.int .i64 ty) ∧ w'.cell? ⟨g1, 1, none⟩ = some (.int .i64 ix) ∧ w'.cell? ⟨g1, 2, none⟩ = some (.slice none 0 0)) (go_keep)
          ((go_at_call 61; refine (HO.out _ _ _ _ _ _ _ _ _ _ _).mono ?_; rintro e w9 ⟨rfl, hK9⟩; have u0 := hK9.cell (p := ⟨b1, off + m * 3, none⟩) (by exact c0) (fun f => f); have u1 := hK9.cell (p := ⟨b1, off + m * 3 + 1, none⟩) (by exact c1) (fun f => f); have u2 := hK9.cell (p := ⟨b1, off + m * 3 + 2, none⟩) (by exact c2) (fun f => f); have v0 := hK9.cell (p := ⟨g1, 0, none⟩) (by exact d0) (fun f => f); have v1 := hK9.cell (p := ⟨g1, 1, none⟩) (by exact d1) (fun f => f); have v2 := hK9.cell (p := ⟨g1, 2, none⟩) (by exact d2) (fun f => f)))
        all_goals
          have HK9 := hide (tra HKR.out hK9.unD)
          clear hK9 u0 u1 u2 v0 v1 v2
          go_wp2_with fail
          go_roundg (m - a)
          case measure => omega
          case rel => exact ⟨a, m, by omega, by omega, rfl, rfl, HK9, HA, hide (HMIE.out _ rfl HQ.out)⟩
    · obtain rfl : a = b := by omega
      have hpl : placeT l ty ix = a := place_eq hbl (fun k hk hka => HA.out k hk hka) (fun hk => HB.out a hk (Nat.le_refl _))
      have HPL := hide hpl
      clear hpl HA HB
      by_cases hal : a < l.length
      · obtain ⟨b1, off, ac, nc, cc, rfl, _, c0, c1, c2, _, _⟩ := (H.out.same (tra HK1.out HKR.out)).at a hal
        obtain ⟨d0, d1, d2⟩ := blk3 (blk_kept HB1.out HKR.out (fun f => f))
        have HH := hide (show hasTh l ty ix = decide (l[a].ty = ty ∧ l[a].id = ix) by
          rw [Bool.eq_iff_iff, decide_eq_true_iff]
          constructor
          · intro hh
            obtain ⟨hk, h1, h2⟩ := place_has HS.out hh
            have e := HPL.out
            subst e
            exact ⟨h1, h2⟩
          · exact fun hh => (hasTh_iff _ _ _).2 ⟨_, List.getElem_mem hal, hh⟩)
        obtain ⟨t, ht⟩ : ∃ t, t = l[a] := ⟨_, rfl⟩
        rw [← ht] at c0 c1 HH
        clear ht
        obtain ⟨q, hq⟩ : ∃ q, hasTh l ty ix = q := ⟨_, rfl⟩
        have HQH := hide hq
        have HQ := hide (show (ordI t.ty t.id ty ix == 0) = q by
          rw [← hq, HH.out, Bool.eq_iff_iff]
          simp only [beq_iff_eq, decide_eq_true_iff]
          exact ordI_zero t ty ix)
        clear hq
        go_wp2_with fail
        go_region_held3 (fun w' => w'.cell? ⟨b1, off + a * 3, none⟩ = some (.int .i64 t.ty) ∧ w'.cell? ⟨b1, off + a * 3 + 1, none⟩ = some (.int .i64 t.id) ∧ w'.cell? ⟨b1, off + a * 3 + 2, none⟩ = some (.slice ac nc cc) ∧ w'.cell? ⟨g1, 0, none⟩ = some (.int .i64 ty) ∧ w'.cell? ⟨g1, 1, none⟩ = some (.int .i64 ix) ∧ w'.cell? ⟨g1, 2, none⟩ = some (.slice none 0 0)) (go_keep)
          ((go_at_call 61; refine (HO.out _ _ _ _ _ _ _ _ _ _ _).mono ?_; rintro e w9 ⟨rfl, hK9⟩; have u0 := hK9.cell (p := ⟨b1, off + a * 3, none⟩) (by exact c0) (fun f => f); have u1 := hK9.cell (p := ⟨b1, off + a * 3 + 1, none⟩) (by exact c1) (fun f => f); have u2 := hK9.cell (p := ⟨b1, off + a * 3 + 2, none⟩) (by exact c2) (fun f => f); have v0 := hK9.cell (p := ⟨g1, 0, none⟩) (by exact d0) (fun f => f); have v1 := hK9.cell (p := ⟨g1, 1, none⟩) (by exact d1) (fun f => f); have v2 := hK9.cell (p := ⟨g1, 2, none⟩) (by exact d2) (fun f => f)))
        all_goals
          have HK9 := hide (tra HKR.out hK9.unD)
          clear hK9 u0 u1 u2 v0 v1 v2
          go_wp2_with fail
          go_ret2
          exact ⟨by rw [HPL.out, HQH.out, ← HQ.out]; rfl, tra HK1.out HK9.out⟩
      · have HH := hide (show hasTh l ty ix = false by
          rw [Bool.eq_false_iff]
          intro hh
          obtain ⟨hk, _, _⟩ := place_has HS.out hh
          rw [HPL.out] at hk
          exact hal hk)
        go_wp2_with fail
        go_quiet (fail)
        go_wp2_with fail
        go_ret2
        exact ⟨by rw [HPL.out, HH.out]; rfl, tra HK1.out (Kept.drewN HKR.out _)⟩

set_option maxRecDepth 20000 in
theorem thingAt_any (w : World) (v : Value) (l : List ThingT) (P : Nat → Prop) (h : ThgSl P w v l) (hs : sortT l) (hl : l.length ≤ 1000) (ty ix : Int) :
    Calls Tryz.prog 28 #[v, .int .i64 ty, .int .i64 ix] w fun e w' => e = .returned (.tuple #[.int .i64 (placeT l ty ix), .bool (hasTh l ty ix)]) ∧ Same w w' := by
  obtain ⟨ao, cap, rfl, _, _⟩ := id h
  have HB := hide (bsearch_any w _ l P h hs hl ty ix)
  clear h hs
  go_enter Tryz.func28, Tryz.ntmps28
  go_wp2_with fail
  refine HB.out.mono ?_
  rintro e w1 ⟨rfl, hK⟩
  go_wp2_with fail
  go_ret2
  exact ⟨rfl, hK⟩

end Go.Proofs.YtidodjbmlbjchaaGreat
