import Derived.Test.YtidodjbmlbjchaaStateapart39
/- halyardref.SameState of equal ones. -/
namespace Go.Proofs.Ytidodjbmlbjchaa
open Go.RowKit

set_option maxRecDepth 20000 in
set_option maxHeartbeats 3200000 in
theorem sameState_eq (w : World) (ta tb va vb : Value) (s : StateT) (hta : TypSl anyB w ta s.types) (htb : TypSl anyB w tb s.types) (hva : ThgSl anyB w va s.things) (hvb : ThgSl anyB w vb s.things) :
    Calls Try.prog 10 #[stV ta va, stV tb vb] w fun e w' => e = .returned (.bool true) ∧ Same w w' := by
  obtain ⟨ata, cta, rfl, _, _⟩ := id hta
  obtain ⟨atb, ctb, rfl, _, _⟩ := id htb
  obtain ⟨ava, cva, rfl, _, _⟩ := id hva
  obtain ⟨avb, cvb, rfl, _, _⟩ := id hvb
  obtain ⟨_, hmax, _⟩ := hva.len
  obtain ⟨types, l⟩ := s
  simp only at hta htb hva hvb hmax ⊢
  obtain ⟨W, hW⟩ : ∃ W, W = (w.alloc (.cells #[.slice ata types.length cta, .slice ava l.length cva] 25)).alloc (.cells #[.slice atb types.length ctb, .slice avb l.length cvb] 25) := ⟨_, rfl⟩
  obtain ⟨ga, hga⟩ : ∃ g, g = w.heap.size := ⟨_, rfl⟩
  obtain ⟨gb, hgb⟩ : ∃ g, g = w.heap.size + 1 := ⟨_, rfl⟩
  have HKW := hide (show Same w W by rw [hW]; exact ((Kept.refl _ w).alloc _).alloc _)
  have hGA : W.heap[ga]? = some (.cells #[.slice ata types.length cta, .slice ava l.length cva] 25 (0, 0)) := by rw [hW, hga]; exact al_o _ _ _
  have hGB : W.heap[gb]? = some (.cells #[.slice atb types.length ctb, .slice avb l.length cvb] 25 (0, 0)) := by rw [hW, hgb]; exact al_n _ _ _
  obtain ⟨c0, c1⟩ := blk2' hGA
  obtain ⟨d0, d1⟩ := blk2' hGB
  have HALL := hide (fun wy (hy : Same W wy) => (⟨hy.cell c0 (fun f => f), hy.cell c1 (fun f => f), hy.cell d0 (fun f => f), hy.cell d1 (fun f => f)⟩ : wy.cell? ⟨ga, 0, none⟩ = _ ∧ wy.cell? ⟨ga, 1, none⟩ = _ ∧ wy.cell? ⟨gb, 0, none⟩ = _ ∧ wy.cell? ⟨gb, 1, none⟩ = _))
  have HST := hide (fun wy (hy : Same W wy) => sameTypes_eq wy _ _ types anyB anyB (hta.same (tra HKW.out hy)) (htb.same (tra HKW.out hy)))
  have HA := hide (fun wy (hy : Same W wy) => hva.same (tra HKW.out hy))
  have HB := hide (fun wy (hy : Same W wy) => hvb.same (tra HKW.out hy))
  clear hta htb hva hvb hGA hGB
  go_enter Try.func10, Try.ntmps10
  go_upto_region 1 with fail
  rw [← hW, ← hgb, ← hga]
  clear hW hgb hga
  go_wp2_with fail
  refine (HST.out _ (Kept.refl _ _)).mono ?_
  rintro e w1 ⟨rfl, n1, hw1⟩
  have HK1 := hide (show Same W w1 by rw [hw1]; exact (Kept.refl _ W).drewN n1)
  clear hw1 c0 c1 d0 d1 HST
  obtain ⟨c0, c1, d0, d1⟩ := HALL.out w1 HK1.out
  go_wp2_with fail
  go_loopg [5] l.length (fun g i wr => ∃ k : Nat, k + g = l.length ∧ i = .int .i64 k ∧ Hid (Same W wr))
  case atStart => exact ⟨0, by omega, rfl, HK1⟩
  case round =>
    obtain ⟨k, hk, rfl, HK⟩ := hrel
    clear c0 c1 d0 d1
    obtain ⟨c0, c1, d0, d1⟩ := HALL.out wr HK.out
    by_cases hlt : k < l.length
    · obtain ⟨G, hG1, hG2⟩ : ∃ G, G ≤ gk ∧ gk ≤ G := ⟨gk, Nat.le_refl _, Nat.le_refl _⟩
      obtain ⟨ba, oa, aca, nca, cca, rfl, _, a0, a1, a2, hna, hca⟩ := (HA.out wr HK.out).at k hlt
      obtain ⟨bb, ob, acb, ncb, ccb, rfl, _, b0, b1, b2, hnb, hcb⟩ := (HB.out wr HK.out).at k hlt
      obtain ⟨hz1, hmc, hz2⟩ := hca.len
      clear hz1 hz2
      obtain ⟨t, het⟩ : ∃ t, t = l[k] := ⟨_, rfl⟩
      rw [← het] at a0 a1 hna hca b0 b1 hnb hcb hmc
      subst hna hnb
      have HCA := hide hca
      have HCB := hide hcb
      clear het hca hcb
      go_wp2_with fail
      go_cut [6, 7] from 25 to 144 (fun v6 v7 wx => ∃ g6 g7 : Nat, v6 = .pointer (some ⟨g6, 0, none⟩) ∧ v7 = .pointer (some ⟨g7, 0, none⟩) ∧ Hid (wx.heap[g6]? = some (.cells #[.int .i64 t.ty, .int .i64 t.id, .slice aca t.cells.length cca] 40 (0, 0))) ∧ Hid (wx.heap[g7]? = some (.cells #[.int .i64 t.ty, .int .i64 t.id, .slice acb t.cells.length ccb] 40 (0, 0))) ∧ Hid (Same wr wx))
      case first =>
        go_region_held3 (fun w' => w'.cell? ⟨ga, 1, none⟩ = some (.slice (some ⟨ba, oa, none⟩) l.length cva) ∧ w'.cell? ⟨gb, 1, none⟩ = some (.slice (some ⟨bb, ob, none⟩) l.length cvb) ∧ w'.cell? ⟨ba, oa + k * 3, none⟩ = some (.int .i64 t.ty) ∧ w'.cell? ⟨ba, oa + k * 3 + 1, none⟩ = some (.int .i64 t.id) ∧ w'.cell? ⟨ba, oa + k * 3 + 2, none⟩ = some (.slice aca t.cells.length cca) ∧ w'.cell? ⟨bb, ob + k * 3, none⟩ = some (.int .i64 t.ty) ∧ w'.cell? ⟨bb, ob + k * 3 + 1, none⟩ = some (.int .i64 t.id) ∧ w'.cell? ⟨bb, ob + k * 3 + 2, none⟩ = some (.slice acb t.cells.length ccb)) (go_keep) (fail)
        all_goals
          go_wp2_with fail
          go_meet
          case rel => first
            | exact ⟨_, _, rfl, rfl, al_o wr _ _, al_n wr _ _, (((Kept.refl _ wr).alloc _).alloc _).drew⟩
            | exact ⟨_, _, rfl, rfl, al_n wr _ _, al_o wr _ _, (((Kept.refl _ wr).alloc _).alloc _).drew⟩
            | trace_state
      case rest =>
        obtain ⟨g6, g7, rfl, rfl, HG6, HG7, HKr⟩ := hcut
        have HK2 := hide (tra HK.out HKr.out)
        have HCA2 := hide (HCA.out.same HKr.out)
        have HCB2 := hide (HCB.out.same HKr.out)
        obtain ⟨wo, hwo⟩ : ∃ wo, wo = wc := ⟨_, rfl⟩
        subst hwo
        have hg6 := HG6.out
        have hg7 := HG7.out
        obtain ⟨x0, x1, x2⟩ := blk3 hg6
        obtain ⟨y0, y1, y2⟩ := blk3 hg7
        have HCC := hide (fun wy (hy : Same wo wy) => (⟨hy.cell x2 (fun f => f), hy.cell y2 (fun f => f)⟩ : wy.cell? ⟨g6, 2, none⟩ = _ ∧ wy.cell? ⟨g7, 2, none⟩ = _))
        clear a0 a1 a2 b0 b1 b2 HKr hg6 hg7 HG6 HG7 c0 c1 d0 d1
        go_wp2_with fail
        go_loopg [8] t.cells.length (fun g i wr => ∃ j : Nat, j + g = t.cells.length ∧ i = .int .i64 j ∧ Hid (Same wo wr))
        case atStart => exact ⟨0, by omega, rfl, Kept.refl _ _⟩
        case round =>
          obtain ⟨j, hj, rfl, HKj⟩ := hrel
          clear x0 x1 x2 y0 y1 y2
          obtain ⟨x2, y2⟩ := HCC.out wr HKj.out
          by_cases hlj : j < t.cells.length
          · obtain ⟨b3, o3, aia, nia, cia, rfl, _, p0, p1, p2, hnia, hia⟩ := (HCA2.out.same HKj.out).at j hlj
            obtain ⟨b4, o4, aib, nib, cib, rfl, _, q0, q1, q2, hnib, hib⟩ := (HCB2.out.same HKj.out).at j hlj
            obtain ⟨hz1, hmi, hz2⟩ := hia.len
            clear hz1 hz2
            obtain ⟨c, hec⟩ : ∃ c, c = t.cells[j] := ⟨_, rfl⟩
            rw [← hec] at p0 p1 hnia hia q0 q1 hnib hib hmi
            subst hnia hnib
            have HIA := hide hia
            have HIB := hide hib
            clear hec hia hib
            obtain ⟨G2, hG3, hG4⟩ : ∃ G, G ≤ gk ∧ gk ≤ G := ⟨gk, Nat.le_refl _, Nat.le_refl _⟩
            obtain ⟨wj, hwj⟩ : ∃ wj, wj = wr := ⟨_, rfl⟩
            subst hwj
            have HPQ := hide (fun wy (hy : Same wj wy) => (⟨hy.cell x2 (fun f => f), hy.cell y2 (fun f => f), hy.cell p2 (fun f => f), hy.cell q2 (fun f => f)⟩ : wy.cell? ⟨g6, 2, none⟩ = _ ∧ wy.cell? ⟨g7, 2, none⟩ = _ ∧ wy.cell? ⟨b3, o3 + j * 3 + 2, none⟩ = _ ∧ wy.cell? ⟨b4, o4 + j * 3 + 2, none⟩ = _))
            go_wp2_with fail
            go_quiet (fail)
            go_wp2_with fail
            go_loopg [9] c.ids.length (fun g i wr => ∃ h : Nat, h + g = c.ids.length ∧ i = .int .i64 h ∧ Hid (Same wj wr))
            case atStart => exact ⟨0, by omega, rfl, Kept.drewN (Kept.refl _ _) _⟩
            case round =>
              obtain ⟨h, hh, rfl, HKh⟩ := hrel
              clear x2 y2 p0 p1 p2 q0 q1 q2
              obtain ⟨x2, y2, p2, q2⟩ := HPQ.out wr HKh.out
              by_cases hlh : h < c.ids.length
              · obtain ⟨b5, o5, rfl, _, r0⟩ := (HIA.out.same HKh.out).at h hlh
                obtain ⟨b6, o6, rfl, _, s0⟩ := (HIB.out.same HKh.out).at h hlh
                obtain ⟨z, hz⟩ : ∃ z, z = c.ids[h] := ⟨_, rfl⟩
                rw [← hz] at r0 s0
                clear hz
                go_wp2_with fail
                go_quiet (fail)
                go_wp2_with fail
                go_roundg (gk - 1)
                case measure => omega
                case rel => exact ⟨h + 1, by omega, by go_num, HKh.out.drewN _⟩
              · go_wp2_with fail
                go_roundg (G2 - 1)
                case measure => omega
                case rel => exact ⟨j + 1, by omega, by go_num, tra HKj.out HKh.out⟩
          · go_wp2_with fail
            go_roundg (G - 1)
            case measure => omega
            case rel => exact ⟨k + 1, by omega, by go_num, tra HK2.out HKj.out⟩
    · go_wp2_with fail
      go_ret
      exact ⟨rfl, tra HKW.out HK.out⟩

end Go.Proofs.Ytidodjbmlbjchaa

/- halyardref.ThingAt. -/
namespace Go.Proofs.Ytidodjbmlbjchaa
open Go.RowKit

/-- the place of a thing, or -1 -/
def thIx (l : List ThingT) (ty id : Int) : Int := if hasTh l ty id then (l.findIdx (isTh ty id) : Nat) else -1

theorem thIx_is {l : List ThingT} {ty id : Int} {k : Nat} (hk : k < l.length) (h1 : l[k].ty = ty ∧ l[k].id = id) (h2 : ∀ j (hj : j < l.length), j < k → ¬ (l[j].ty = ty ∧ l[j].id = id)) : thIx l ty id = k := by
  have hh : hasTh l ty id = true := (hasTh_iff _ _ _).2 ⟨_, List.getElem_mem hk, h1.1, h1.2⟩
  have hf : l.findIdx (isTh ty id) = k := by
    rw [List.findIdx_eq hk]
    refine ⟨(isTh_iff _ _ _).2 h1, fun j hj => ?_⟩
    have := h2 j (by omega) hj
    rw [Bool.eq_false_iff, Ne, isTh_iff]
    exact this
  rw [thIx, if_pos hh, hf]
theorem thIx_no {l : List ThingT} {ty id : Int} (h2 : ∀ j (hj : j < l.length), ¬ (l[j].ty = ty ∧ l[j].id = id)) : thIx l ty id = -1 := by
  have hh : hasTh l ty id = false := (hasTh_not _ _ _).2 (fun t ht => by
    obtain ⟨j, hj, rfl⟩ := List.getElem_of_mem ht
    exact h2 j hj)
  rw [thIx, if_neg (by rw [hh]; decide)]

set_option maxRecDepth 20000 in
set_option maxHeartbeats 1600000 in
theorem rThingAt_any (w : World) (at' : Option Addr) (nt ct : Nat) (vh : Value) (l : List ThingT) (ty ix : Int) (P : Nat → Prop) (hh : ThgSl P w vh l) :
    Calls Try.prog 11 #[stV (.slice at' nt ct) vh, .int .i64 ty, .int .i64 ix] w fun r w' => r = .returned (.int .i64 (thIx l ty ix)) ∧ Same w w' := by
  obtain ⟨ah, ch, rfl, _, _⟩ := id hh
  obtain ⟨_, hmax, _⟩ := hh.len
  obtain ⟨W, hW⟩ : ∃ W, W = w.alloc (.cells #[.slice at' nt ct, .slice ah l.length ch] 25) := ⟨_, rfl⟩
  obtain ⟨g, hg⟩ : ∃ g, g = w.heap.size := ⟨_, rfl⟩
  have HKW := hide (show Same w W by rw [hW]; exact (Kept.refl _ w).alloc _)
  have hG : W.heap[g]? = some (.cells #[.slice at' nt ct, .slice ah l.length ch] 25 (0, 0)) := by rw [hW, hg]; exact heap_alloc_new _ _
  obtain ⟨c0, c1⟩ := blk2' hG
  have HALL := hide (fun wy (hy : Same W wy) => hy.cell c1 (fun f => f))
  have HH := hide (fun wy (hy : Same W wy) => hh.same (tra HKW.out hy))
  have HX1 := hide (fun (k : Nat) (hk : k < l.length) (h1 : l[k].ty = ty ∧ l[k].id = ix) h2 => thIx_is hk h1 h2)
  have HX2 := hide (fun h2 => thIx_no (l := l) (ty := ty) (id := ix) h2)
  obtain ⟨x, hx⟩ : ∃ x, thIx l ty ix = x := ⟨_, rfl⟩
  rw [hx] at HX1 HX2 ⊢
  clear hx hh hG c0 c1
  go_enter Try.func11, Try.ntmps11
  go_upto_region 1 with fail
  rw [← hW, ← hg]
  clear hW hg
  go_wp2_with fail
  go_loopg [7] l.length (fun gg i wr => ∃ k : Nat, k + gg = l.length ∧ i = .int .i64 k ∧ Hid (Same W wr) ∧ Hid (∀ j (hj : j < l.length), j < k → ¬ (l[j].ty = ty ∧ l[j].id = ix)))
  case atStart => exact ⟨0, by omega, rfl, Kept.refl _ _, fun j _ hj => absurd hj (by omega)⟩
  case round =>
    obtain ⟨k, hk, rfl, HK, HN⟩ := hrel
    have c1 := HALL.out wr HK.out
    by_cases hlt : k < l.length
    · obtain ⟨b, o, ac, nc, cc, rfl, _, a0, a1, a2, hn2, hc2⟩ := (HH.out wr HK.out).at k hlt
      clear a2 hn2 hc2
      by_cases h1 : l[k].ty = ty
      · by_cases h2 : l[k].id = ix
        · have HF := hide (HX1.out k hlt ⟨h1, h2⟩ HN.out)
          rw [h1] at a0
          rw [h2] at a1
          clear h1 h2
          go_wp2_with fail
          go_ret
          exact ⟨ret_int HF.out.symm, tra HKW.out HK.out⟩
        · have HN2 := hide (show ∀ j (hj : j < l.length), j < k + 1 → ¬ (l[j].ty = ty ∧ l[j].id = ix) from fun j hj hjk => by
            rcases Nat.lt_or_ge j k with h | h
            · exact HN.out j hj h
            · have : j = k := by omega
              subst this
              exact fun h => h2 h.2)
          have hb : (l[k].id == ix) = false := by simp [h2]
          obtain ⟨z, hz⟩ : ∃ z, z = l[k].id := ⟨_, rfl⟩
          rw [← hz] at a1 hb
          rw [h1] at a0
          clear h1 h2 hz
          go_wp2_with fail
          go_roundg (gk - 1)
          case measure => omega
          case rel => exact ⟨k + 1, by omega, by go_num, HK, HN2⟩
      · have HN2 := hide (show ∀ j (hj : j < l.length), j < k + 1 → ¬ (l[j].ty = ty ∧ l[j].id = ix) from fun j hj hjk => by
          rcases Nat.lt_or_ge j k with h | h
          · exact HN.out j hj h
          · have : j = k := by omega
            subst this
            exact fun h => h1 h.1)
        have hb : (l[k].ty == ty) = false := by simp [h1]
        obtain ⟨z, hz⟩ : ∃ z, z = l[k].ty := ⟨_, rfl⟩
        rw [← hz] at a0 hb
        clear h1 hz
        go_wp2_with fail
        go_roundg (gk - 1)
        case measure => omega
        case rel => exact ⟨k + 1, by omega, by go_num, HK, HN2⟩
    · have HF := hide (HX2.out (fun j hj => HN.out j hj (by omega)))
      go_wp2_with fail
      go_ret
      exact ⟨ret_int HF.out.symm, tra HKW.out HK.out⟩

end Go.Proofs.Ytidodjbmlbjchaa

/- state.unchange. -/
namespace Go.Proofs.Ytidodjbmlbjchaa
open Go.RowKit

set_option maxRecDepth 20000 in
set_option maxHeartbeats 3200000 in
theorem unchange_any (w : World) (f : FieldT) (c : CellT) (vi : Value) (e : EventT) (P : Nat → Prop) (h : IdsSl P w vi c.ids) (hk : 3 ≤ e.kind ∧ e.kind ≤ 6) :
    Calls Try.prog 21 #[flV f, ceV c vi, evV e] w fun r w' => r = .returned (evV (unchangeE f c e)) ∧ Same w w' := by
  obtain ⟨ai, ci, rfl, _, _⟩ := id h
  obtain ⟨_, hmax, _⟩ := h.len
  obtain ⟨n, tx, ids⟩ := c
  obtain ⟨k, ty, i, fi, en, et⟩ := e
  obtain ⟨fn, fk, fo⟩ := f
  simp only at h hk hmax ⊢
  have hk4 : k = 3 ∨ k = 4 ∨ k = 5 ∨ k = 6 := by omega
  clear hk
  obtain ⟨W, hW⟩ : ∃ W, W = ((w.alloc (.cells #[.string ⟨fn.toArray⟩, .int .i64 fk, .string ⟨fo.toArray⟩] 58)).alloc (.cells #[.int .i64 n, .string ⟨tx.toArray⟩, .slice ai ids.length ci] 46)).alloc (.cells #[.int .i64 k, .int .i64 ty, .int .i64 i, .int .i64 fi, .int .i64 en, .string ⟨et.toArray⟩] 27) := ⟨_, rfl⟩
  have HKW := hide (show Same w W by rw [hW]; exact (((Kept.refl _ w).alloc _).alloc _).alloc _)
  rcases hk4 with rfl | rfl | rfl | rfl
  · clear h
    go_enter Try.func21, Try.ntmps21
    go_wp2_with fail
    exact bodyPost_ret (by simp [results, Try.results21, go_sem]; rfl) rfl ⟨by simp [unchangeE], by exact (by repeat' (first | assumption | exact Kept.refl _ _ | refine Kept.drewN ?_ _ | refine Kept.drew ?_ | refine Kept.alloc ?_ _ | refine Kept.setB ?_ _ _))⟩
  · clear h
    go_enter Try.func21, Try.ntmps21
    go_wp2_with fail
    exact bodyPost_ret (by simp [results, Try.results21, go_sem]; rfl) rfl ⟨by simp [unchangeE], by exact (by repeat' (first | assumption | exact Kept.refl _ _ | refine Kept.drewN ?_ _ | refine Kept.drew ?_ | refine Kept.alloc ?_ _ | refine Kept.setB ?_ _ _))⟩
  · by_cases hf : fk = 3
    · cases ids with
      | nil =>
        subst hf
        clear h
        go_enter Try.func21, Try.ntmps21
        go_wp2_with fail
        exact bodyPost_ret (by simp [results, Try.results21, go_sem]; rfl) rfl ⟨by simp [unchangeE], by exact (by repeat' (first | assumption | exact Kept.refl _ _ | refine Kept.drewN ?_ _ | refine Kept.drew ?_ | refine Kept.alloc ?_ _ | refine Kept.setB ?_ _ _))⟩
      | cons z r =>
        subst hf
        have h2 := (h.same HKW.out).same (show Same W (W.alloc (.cells #[.int .i64 0, .int .i64 0, .int .i64 0, .int .i64 0, .int .i64 0, .string ⟨#[]⟩] 27)) from (Kept.refl _ W).alloc _)
        obtain ⟨b, o, rfl, _, c0⟩ := h2.at 0 (by simp)
        rw [hW] at c0
        simp only [Nat.add_zero, List.getElem_cons_zero] at c0
        have hl0 : (0 : Int) < ((z :: r).length : Int) := by simp
        obtain ⟨ln, hln⟩ : ∃ ln, (z :: r).length = ln := ⟨_, rfl⟩
        rw [hln] at hl0 c0 hmax ⊢
        clear h h2 hW
        go_enter Try.func21, Try.ntmps21
        go_wp2_with fail
        exact bodyPost_ret (by simp [results, Try.results21, go_sem]; rfl) rfl ⟨by simp [unchangeE], by exact (by repeat' (first | assumption | exact Kept.refl _ _ | refine Kept.drewN ?_ _ | refine Kept.drew ?_ | refine Kept.alloc ?_ _ | refine Kept.setB ?_ _ _))⟩
    · have hfb : (fk == 3) = false := by simp [hf]
      clear h
      go_enter Try.func21, Try.ntmps21
      go_wp2_with fail
      exact bodyPost_ret (by simp [results, Try.results21, go_sem]; rfl) rfl ⟨by simp [unchangeE, hf], by exact (by repeat' (first | assumption | exact Kept.refl _ _ | refine Kept.drewN ?_ _ | refine Kept.drew ?_ | refine Kept.alloc ?_ _ | refine Kept.setB ?_ _ _))⟩
  · clear h
    go_enter Try.func21, Try.ntmps21
    go_wp2_with fail
    exact bodyPost_ret (by simp [results, Try.results21, go_sem]; rfl) rfl ⟨by simp [unchangeE], by exact (by repeat' (first | assumption | exact Kept.refl _ _ | refine Kept.drewN ?_ _ | refine Kept.drew ?_ | refine Kept.alloc ?_ _ | refine Kept.setB ?_ _ _))⟩

end Go.Proofs.Ytidodjbmlbjchaa

/- state.undrop. -/
namespace Go.Proofs.Ytidodjbmlbjchaa
open Go.RowKit

set_option maxRecDepth 20000 in
set_option maxHeartbeats 1600000 in
theorem undropAsk_any (w : World) : AsksAt w 39 #[] firstC := by
  intro wx f c ai ni ci hx hids
  obtain ⟨hni, hmax, _⟩ := hids.len
  have HM := hide (show firstC f c = if c.n ≠ 0 ∨ c.text ≠ [] ∨ c.ids ≠ [] then 4 else 0 from rfl)
  obtain ⟨m, hm⟩ : ∃ m, firstC f c = m := ⟨_, rfl⟩
  rw [hm] at HM ⊢
  obtain ⟨n, tx, ids⟩ := c
  simp only at HM hni hmax ⊢
  subst hni
  clear hm hids hx
  go_enter Try.func39, Try.ntmps39
  go_wp2_with fail
  all_goals (go_ret; refine ⟨ret_int ?_, by exact (by repeat' (first | assumption | exact Kept.refl _ _ | refine Kept.drewN ?_ _ | refine Kept.drew ?_ | refine Kept.alloc ?_ _ | refine Kept.setB ?_ _ _))⟩; rw [HM.out]; first | (rw [if_pos (by simp_all [List.length_pos_iff])]; done) | (rw [if_neg (by simp_all [List.length_pos_iff])]; done))

end Go.Proofs.Ytidodjbmlbjchaa
