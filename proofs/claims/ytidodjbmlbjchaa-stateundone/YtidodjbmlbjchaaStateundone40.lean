import Derived.Test.YtidodjbmlbjchaaStateundone39
/- halyardref.SameState of equal ones. -/
namespace Go.Proofs.Ytidodjbmlbjchaa
open Go.RowKit

set_option maxRecDepth 20000 in
set_option maxHeartbeats 3200000 in
theorem sameState_eq (w : World) (ta tb va vb : Value) (s : StateT) (hta : TypSl anyB w ta s.types) (htb : TypSl anyB w tb s.types) (hva : ThgSl anyB w va s.things) (hvb : ThgSl anyB w vb s.things) :
    Calls Try.prog 10 #[stV ta va, stV tb vb] w fun e w' => e = .returned (.bool true) ∧ Same w w' := by
  obtain ⟨ata, cta, rfl, _, _⟩ := id hta
  obtain ⟨atb, ctb, rfl, _, _⟩ := id htb
  obtain ⟨ava, cva, rfl, _, _⟩ := id hva
  obtain ⟨avb, cvb, rfl, _, _⟩ := id hvb
  obtain ⟨_, hmax, _⟩ := hva.len
  obtain ⟨types, l⟩ := s
  simp only at hta htb hva hvb hmax ⊢
  obtain ⟨W, hW⟩ : ∃ W, W = (w.alloc (.cells #[.slice ata types.length cta, .slice ava l.length cva] 25)).alloc (.cells #[.slice atb types.length ctb, .slice avb l.length cvb] 25) := ⟨_, rfl⟩
  obtain ⟨ga, hga⟩ : ∃ g, g = w.heap.size := ⟨_, rfl⟩
  obtain ⟨gb, hgb⟩ : ∃ g, g = w.heap.size + 1 := ⟨_, rfl⟩
  have HKW := hide (show Same w W by rw [hW]; exact ((Kept.refl _ w).alloc _).alloc _)
  have hGA : W.heap[ga]? = some (.cells #[.slice ata types.length cta, .slice ava l.length cva] 25 (0, 0)) := by rw [hW, hga]; exact al_o _ _ _
  have hGB : W.heap[gb]? = some (.cells #[.slice atb types.length ctb, .slice avb l.length cvb] 25 (0, 0)) := by rw [hW, hgb]; exact al_n _ _ _
  obtain ⟨c0, c1⟩ := blk2' hGA
  obtain ⟨d0, d1⟩ := blk2' hGB
  have HALL := hide (fun wy (hy : Same W wy) => (⟨hy.cell c0 (fun f => f), hy.cell c1 (fun f => f), hy.cell d0 (fun f => f), hy.cell d1 (fun f => f)⟩ : wy.cell? ⟨ga, 0, none⟩ = _ ∧ wy.cell? ⟨ga, 1, none⟩ = _ ∧ wy.cell? ⟨gb, 0, none⟩ = _ ∧ wy.cell? ⟨gb, 1, none⟩ = _))
  have HST := hide (fun wy (hy : Same W wy) => sameTypes_eq wy _ _ types anyB anyB (hta.same (tra HKW.out hy)) (htb.same (tra HKW.out hy)))
  have HA := hide (fun wy (hy : Same W wy) => hva.same (tra HKW.out hy))
  have HB := hide (fun wy (hy : Same W wy) => hvb.same (tra HKW.out hy))
  clear hta htb hva hvb hGA hGB
  go_enter Try.func10, Try.ntmps10
  go_upto_region 1 with fail
  rw [← hW, ← hgb, ← hga]
  clear hW hgb hga
  go_wp2_with fail
  refine (HST.out _ (Kept.refl _ _)).mono ?_
  rintro e w1 ⟨rfl, n1, hw1⟩
  have HK1 := hide (show Same W w1 by rw [hw1]; exact (Kept.refl _ W).drewN n1)
  clear hw1 c0 c1 d0 d1 HST
  obtain ⟨c0, c1, d0, d1⟩ := HALL.out w1 HK1.out
  go_wp2_with fail
  go_loopg [5] l.length (fun g i wr => ∃ k : Nat, k + g = l.length ∧ i = .int .i64 k ∧ Hid (Same W wr))
  case atStart => exact ⟨0, by omega, rfl, HK1⟩
  case round =>
    obtain ⟨k, hk, rfl, HK⟩ := hrel
    clear c0 c1 d0 d1
    obtain ⟨c0, c1, d0, d1⟩ := HALL.out wr HK.out
    by_cases hlt : k < l.length
    · obtain ⟨G, hG1, hG2⟩ : ∃ G, G ≤ gk ∧ gk ≤ G := ⟨gk, Nat.le_refl _, Nat.le_refl _⟩
      obtain ⟨ba, oa, aca, nca, cca, rfl, _, a0, a1, a2, hna, hca⟩ := (HA.out wr HK.out).at k hlt
      obtain ⟨bb, ob, acb, ncb, ccb, rfl, _, b0, b1, b2, hnb, hcb⟩ := (HB.out wr HK.out).at k hlt
      obtain ⟨hz1, hmc, hz2⟩ := hca.len
      clear hz1 hz2
      obtain ⟨t, het⟩ : ∃ t, t = l[k] := ⟨_, rfl⟩
      rw [← het] at a0 a1 hna hca b0 b1 hnb hcb hmc
      subst hna hnb
      have HCA := hide hca
      have HCB := hide hcb
      clear het hca hcb
      go_wp2_with fail
      go_cut [6, 7] from 25 to 144 (fun v6 v7 wx => ∃ g6 g7 : Nat, v6 = .pointer (some ⟨g6, 0, none⟩) ∧ v7 = .pointer (some ⟨g7, 0, none⟩) ∧ Hid (wx.heap[g6]? = some (.cells #[.int .i64 t.ty, .int .i64 t.id, .slice aca t.cells.length cca] 40 (0, 0))) ∧ Hid (wx.heap[g7]? = some (.cells #[.int .i64 t.ty, .int .i64 t.id, .slice acb t.cells.length ccb] 40 (0, 0))) ∧ Hid (Same wr wx))
      case first =>
        go_region_held3 (fun w' => w'.cell? ⟨ga, 1, none⟩ = some (.slice (some ⟨ba, oa, none⟩) l.length cva) ∧ w'.cell? ⟨gb, 1, none⟩ = some (.slice (some ⟨bb, ob, none⟩) l.length cvb) ∧ w'.cell? ⟨ba, oa + k * 3, none⟩ = some (.int .i64 t.ty) ∧ w'.cell? ⟨ba, oa + k * 3 + 1, none⟩ = some (.int .i64 t.id) ∧ w'.cell? ⟨ba, oa + k * 3 + 2, none⟩ = some (.slice aca t.cells.length cca) ∧ w'.cell? ⟨bb, ob + k * 3, none⟩ = some (.int .i64 t.ty) ∧ w'.cell? ⟨bb, ob + k * 3 + 1, none⟩ = some (.int .i64 t.id) ∧ w'.cell? ⟨bb, ob + k * 3 + 2, none⟩ = some (.slice acb t.cells.length ccb)) (go_keep) (fail)
        all_goals
          go_wp2_with fail
          go_meet
          case rel => first
            | exact ⟨_, _, rfl, rfl, al_o wr _ _, al_n wr _ _, (((Kept.refl _ wr).alloc _).alloc _).drew⟩
            | exact ⟨_, _, rfl, rfl, al_n wr _ _, al_o wr _ _, (((Kept.refl _ wr).alloc _).alloc _).drew⟩
            | trace_state
      case rest =>
        obtain ⟨g6, g7, rfl, rfl, HG6, HG7, HKr⟩ := hcut
        have HK2 := hide (tra HK.out HKr.out)
        have HCA2 := hide (HCA.out.same HKr.out)
        have HCB2 := hide (HCB.out.same HKr.out)
        obtain ⟨wo, hwo⟩ : ∃ wo, wo = wc := ⟨_, rfl⟩
        subst hwo
        have hg6 := HG6.out
        have hg7 := HG7.out
        obtain ⟨x0, x1, x2⟩ := blk3 hg6
        obtain ⟨y0, y1, y2⟩ := blk3 hg7
        have HCC := hide (fun wy (hy : Same wo wy) => (⟨hy.cell x2 (fun f => f), hy.cell y2 (fun f => f)⟩ : wy.cell? ⟨g6, 2, none⟩ = _ ∧ wy.cell? ⟨g7, 2, none⟩ = _))
        clear a0 a1 a2 b0 b1 b2 HKr hg6 hg7 HG6 HG7 c0 c1 d0 d1
        go_wp2_with fail
        go_loopg [8] t.cells.length (fun g i wr => ∃ j : Nat, j + g = t.cells.length ∧ i = .int .i64 j ∧ Hid (Same wo wr))
        case atStart => exact ⟨0, by omega, rfl, Kept.refl _ _⟩
        case round =>
          obtain ⟨j, hj, rfl, HKj⟩ := hrel
          clear x0 x1 x2 y0 y1 y2
          obtain ⟨x2, y2⟩ := HCC.out wr HKj.out
          by_cases hlj : j < t.cells.length
          · obtain ⟨b3, o3, aia, nia, cia, rfl, _, p0, p1, p2, hnia, hia⟩ := (HCA2.out.same HKj.out).at j hlj
            obtain ⟨b4, o4, aib, nib, cib, rfl, _, q0, q1, q2, hnib, hib⟩ := (HCB2.out.same HKj.out).at j hlj
            obtain ⟨hz1, hmi, hz2⟩ := hia.len
            clear hz1 hz2
            obtain ⟨c, hec⟩ : ∃ c, c = t.cells[j] := ⟨_, rfl⟩
            rw [← hec] at p0 p1 hnia hia q0 q1 hnib hib hmi
            subst hnia hnib
            have HIA := hide hia
            have HIB := hide hib
            clear hec hia hib
            obtain ⟨G2, hG3, hG4⟩ : ∃ G, G ≤ gk ∧ gk ≤ G := ⟨gk, Nat.le_refl _, Nat.le_refl _⟩
            obtain ⟨wj, hwj⟩ : ∃ wj, wj = wr := ⟨_, rfl⟩
            subst hwj
            have HPQ := hide (fun wy (hy : Same wj wy) => (⟨hy.cell x2 (fun f => f), hy.cell y2 (fun f => f), hy.cell p2 (fun f => f), hy.cell q2 (fun f => f)⟩ : wy.cell? ⟨g6, 2, none⟩ = _ ∧ wy.cell? ⟨g7, 2, none⟩ = _ ∧ wy.cell? ⟨b3, o3 + j * 3 + 2, none⟩ = _ ∧ wy.cell? ⟨b4, o4 + j * 3 + 2, none⟩ = _))
            go_wp2_with fail
            go_quiet (fail)
            go_wp2_with fail
            go_loopg [9] c.ids.length (fun g i wr => ∃ h : Nat, h + g = c.ids.length ∧ i = .int .i64 h ∧ Hid (Same wj wr))
            case atStart => exact ⟨0, by omega, rfl, Kept.drewN (Kept.refl _ _) _⟩
            case round =>
              obtain ⟨h, hh, rfl, HKh⟩ := hrel
              clear x2 y2 p0 p1 p2 q0 q1 q2
              obtain ⟨x2, y2, p2, q2⟩ := HPQ.out wr HKh.out
              by_cases hlh : h < c.ids.length
              · obtain ⟨b5, o5, rfl, _, r0⟩ := (HIA.out.same HKh.out).at h hlh
                obtain ⟨b6, o6, rfl, _, s0⟩ := (HIB.out.same HKh.out).at h hlh
                obtain ⟨z, hz⟩ : ∃ z, z = c.ids[h] := ⟨_, rfl⟩
                rw [← hz] at r0 s0
                clear hz
                go_wp2_with fail
                go_quiet (fail)
                go_wp2_with fail
                go_roundg (gk - 1)
                case measure => omega
                case rel => exact ⟨h + 1, by omega, by go_num, HKh.out.drewN _⟩
              · go_wp2_with fail
                go_roundg (G2 - 1)
                case measure => omega
                case rel => exact ⟨j + 1, by omega, by go_num, tra HKj.out HKh.out⟩
          · go_wp2_with fail
            go_roundg (G - 1)
            case measure => omega
            case rel => exact ⟨k + 1, by omega, by go_num, tra HK2.out HKj.out⟩
    · go_wp2_with fail
      go_ret
      exact ⟨rfl, tra HKW.out HK.out⟩

end Go.Proofs.Ytidodjbmlbjchaa

/- state.unchange. -/
namespace Go.Proofs.Ytidodjbmlbjchaa
open Go.RowKit

set_option maxRecDepth 20000 in
set_option maxHeartbeats 3200000 in
theorem unchange_any (w : World) (f : FieldT) (c : CellT) (vi : Value) (e : EventT) (P : Nat → Prop) (h : IdsSl P w vi c.ids) (hk : 3 ≤ e.kind ∧ e.kind ≤ 6) :
    Calls Try.prog 21 #[flV f, ceV c vi, evV e] w fun r w' => r = .returned (evV (unchangeE f c e)) ∧ Same w w' := by
  obtain ⟨ai, ci, rfl, _, _⟩ := id h
  obtain ⟨_, hmax, _⟩ := h.len
  obtain ⟨n, tx, ids⟩ := c
  obtain ⟨k, ty, i, fi, en, et⟩ := e
  obtain ⟨fn, fk, fo⟩ := f
  simp only at h hk hmax ⊢
  have hk4 : k = 3 ∨ k = 4 ∨ k = 5 ∨ k = 6 := by omega
  clear hk
  obtain ⟨W, hW⟩ : ∃ W, W = ((w.alloc (.cells #[.string ⟨fn.toArray⟩, .int .i64 fk, .string ⟨fo.toArray⟩] 58)).alloc (.cells #[.int .i64 n, .string ⟨tx.toArray⟩, .slice ai ids.length ci] 46)).alloc (.cells #[.int .i64 k, .int .i64 ty, .int .i64 i, .int .i64 fi, .int .i64 en, .string ⟨et.toArray⟩] 27) := ⟨_, rfl⟩
  have HKW := hide (show Same w W by rw [hW]; exact (((Kept.refl _ w).alloc _).alloc _).alloc _)
  rcases hk4 with rfl | rfl | rfl | rfl
  · clear h
    go_enter Try.func21, Try.ntmps21
    go_wp2_with fail
    exact bodyPost_ret (by simp [results, Try.results21, go_sem]; rfl) rfl ⟨by simp [unchangeE], by exact (by repeat' (first | assumption | exact Kept.refl _ _ | refine Kept.drewN ?_ _ | refine Kept.drew ?_ | refine Kept.alloc ?_ _ | refine Kept.setB ?_ _ _))⟩
  · clear h
    go_enter Try.func21, Try.ntmps21
    go_wp2_with fail
    exact bodyPost_ret (by simp [results, Try.results21, go_sem]; rfl) rfl ⟨by simp [unchangeE], by exact (by repeat' (first | assumption | exact Kept.refl _ _ | refine Kept.drewN ?_ _ | refine Kept.drew ?_ | refine Kept.alloc ?_ _ | refine Kept.setB ?_ _ _))⟩
  · by_cases hf : fk = 3
    · cases ids with
      | nil =>
        subst hf
        clear h
        go_enter Try.func21, Try.ntmps21
        go_wp2_with fail
        exact bodyPost_ret (by simp [results, Try.results21, go_sem]; rfl) rfl ⟨by simp [unchangeE], by exact (by repeat' (first | assumption | exact Kept.refl _ _ | refine Kept.drewN ?_ _ | refine Kept.drew ?_ | refine Kept.alloc ?_ _ | refine Kept.setB ?_ _ _))⟩
      | cons z r =>
        subst hf
        have h2 := (h.same HKW.out).same (show Same W (W.alloc (.cells #[.int .i64 0, .int .i64 0, .int .i64 0, .int .i64 0, .int .i64 0, .string ⟨#[]⟩] 27)) from (Kept.refl _ W).alloc _)
        obtain ⟨b, o, rfl, _, c0⟩ := h2.at 0 (by simp)
        rw [hW] at c0
        simp only [Nat.add_zero, List.getElem_cons_zero] at c0
        have hl0 : (0 : Int) < ((z :: r).length : Int) := by simp
        obtain ⟨ln, hln⟩ : ∃ ln, (z :: r).length = ln := ⟨_, rfl⟩
        rw [hln] at hl0 c0 hmax ⊢
        clear h h2 hW
        go_enter Try.func21, Try.ntmps21
        go_wp2_with fail
        exact bodyPost_ret (by simp [results, Try.results21, go_sem]; rfl) rfl ⟨by simp [unchangeE], by exact (by repeat' (first | assumption | exact Kept.refl _ _ | refine Kept.drewN ?_ _ | refine Kept.drew ?_ | refine Kept.alloc ?_ _ | refine Kept.setB ?_ _ _))⟩
    · have hfb : (fk == 3) = false := by simp [hf]
      clear h
      go_enter Try.func21, Try.ntmps21
      go_wp2_with fail
      exact bodyPost_ret (by simp [results, Try.results21, go_sem]; rfl) rfl ⟨by simp [unchangeE, hf], by exact (by repeat' (first | assumption | exact Kept.refl _ _ | refine Kept.drewN ?_ _ | refine Kept.drew ?_ | refine Kept.alloc ?_ _ | refine Kept.setB ?_ _ _))⟩
  · clear h
    go_enter Try.func21, Try.ntmps21
    go_wp2_with fail
    exact bodyPost_ret (by simp [results, Try.results21, go_sem]; rfl) rfl ⟨by simp [unchangeE], by exact (by repeat' (first | assumption | exact Kept.refl _ _ | refine Kept.drewN ?_ _ | refine Kept.drew ?_ | refine Kept.alloc ?_ _ | refine Kept.setB ?_ _ _))⟩

end Go.Proofs.Ytidodjbmlbjchaa

/- state.undrop. -/
namespace Go.Proofs.Ytidodjbmlbjchaa
open Go.RowKit

set_option maxRecDepth 20000 in
set_option maxHeartbeats 1600000 in
theorem undropAsk_any (w : World) : AsksAt w 39 #[] firstC := by
  intro wx f c ai ni ci hx hids
  obtain ⟨hni, hmax, _⟩ := hids.len
  have HM := hide (show firstC f c = if c.n ≠ 0 ∨ c.text ≠ [] ∨ c.ids ≠ [] then 4 else 0 from rfl)
  obtain ⟨m, hm⟩ : ∃ m, firstC f c = m := ⟨_, rfl⟩
  rw [hm] at HM ⊢
  obtain ⟨n, tx, ids⟩ := c
  simp only at HM hni hmax ⊢
  subst hni
  clear hm hids hx
  go_enter Try.func39, Try.ntmps39
  go_wp2_with fail
  all_goals (go_ret; refine ⟨ret_int ?_, by exact (by repeat' (first | assumption | exact Kept.refl _ _ | refine Kept.drewN ?_ _ | refine Kept.drew ?_ | refine Kept.alloc ?_ _ | refine Kept.setB ?_ _ _))⟩; rw [HM.out]; first | (rw [if_pos (by simp_all [List.length_pos_iff])]; done) | (rw [if_neg (by simp_all [List.length_pos_iff])]; done))

end Go.Proofs.Ytidodjbmlbjchaa

/- state.undrop: its walk. -/
namespace Go.Proofs.Ytidodjbmlbjchaa
open Go.RowKit

abbrev ev0 : EventT := ⟨0, 0, 0, 0, 0, []⟩

theorem cells6e {w : World} {g : Nat} {a0 a1 a2 a3 a4 a5 : Value} {t : TypeId} (h : w.heap[g]? = some (.cells #[a0, a1, a2, a3, a4, a5] t (0, 0))) :
    w.cell? ⟨g, 0, none⟩ = some a0 ∧ w.cell? ⟨g, 1, none⟩ = some a1 ∧ w.cell? ⟨g, 2, none⟩ = some a2 ∧ w.cell? ⟨g, 3, none⟩ = some a3 ∧ w.cell? ⟨g, 4, none⟩ = some a4 ∧ w.cell? ⟨g, 5, none⟩ = some a5 ∧ ∀ o, w.frozen? ⟨g, o, none⟩ = false := by
  simp [World.cell?, World.frozen?, h]
theorem put6e {w : World} {g : Nat} {a0 a1 a2 a3 a4 a5 : Value} {t : TypeId} (h : w.heap[g]? = some (.cells #[a0, a1, a2, a3, a4, a5] t (0, 0))) (b0 b1 b2 b3 b4 b5 : Value) :
    ((((((w.setCell ⟨g, 0, none⟩ b0).setCell ⟨g, 1, none⟩ b1).setCell ⟨g, 2, none⟩ b2).setCell ⟨g, 3, none⟩ b3).setCell ⟨g, 4, none⟩ b4).setCell ⟨g, 5, none⟩ b5).heap[g]? = some (.cells #[b0, b1, b2, b3, b4, b5] t (0, 0)) ∧
    Kept (· = g) w ((((((w.setCell ⟨g, 0, none⟩ b0).setCell ⟨g, 1, none⟩ b1).setCell ⟨g, 2, none⟩ b2).setCell ⟨g, 3, none⟩ b3).setCell ⟨g, 4, none⟩ b4).setCell ⟨g, 5, none⟩ b5) :=
  ⟨by simp [World.setCell, Array.getElem?_modify, h], ((((((Kept.refl (· = g) w).setB 0 b0).setB 1 b1).setB 2 b2).setB 3 b3).setB 4 b4).setB 5 b5⟩

/-- what undrop and Undo answer -/
def unA (w w' : World) (r : Ending) (x : Except Int EventT) : Prop :=
  Same w w' ∧ match x with
  | .error m => r = .returned (.tuple #[evV ev0, .int .i64 m])
  | .ok u => r = .returned (.tuple #[evV u, .int .i64 0])

def undropE (types : List TypeT) (t : ThingT) : Except Int EventT := if eachC firstC (fieldsOf types t.ty) t.cells ≠ 0 then .error 4 else .ok ⟨1, t.ty, t.id, 0, 0, []⟩

theorem cell_lt {w : World} {p : Addr} {v : Value} (h : w.cell? p = some v) : p.block < w.heap.size := by
  rcases Nat.lt_or_ge p.block w.heap.size with h1 | h1
  · exact h1
  · simp [World.cell?, Array.getElem?_eq_none h1] at h

theorem eachC_first : ∀ {fs : List FieldT} {cs : List CellT}, eachC firstC fs cs ≠ 0 → eachC firstC fs cs = 4
  | f :: fs, c :: cs, h => by
    unfold eachC at h ⊢
    by_cases h0 : firstC f c ≠ 0
    · rw [if_pos h0]
      unfold firstC at h0 ⊢
      split
      · rfl
      · rename_i h1; rw [if_neg h1] at h0; exact absurd rfl h0
    · rw [if_neg h0] at h ⊢
      exact eachC_first h
  | [], _, h => absurd (by unfold eachC; rfl) h
  | _ :: _, [], h => absurd (by unfold eachC; rfl) h

set_option maxRecDepth 20000 in
set_option maxHeartbeats 1600000 in
theorem undrop_any (w : World) (vt vh : Value) (types : List TypeT) (l : List ThingT) (i : Nat) (ht : TypSl anyB w vt types) (hh : ThgSl anyB w vh l) (hi : i < l.length) (hi8 : l.length ≤ 1000) (hfit : fitTh types l[i]) :
    Calls Try.prog 20 #[stV vt vh, .int .i64 i] w fun r w' => unA w w' r (undropE types l[i]) := by
  obtain ⟨at', ct, rfl, _, _⟩ := id ht
  obtain ⟨ah, ch, rfl, ⟨_, hcap⟩, _⟩ := id hh
  obtain ⟨b, off, ac, nc, cc, rfl, _, t0, t1, hu2, hu3, hu4⟩ := hh.at i hi
  obtain ⟨W, hW⟩ : ∃ W, W = (w.alloc (.cells #[.slice at' types.length ct, .slice (some ⟨b, off, none⟩) l.length ch] 25)).alloc (.cells #[.int .i64 0, .int .i64 0, .int .i64 0, .int .i64 0, .int .i64 0, .string ⟨#[]⟩] 27) := ⟨_, rfl⟩
  obtain ⟨gs, hgs⟩ : ∃ g, g = w.heap.size := ⟨_, rfl⟩
  obtain ⟨gr, hgr⟩ : ∃ g, g = w.heap.size + 1 := ⟨_, rfl⟩
  have HKW := hide (show Same w W by rw [hW]; exact ((Kept.refl _ w).alloc _).alloc _)
  have hGS : W.heap[gs]? = some (.cells #[.slice at' types.length ct, .slice (some ⟨b, off, none⟩) l.length ch] 25 (0, 0)) := by rw [hW, hgs]; exact al_o _ _ _
  have HGR := hide (show W.heap[gr]? = some (.cells #[.int .i64 0, .int .i64 0, .int .i64 0, .int .i64 0, .int .i64 0, .string ⟨#[]⟩] 27 (0, 0)) by rw [hW, hgr]; exact al_n _ _ _)
  have hbw : b < w.heap.size := cell_lt t0
  have HLT := hide (show w.heap.size ≤ gr by omega)
  have HNE := hide (show gr ≠ gs ∧ gs ≠ gr ∧ gr ≠ b ∧ b ≠ gr by omega)
  obtain ⟨c0, c1⟩ := blk2' hGS
  have HALL := hide (fun wy (hy : Same W wy) => (⟨hy.cell c0 (fun f => f), hy.cell c1 (fun f => f), (tra HKW.out hy).cell t0 (fun f => f), (tra HKW.out hy).cell t1 (fun f => f)⟩ : wy.cell? ⟨gs, 0, none⟩ = _ ∧ wy.cell? ⟨gs, 1, none⟩ = _ ∧ wy.cell? ⟨b, off + i * 3, none⟩ = _ ∧ wy.cell? ⟨b, off + i * 3 + 1, none⟩ = _))
  have HEC := hide (fun wy (hy : Same W wy) => eachCell_any wy _ _ types [l[i]] 39 #[] firstC (by intro args w; kernel_rfl) (ht.same (tra HKW.out hy)) ((hh.one i hi (ch - i) (by omega)).same (tra HKW.out hy)) (fun u hu => by simp at hu; subst hu; exact hfit) (undropAsk_any wy))
  obtain ⟨i1, hi1⟩ : ∃ i1, i1 = i + 1 := ⟨_, rfl⟩
  have hwr : IntKind.i64.wrap ((i : Int) + 1) = (i1 : Int) := by rw [IntKind.wrap_i64]; omega
  have hj0 : (0 : Int) ≤ (i1 : Int) := by omega
  have hj1 : (i1 : Int) ≤ (ch : Int) := by omega
  have hj2 : (i : Int) ≤ (i1 : Int) := by omega
  have hj3 : (i : Int) < (l.length : Int) := by omega
  have hj4 : i1 - i = 1 := by omega
  have hj5 : ¬ ch = i := by omega
  have HU := hide (show undropE types l[i] = if eachC firstC (fieldsOf types l[i].ty) l[i].cells ≠ 0 then .error 4 else .ok ⟨1, l[i].ty, l[i].id, 0, 0, []⟩ from rfl)
  have H4 := hide (fun (h : eachC firstC (fieldsOf types l[i].ty) l[i].cells ≠ 0) => eachC_first h)
  obtain ⟨x, hx⟩ : ∃ x, undropE types l[i] = x := ⟨_, rfl⟩
  obtain ⟨m, hm⟩ : ∃ m, eachC firstC (fieldsOf types l[i].ty) l[i].cells = m := ⟨_, rfl⟩
  rw [eachT_one] at HEC
  rw [hm] at HEC HU H4
  rw [hx] at HU ⊢
  obtain ⟨t, het⟩ : ∃ t, l[i] = t := ⟨_, rfl⟩
  rw [het] at HU HALL
  clear hbw hx hm het hfit ht hh t0 t1 hGS hcap c0 c1 hu2 hu3 hu4
  go_enter Try.func20, Try.ntmps20
  go_upto_region 1 with fail
  rw [← hW, ← hgr, ← hgs]
  clear hW hgr hgs hi1 hi8
  obtain ⟨c0, c1, t0, t1⟩ := HALL.out W (Kept.refl _ _)
  go_region_held3 (fun w' => w'.cell? ⟨gs, 0, none⟩ = some (.slice at' types.length ct) ∧ w'.cell? ⟨gs, 1, none⟩ = some (.slice (some ⟨b, off, none⟩) l.length ch)) (go_keep)
    ((go_at_call 33; refine (HEC.out _ (by exact (by repeat' (first | assumption | exact Kept.refl _ _ | refine Kept.drewN ?_ _ | refine Kept.drew ?_ | refine Kept.alloc ?_ _ | refine Kept.setB ?_ _ _)))).mono ?_; rintro r9 w3 ⟨rfl, hK3⟩; have u0 := hK3.cell (p := ⟨gs, 0, none⟩) (by exact c0) (fun f => f); have u1 := hK3.cell (p := ⟨gs, 1, none⟩) (by exact c1) (fun f => f)))
  have HK3 := hide (show Same W w3 from hK3.unD)
  have hR := blk_kept HGR.out HK3.out (fun f => f)
  have HR3 := hide hR
  obtain ⟨p0, p1, p2, p3, p4, p5, pf⟩ := cells6e hR
  clear hK3 u0 u1 c0 c1 t0 t1 hR
  by_cases h1 : m = 0
  rotate_left
  · obtain ⟨q, hKg⟩ := put6e HR3.out (.int .i64 0) (.int .i64 0) (.int .i64 0) (.int .i64 0) (.int .i64 0) (.string ⟨#[]⟩)
    obtain ⟨q0, q1, q2, q3, q4, q5, _⟩ := cells6e q
    have hqb : (m != 0) = true := by simp [h1]
    have hlt := HLT.out
    have HF := hide (show unA w _ (.returned (.tuple #[evV ev0, .int .i64 m])) x from ⟨(tra HKW.out HK3.out).trans hKg (fun i hi e => by omega), by rw [HU.out, if_pos h1]; rw [H4.out h1]⟩)
    clear h1 hKg q hlt
    go_wp2_with fail
    exact bodyPost_ret (v := .tuple #[evV ev0, .int .i64 m]) (by simp [results, Try.results20, go_sem, q0, q1, q2, q3, q4, q5]) rfl HF.out
  obtain ⟨q, hKg⟩ := put6e HR3.out (.int .i64 1) (.int .i64 t.ty) (.int .i64 t.id) (.int .i64 0) (.int .i64 0) (.string ⟨#[]⟩)
  obtain ⟨q0, q1, q2, q3, q4, q5, _⟩ := cells6e q
  have hlt := HLT.out
  have HF := hide (show unA w _ (.returned (.tuple #[evV ⟨1, t.ty, t.id, 0, 0, []⟩, .int .i64 0])) x from ⟨(tra HKW.out HK3.out).trans hKg (fun i hi e => by omega), by rw [HU.out, if_neg (not_not_intro h1)]⟩)
  subst h1
  clear hKg q hlt
  obtain ⟨c0, c1, t0, t1⟩ := HALL.out w3 HK3.out
  obtain ⟨n1, n2, n3, n4⟩ := HNE.out
  go_upto_region 4 with fail
  go_region_held3 (fun w' => w'.cell? ⟨gs, 1, none⟩ = some (.slice (some ⟨b, off, none⟩) l.length ch) ∧ w'.cell? ⟨b, off + i * 3, none⟩ = some (.int .i64 t.ty) ∧ w'.cell? ⟨b, off + i * 3 + 1, none⟩ = some (.int .i64 t.id)) (go_keep) (fail)
  go_wp2_with fail
  exact bodyPost_ret (v := .tuple #[evV ⟨1, t.ty, t.id, 0, 0, []⟩, .int .i64 0]) (by simp [results, Try.results20, go_sem, q0, q1, q2, q3, q4, q5]) rfl ⟨by exact HF.out.1.drew, HF.out.2⟩

end Go.Proofs.Ytidodjbmlbjchaa
