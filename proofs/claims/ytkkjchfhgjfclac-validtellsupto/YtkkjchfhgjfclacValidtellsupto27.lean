/- The reference's checkSelects. -/
import Derived.Test.YtkkjchfhgjfclacValidtellsupto24
namespace Go.Proofs.Ytkkjchfhgjfclac
open Go.RowKit

set_option maxRecDepth 20000 in
set_option maxHeartbeats 12800000 in
theorem rcheck_step (m : Nat) (IH : ∀ m', m' < m → ∀ (f : Sels), f.size' = m' → ∀ (w : World) (v : Value), SelSl w v f →
      Calls Try.prog 57 #[v] w fun e w' => e = .returned (.int .i64 (wrongQ [] f)) ∧ Same w w')
    (f : Sels) (hm : f.size' = m) (w : World) (v : Value) (h : SelSl w v f) :
    Calls Try.prog 57 #[v] w fun e w' => e = .returned (.int .i64 (wrongQ [] f)) ∧ Same w w' := by
  obtain ⟨ao, cap, rfl, ⟨hmax, _⟩, _⟩ := id h
  have hmax' : f.len ≤ 9223372036854775807 := hmax
  have HA := hide h
  have HIH := hide IH
  have HM := hide hm
  clear hmax h IH hm
  go_enter Try.func57, Try.ntmps57
  go_wp2_with fail
  go_loopg [3] f.len (fun g i wr => ∃ (j : Nat) (p x : Sels), x.len ≤ g ∧ g ≤ x.len ∧ j + x.len ≤ f.len ∧ f.len ≤ j + x.len ∧ i = .int .i64 j ∧ Hid (p.len = j) ∧ Hid (f = appS p x) ∧ Hid (Same w wr) ∧ Hid (wrongQ [] f = wrongQ (callsQ p) x))
  case atStart => exact ⟨0, .nil, f, Nat.le_refl _, Nat.le_refl _, by omega, by omega, rfl, rfl, rfl, Kept.refl _ _, rfl⟩
  case round =>
    obtain ⟨j, p, x, hg1, hg2, hj1, hj2, rfl, HPL, HFP, HKr, HWQ⟩ := hrel
    cases x with
    | nil =>
      simp only [Sels.len] at hg1 hg2 hj1 hj2
      go_wp2_with fail
      go_ret
      exact ⟨ret_int (by rw [HWQ.out]; rfl), HKr.out⟩
    | cons al nm args k r =>
      simp only [Sels.len] at hg1 hg2 hj1 hj2
      have hlt : j < f.len := by omega
      obtain ⟨b1, o1, aa1, ca1, ak1, ck1, rfl, p0, p1, p2, p3, ha1, hk1, hal⟩ := selSl_nth HA.out HFP.out j HPL.out
      have p0 := HKr.out.cell p0 (fun f => f)
      have p1 := HKr.out.cell p1 (fun f => f)
      have p2 := HKr.out.cell p2 (fun f => f)
      have p3 := HKr.out.cell p3 (fun f => f)
      have HKM := hide (show k.size' < m by
        have h1 := congrArg Sels.size' HFP.out
        rw [appS_size, Sels.size', HM.out] at h1
        omega)
      have HAR := hide (show ∀ wx, Same w wx → ArgSl wx (.slice aa1 args.length ca1) args from fun wx hk => ha1.same hk)
      have HKI := hide (show ∀ wx, Same w wx → Calls Try.prog 57 #[.slice ak1 k.len ck1] wx fun e w' => e = .returned (.int .i64 (wrongQ [] k)) ∧ Same wx w' from fun wx hk => HIH.out k.size' HKM.out k rfl wx _ (hk1.same hk))
      clear ha1 hk1
      obtain ⟨w0, hw0⟩ : ∃ w0, w0 = wr.alloc (.cells #[.string ⟨al.toArray⟩, .string ⟨nm.toArray⟩, .slice aa1 args.length ca1, .slice ak1 k.len ck1] 62) := ⟨_, rfl⟩
      have HK0 := hide (show Same w w0 by rw [hw0]; exact HKr.out.alloc _)
      obtain ⟨g, hgg⟩ : ∃ g, g = wr.heap.size := ⟨_, rfl⟩
      have HBX := hide (show ∀ wx, Same w0 wx → wx.cell? ⟨g, 0, none⟩ = some (.string ⟨al.toArray⟩) ∧ wx.cell? ⟨g, 1, none⟩ = some (.string ⟨nm.toArray⟩) ∧ wx.cell? ⟨g, 2, none⟩ = some (.slice aa1 args.length ca1) ∧ wx.cell? ⟨g, 3, none⟩ = some (.slice ak1 k.len ck1) from fun wx hk => by
        rw [hgg]
        exact ⟨hk.cell (by rw [hw0]; simp) (fun f => f), hk.cell (by rw [hw0]; simp) (fun f => f), hk.cell (by rw [hw0]; simp) (fun f => f), hk.cell (by rw [hw0]; simp) (fun f => f)⟩)
      have hg0 : g < w0.heap.size := by rw [hgg, hw0]; simp
      have HGG := hide hgg
      clear hgg
      obtain ⟨mn, hmn⟩ : ∃ mn, wrongT (nameT nm) = mn := ⟨_, rfl⟩
      have HN := hide (fun w => rname_is nm w mn hmn)
      have HMN := hide hmn
      clear hmn
      go_wp2_with fail
      rw [← hw0, ← HGG.out]
      clear hw0 p0 p1 p2 p3
      refine (HN.out _).mono ?_
      rintro e w1 ⟨rfl, hw1⟩
      rw [hw1]
      clear hw1
      -- the alias
      obtain ⟨c0, c1, c2, c3⟩ := HBX.out w0 (Kept.refl _ _)
      go_upto_region 6 with fail
      go_cut [29] from 10 to 131 (fun v wx => v = .bool ((mn == 0) && !al.isEmpty) ∧ wx = w0)
      case first =>
        by_cases h0 : mn = 0
        · subst h0
          go_wp2_with fail
          go_meet
          case rel => exact ⟨by simp, rfl⟩
        · have h0b : (mn == 0) = false := by simp [h0]
          clear h0
          go_wp2_with fail
          go_meet
          case rel => exact ⟨by rw [h0b]; rfl, rfl⟩
      case rest =>
      obtain ⟨rfl, hwc⟩ := hcut
      rw [hwc]
      clear hwc
      obtain ⟨qa, hqa⟩ : ∃ qa, ((mn == 0) && !al.isEmpty) = qa := ⟨_, rfl⟩
      rw [hqa]
      have HQA := hide hqa
      clear hqa
      go_upto_if 29 with fail
      go_cut [5] from 10 to 131 (fun v wx => ∃ E : Int, v = .int .i64 E ∧ Hid (E = s1Q al nm) ∧ wx = w0)
      case first =>
        cases qa
        · have HE := hide (show mn = s1Q al nm by
            have h1 := HQA.out
            unfold s1Q
            rw [HMN.out]
            by_cases h0 : mn = 0
            · rw [if_neg (not_not_intro h0), h0]
              rw [h0] at h1
              have h2 : al = [] := by simpa using h1
              rw [if_neg (not_not_intro h2)]
            · rw [if_pos h0])
          go_wp2_with fail
          go_meet
          case rel => exact ⟨_, rfl, HE.out, rfl⟩
        · have h1 := HQA.out
          simp only [Bool.and_eq_true, beq_iff_eq] at h1
          obtain ⟨ma, hma⟩ : ∃ ma, wrongT (nameT al) = ma := ⟨_, rfl⟩
          have HE := hide (show ma = s1Q al nm by
            unfold s1Q
            rw [HMN.out, if_neg (not_not_intro h1.1), if_pos (by intro e; rw [e] at h1; exact absurd h1.2 (by decide)), hma])
          have HNA := hide (fun w => rname_is al w ma hma)
          clear h1 hma
          go_wp2_with fail
          refine (HNA.out _).mono ?_
          rintro e w2 ⟨rfl, hw2⟩
          rw [hw2]
          clear hw2
          go_wp2_with fail
          go_meet
          case rel => exact ⟨_, rfl, HE.out, rfl⟩
      case rest =>
      obtain ⟨E1, rfl, HE1, hwc⟩ := hcut
      rw [hwc]
      clear hwc
      go_upto_region 8 with fail
      go_cut [40] from 10 to 131 (fun v wx => v = .bool ((E1 == 0) && decide (5 < args.length)) ∧ wx = w0)
      case first =>
        by_cases h0 : E1 = 0
        · subst h0
          go_wp2_with fail
          go_meet
          case rel => exact ⟨by simp; omega, rfl⟩
        · have h0b : (E1 == 0) = false := by simp [h0]
          clear h0
          go_wp2_with fail
          go_meet
          case rel => exact ⟨by rw [h0b]; rfl, rfl⟩
      case rest =>
      obtain ⟨rfl, hwc⟩ := hcut
      rw [hwc]
      clear hwc
      obtain ⟨qb, hqb⟩ : ∃ qb, ((E1 == 0) && decide (5 < args.length)) = qb := ⟨_, rfl⟩
      rw [hqb]
      have HQB := hide hqb
      clear hqb
      go_upto_if 40 with fail
      go_cut [5] from 10 to 131 (fun v wx => ∃ E : Int, v = .int .i64 E ∧ Hid (E = s2Q al nm args) ∧ wx = w0)
      case first =>
        cases qb
        · have HE := hide (show E1 = s2Q al nm args by
            have h1 := HQB.out
            unfold s2Q
            rw [← HE1.out]
            by_cases h0 : E1 = 0
            · rw [if_neg (not_not_intro h0), h0]
              rw [h0] at h1
              rw [if_neg (by simpa using h1)]
            · rw [if_pos h0])
          go_wp2_with fail
          go_meet
          case rel => exact ⟨_, rfl, HE.out, rfl⟩
        · have h1 := HQB.out
          simp only [Bool.and_eq_true, beq_iff_eq, decide_eq_true_eq] at h1
          have HE := hide (show 2 = s2Q al nm args by
            unfold s2Q
            rw [← HE1.out, if_neg (not_not_intro h1.1), if_pos h1.2])
          clear h1
          go_wp2_with fail
          go_meet
          case rel => exact ⟨_, rfl, HE.out, rfl⟩
      case rest =>
      obtain ⟨E2, rfl, HE2, hwc⟩ := hcut
      rw [hwc]
      clear hwc c0 c1 c2 c3
      obtain ⟨R, hR⟩ : ∃ R, R = wrongS al nm args := ⟨_, rfl⟩
      have HIN := hide (show agRel R args 0 E2 by rw [hR, HE2.out]; exact agRel.start al nm args)
      have HRR := hide hR
      clear hR
      obtain ⟨G, hG1, hG2⟩ : ∃ G, G ≤ gk ∧ gk ≤ G := ⟨gk, Nat.le_refl _, Nat.le_refl _⟩
      go_upto_block 2 with fail
      go_cut [5] from 10 to 131 (fun v wx => v = .int .i64 R ∧ Hid (Same w0 wx))
      case first =>
        go_wp2_with fail
        go_loopg [5, 6] args.length (fun gg ev kv wx => ∃ (t : Nat) (E : Int), t + gg = args.length ∧ ev = .int .i64 E ∧ kv = .int .i64 t ∧ Hid (agRel R args t E) ∧ Hid (Same w0 wx))
        case atStart => exact ⟨0, E2, by omega, rfl, rfl, HIN, Kept.refl _ _⟩
        case round =>
          obtain ⟨t, E, ht, rfl, rfl, HAR2, HKx⟩ := hrel
          obtain ⟨c0, c1, c2, c3⟩ := HBX.out wr HKx.out
          have hgx : g < wr.heap.size := by have := HKx.out.size; omega
          by_cases hE : E = 0
          · subst hE
            by_cases hlt2 : t < args.length
            · obtain ⟨b2, o2, hb2, r0, r1, r2, r3⟩ := (HAR.out wr (tra HK0.out HKx.out)).at t hlt2
              cases hb2
              have HAS := hide (HAR2.out.step hlt2)
              obtain ⟨a, hae⟩ : ∃ a, a = args[t] := ⟨_, rfl⟩
              rw [← hae] at HAS r0 r1 r2 r3
              clear hae HAR2
              obtain ⟨wy, hwy⟩ : ∃ wy, wy = wr.alloc (.cells #[.string ⟨a.name.toArray⟩, .bool a.isText, .string ⟨a.text.toArray⟩, .int .i64 a.n] 101) := ⟨_, rfl⟩
              have HKxy := hide (show Same w0 wy by rw [hwy]; exact HKx.out.alloc _)
              obtain ⟨g2, hgg2⟩ : ∃ g2, g2 = wr.heap.size := ⟨_, rfl⟩
              have HBY := hide (show ∀ wx, Same wy wx → wx.cell? ⟨g2, 0, none⟩ = some (.string ⟨a.name.toArray⟩) ∧ wx.cell? ⟨g2, 1, none⟩ = some (.bool a.isText) ∧ wx.cell? ⟨g2, 2, none⟩ = some (.string ⟨a.text.toArray⟩) ∧ wx.cell? ⟨g2, 3, none⟩ = some (.int .i64 a.n) from fun wx hk => by
                rw [hgg2]
                exact ⟨hk.cell (by rw [hwy]; simp) (fun f => f), hk.cell (by rw [hwy]; simp) (fun f => f), hk.cell (by rw [hwy]; simp) (fun f => f), hk.cell (by rw [hwy]; simp) (fun f => f)⟩)
              have hg2 : g2 < wy.heap.size := by rw [hgg2, hwy]; simp
              have hgy : g < wy.heap.size := by have := HKxy.out.size; omega
              have HGG2 := hide hgg2
              clear hgg2
              obtain ⟨m2, hm2⟩ : ∃ m2, wrongT (nameT a.name) = m2 := ⟨_, rfl⟩
              have HNM2 := hide (fun w => rname_is a.name w m2 hm2)
              have HM2 := hide hm2
              clear hm2
              obtain ⟨G2, hG3, hG4⟩ : ∃ G2, G2 ≤ gk ∧ gk ≤ G2 := ⟨gk, Nat.le_refl _, Nat.le_refl _⟩
              go_wp2_with fail
              rw [← hwy, ← HGG2.out]
              clear hwy r0 r1 r2 r3 c0 c1 c2 c3 HGG2 hgx
              refine (HNM2.out _).mono ?_
              rintro e w2 ⟨rfl, hw2⟩
              rw [hw2]
              clear hw2
              go_wp2_with fail
              go_loopg [5, 8] t (fun gg ev hv wx => ∃ (h : Nat) (E : Int), h + gg = t ∧ ev = .int .i64 E ∧ hv = .int .i64 h ∧ Hid (bRel args a.name m2 t h E) ∧ Hid (Same wy wx))
              case atStart => exact ⟨0, m2, by omega, rfl, rfl, bRel.start args a.name m2 t, Kept.refl _ _⟩
              case round =>
                obtain ⟨h, E, hh, rfl, rfl, HBR, HKy⟩ := hrel
                obtain ⟨c0, c1, c2, c3⟩ := HBX.out wr (tra HKxy.out HKy.out)
                obtain ⟨z0, z1, z2, z3⟩ := HBY.out wr HKy.out
                have hgw : g < wr.heap.size := by have := HKy.out.size; omega
                have hg2w : g2 < wr.heap.size := by have := HKy.out.size; omega
                by_cases hE : E = 0
                · subst hE
                  by_cases hht : h < t
                  · have hhl : h < args.length := by omega
                    obtain ⟨b3, o3, hb3, q0, q1, q2, q3⟩ := (HAR.out wr (tra (tra HK0.out HKxy.out) HKy.out)).at h hhl
                    cases hb3
                    have HGE := hide (show args[h]? = some args[h] from List.getElem?_eq_getElem hhl)
                    obtain ⟨a3, ha3⟩ : ∃ a3, a3 = args[h] := ⟨_, rfl⟩
                    rw [← ha3] at HGE q0 q1 q2 q3
                    clear ha3
                    by_cases hnm : a3.name = a.name
                    · have HN2 := hide (HBR.out.hit hht HGE.out hnm)
                      rw [hnm] at q0
                      clear hnm q1 q2 q3
                      go_wp2_with fail
                      go_region
                      go_wp2_with fail
                      go_roundg (gk - 1)
                      case measure => omega
                      case rel => exact ⟨h + 1, 6, by omega, rfl, by go_num, HN2.out, HKy.out.drewN _⟩
                    · have HN2 := hide (HBR.out.miss HGE.out hnm)
                      have hnb : (a3.name == a.name) = false := by simp [hnm]
                      clear hnm q1 q2 q3
                      go_wp2_with fail
                      go_region
                      go_wp2_with fail
                      go_roundg (gk - 1)
                      case measure => omega
                      case rel => exact ⟨h + 1, 0, by omega, rfl, by go_num, HN2.out, HKy.out.drewN _⟩
                  · have HBD := hide (show argE args t a = wrongT (valueT a) from (show bRel args a.name (wrongT (nameT a.name)) t h 0 by rw [HM2.out]; exact HBR.out).done (by omega))
                    cases htx : a.isText
                    · have HV := hide (show argE args t a = if a.text ≠ [] then 1 else if (decide (-999999999 ≤ a.n) && decide (a.n ≤ 999999999)) = false then 3 else 0 from HBD.out.trans (val_num htx))
                      rw [htx] at z1
                      cases hte : a.text.isEmpty
                      · have HF := hide (show 1 = argE args t a by rw [HV.out, if_pos (by intro e; rw [e] at hte; cases hte)])
                        go_wp2_with fail
                        go_roundg (G2 - 1)
                        case measure => omega
                        case rel => exact ⟨t + 1, 1, by omega, rfl, by go_num, by rw [Hid, HF.out]; exact HAS.out, tra HKxy.out HKy.out⟩
                      · have htn : a.text = [] := List.isEmpty_iff.1 hte
                        have HV2 := hide (show argE args t a = if (decide (-999999999 ≤ a.n) && decide (a.n ≤ 999999999)) = false then 3 else 0 by rw [HV.out, if_neg (not_not_intro htn)])
                        rw [htn] at z2
                        clear htn hte
                        obtain ⟨qi, hqi⟩ : ∃ qi, (decide (-999999999 ≤ a.n) && decide (a.n ≤ 999999999)) = qi := ⟨_, rfl⟩
                        have HII := hide (isInt_any a.n)
                        rw [hqi] at HII HV2
                        clear hqi
                        cases qi
                        · have HF := hide (show 3 = argE args t a by rw [HV2.out]; rfl)
                          go_wp2_with fail
                          refine (HII.out _).mono ?_
                          rintro e w3 ⟨rfl, hw3⟩
                          rw [hw3]
                          clear hw3
                          go_wp2_with fail
                          go_roundg (G2 - 1)
                          case measure => omega
                          case rel => exact ⟨t + 1, 3, by omega, rfl, by go_num, by rw [Hid, HF.out]; exact HAS.out, tra HKxy.out HKy.out⟩
                        · have HF := hide (show 0 = argE args t a by rw [HV2.out]; rfl)
                          go_wp2_with fail
                          refine (HII.out _).mono ?_
                          rintro e w3 ⟨rfl, hw3⟩
                          rw [hw3]
                          clear hw3
                          go_wp2_with fail
                          go_roundg (G2 - 1)
                          case measure => omega
                          case rel => exact ⟨t + 1, 0, by omega, rfl, by go_num, by rw [Hid, HF.out]; exact HAS.out, tra HKxy.out HKy.out⟩
                    · have HV := hide (show argE args t a = if a.n ≠ 0 then 1 else if 40 < a.text.length then 2 else 0 from HBD.out.trans (val_txt htx))
                      rw [htx] at z1
                      by_cases hn0 : a.n = 0
                      · rw [hn0] at z3
                        by_cases h40 : 40 < a.text.length
                        · have HF := hide (show 2 = argE args t a by rw [HV.out, if_neg (not_not_intro hn0), if_pos h40])
                          go_wp2_with fail
                          go_roundg (G2 - 1)
                          case measure => omega
                          case rel => exact ⟨t + 1, 2, by omega, rfl, by go_num, by rw [Hid, HF.out]; exact HAS.out, tra HKxy.out HKy.out⟩
                        · have HF := hide (show 0 = argE args t a by rw [HV.out, if_neg (not_not_intro hn0), if_neg h40])
                          have HII := hide (isInt_any 0)
                          go_wp2_with fail
                          refine (HII.out _).mono ?_
                          rintro e w3 ⟨rfl, hw3⟩
                          rw [hw3]
                          clear hw3
                          go_wp2_with fail
                          go_roundg (G2 - 1)
                          case measure => omega
                          case rel => exact ⟨t + 1, 0, by omega, rfl, by go_num, by rw [Hid, HF.out]; exact HAS.out, tra HKxy.out HKy.out⟩
                      · have HF := hide (show 1 = argE args t a by rw [HV.out, if_pos hn0])
                        have hnb : (a.n != 0) = true := by simp [hn0]
                        clear hn0
                        go_wp2_with fail
                        go_roundg (G2 - 1)
                        case measure => omega
                        case rel => exact ⟨t + 1, 1, by omega, rfl, by go_num, by rw [Hid, HF.out]; exact HAS.out, tra HKxy.out HKy.out⟩
                · have HF := hide (show E = argE args t a from (show bRel args a.name (wrongT (nameT a.name)) t h E by rw [HM2.out]; exact HBR.out).bad hE)
                  have hEb : (E == 0) = false := by simp [hE]
                  have hEb2 : (E != 0) = true := by simp [hE]
                  clear hE
                  by_cases hht : h < t
                  · go_wp2_with fail
                    go_roundg (G2 - 1)
                    case measure => omega
                    case rel => exact ⟨t + 1, E, by omega, rfl, by go_num, by rw [Hid, HF.out]; exact HAS.out, tra HKxy.out HKy.out⟩
                  · go_wp2_with fail
                    go_roundg (G2 - 1)
                    case measure => omega
                    case rel => exact ⟨t + 1, E, by omega, rfl, by go_num, by rw [Hid, HF.out]; exact HAS.out, tra HKxy.out HKy.out⟩
            · have HD := hide (HAR2.out.done (by omega))
              go_wp2_with fail
              go_meet
              case rel => exact ⟨by rw [HD.out], HKx.out⟩
          · have HD := hide (HAR2.out.bad hE)
            have hEb : (E == 0) = false := by simp [hE]
            clear hE
            by_cases hlt2 : t < args.length
            · go_wp2_with fail
              go_meet
              case rel => exact ⟨by rw [HD.out], HKx.out⟩
            · go_wp2_with fail
              go_meet
              case rel => exact ⟨by rw [HD.out], HKx.out⟩
      case rest =>
      obtain ⟨rfl, HKc⟩ := hcut
      obtain ⟨wi, hwi⟩ : ∃ wi, wi = wc := ⟨_, rfl⟩
      subst hwi
      have HQS := hide (wrongQ_sel (callsQ p) al nm args k r)
      rw [← HRR.out] at HQS
      clear HIN HRR HE2
      go_upto_block 7 with fail
      go_cut [5] from 107 to 131 (fun v wx => v = .int .i64 (selE R (callsQ p) (calledQ al nm)) ∧ Hid (Same wi wx))
      case first =>
        go_wp2_with fail
        go_loopg [5, 9] j (fun gg ev hv wx => ∃ (h : Nat) (E : Int) (p' y' : Sels), h + gg = j ∧ ev = .int .i64 E ∧ hv = .int .i64 h ∧ Hid (p'.len = h) ∧ Hid (p = appS p' y') ∧ Hid (cRel R (callsQ p') (callsQ p) (calledQ al nm) E) ∧ Hid (Same wi wx))
        case atStart => exact ⟨0, R, .nil, p, by omega, rfl, rfl, rfl, rfl, cRel.start R (callsQ p) (calledQ al nm), Kept.refl _ _⟩
        case round =>
          obtain ⟨h, E, p', y', hh, rfl, rfl, HPL2, HPP, HCR, HKy⟩ := hrel
          obtain ⟨wy, hwy⟩ : ∃ wy, wy = wr := ⟨_, rfl⟩
          subst hwy
          by_cases hE : E = 0
          · subst hE
            by_cases hhj : h < j
            · cases y' with
              | nil =>
                exfalso
                have h1 := congrArg Sels.len HPP.out
                rw [appS_len, HPL2.out, HPL.out] at h1
                simp [Sels.len] at h1
                omega
              | cons al2 nm2 args2 k2 r2 =>
                have HFD := hide (show f = appS p' (.cons al2 nm2 args2 k2 (appS r2 (.cons al nm args k r))) by rw [HFP.out, HPP.out, appS_assoc]; rfl)
                obtain ⟨b3, o3, aa3, ca3, ak3, ck3, e3, q0, q1, q2, q3, _, _, _⟩ := selSl_nth HA.out HFD.out h HPL2.out
                cases e3
                have hhf : h < f.len := by omega
                have HKwy := hide (tra (tra HK0.out HKc.out) HKy.out)
                have HFX := hide (show ∀ wx, Same wy wx → (wx.cell? ⟨b1, o1 + h * 4, none⟩ = some (.string ⟨al2.toArray⟩) ∧ wx.cell? ⟨b1, o1 + h * 4 + 1, none⟩ = some (.string ⟨nm2.toArray⟩) ∧ wx.cell? ⟨b1, o1 + h * 4 + 2, none⟩ = some (.slice aa3 args2.length ca3) ∧ wx.cell? ⟨b1, o1 + h * 4 + 3, none⟩ = some (.slice ak3 k2.len ck3)) ∧ (wx.cell? ⟨g, 0, none⟩ = some (.string ⟨al.toArray⟩) ∧ wx.cell? ⟨g, 1, none⟩ = some (.string ⟨nm.toArray⟩) ∧ wx.cell? ⟨g, 2, none⟩ = some (.slice aa1 args.length ca1) ∧ wx.cell? ⟨g, 3, none⟩ = some (.slice ak1 k.len ck1)) from fun wx hk =>
                  ⟨⟨(tra HKwy.out hk).cell q0 (fun f => f), (tra HKwy.out hk).cell q1 (fun f => f), (tra HKwy.out hk).cell q2 (fun f => f), (tra HKwy.out hk).cell q3 (fun f => f)⟩, HBX.out wx (tra (tra HKc.out HKy.out) hk)⟩)
                clear q0 q1 q2 q3
                have hgw : g < wy.heap.size := by have h1 := HKc.out.size; have h2 := HKy.out.size; omega
                obtain ⟨q, hq⟩ : ∃ q, decide (calledQ al2 nm2 = calledQ al nm) = q := ⟨_, rfl⟩
                have HQ := hide hq
                clear hq
                go_upto_region 31 with fail
                go_cut [123] from 107 to 123 (fun v wx => v = .bool q ∧ Hid (Same wy wx))
                case first =>
                  have hKc : Same wy wy.drew := (Kept.refl _ _).drew
                  obtain ⟨⟨x0, x1, x2, x3⟩, z0, z1, z2, z3⟩ := HFX.out wy (Kept.refl _ _)
                  have x0d : ∀ n, (wy.drewN n).cell? ⟨b1, o1 + h * 4, none⟩ = some (.string ⟨al2.toArray⟩) := fun n => x0
                  have x1d : ∀ n, (wy.drewN n).cell? ⟨b1, o1 + h * 4 + 1, none⟩ = some (.string ⟨nm2.toArray⟩) := fun n => x1
                  have x2d : ∀ n, (wy.drewN n).cell? ⟨b1, o1 + h * 4 + 2, none⟩ = some (.slice aa3 args2.length ca3) := fun n => x2
                  have x3d : ∀ n, (wy.drewN n).cell? ⟨b1, o1 + h * 4 + 3, none⟩ = some (.slice ak3 k2.len ck3) := fun n => x3
                  have z0d : ∀ n, (wy.drewN n).cell? ⟨g, 0, none⟩ = some (.string ⟨al.toArray⟩) := fun n => z0
                  have z1d : ∀ n, (wy.drewN n).cell? ⟨g, 1, none⟩ = some (.string ⟨nm.toArray⟩) := fun n => z1
                  have z2d : ∀ n, (wy.drewN n).cell? ⟨g, 2, none⟩ = some (.slice aa1 args.length ca1) := fun n => z2
                  have z3d : ∀ n, (wy.drewN n).cell? ⟨g, 3, none⟩ = some (.slice ak1 k.len ck1) := fun n => z3
                  go_region_with ((go_at_call 28; refine (calledOf_is _ _ _ _ _ _ _ _ _).mono ?_; rintro e wn ⟨rfl, hKn⟩; have hKc := tra (by exact hKc) hKn; obtain ⟨⟨x0, x1, x2, x3⟩, z0, z1, z2, z3⟩ := HFX.out _ hKc; clear hKn))
                  all_goals
                    go_wp2_with fail
                    go_meet
                    case rel => exact ⟨by rw [← HQ.out]; congr 1; rw [Bool.eq_iff_iff]; simp, by assumption⟩
                case rest =>
                obtain ⟨rfl, HKz⟩ := hcut
                have HCP := hide (show callsQ (appS p' (.cons al2 nm2 args2 k2 .nil)) = callsQ p' ++ [calledQ al2 nm2] by rw [appS_calls]; rfl)
                cases q
                · have HN2 := hide (HCR.out.miss (y := calledQ al2 nm2) (of_decide_eq_false HQ.out))
                  go_wp2_with fail
                  go_roundg (gk - 1)
                  case measure => omega
                  case rel => exact ⟨h + 1, 0, appS p' (.cons al2 nm2 args2 k2 .nil), r2, by omega, rfl, by go_num, by rw [Hid, appS_len, HPL2.out]; rfl, by rw [Hid, appS_snoc]; exact HPP.out, by rw [Hid, HCP.out]; exact HN2.out, tra HKy.out HKz.out⟩
                · have HN2 := hide (show cRel R (callsQ p' ++ [calledQ al2 nm2]) (callsQ p) (calledQ al nm) 6 by
                    rw [of_decide_eq_true HQ.out]
                    exact HCR.out.hit (by rw [HPP.out, appS_calls, callsQ, of_decide_eq_true HQ.out]; simp))
                  go_wp2_with fail
                  go_roundg (gk - 1)
                  case measure => omega
                  case rel => exact ⟨h + 1, 6, appS p' (.cons al2 nm2 args2 k2 .nil), r2, by omega, rfl, by go_num, by rw [Hid, appS_len, HPL2.out]; rfl, by rw [Hid, appS_snoc]; exact HPP.out, by rw [Hid, HCP.out]; exact HN2.out, tra HKy.out HKz.out⟩
            · have HD := hide (show 0 = selE R (callsQ p) (calledQ al nm) by
                have h1 := congrArg Sels.len HPP.out
                rw [appS_len, HPL2.out, HPL.out] at h1
                have h2 : y' = .nil := by
                  cases y' with
                  | nil => rfl
                  | cons a b c d e => simp [Sels.len] at h1; omega
                have h3 := HPP.out
                rw [h2, appS_nil] at h3
                have h4 := HCR.out
                rw [← h3] at h4
                exact h4.done)
              go_wp2_with fail
              go_meet
              case rel => exact ⟨by rw [← HD.out], HKy.out⟩
          · have HD := hide (HCR.out.bad hE)
            have hEb : (E == 0) = false := by simp [hE]
            clear hE
            by_cases hhj : h < j
            · go_wp2_with fail
              go_meet
              case rel => exact ⟨by rw [HD.out], HKy.out⟩
            · go_wp2_with fail
              go_meet
              case rel => exact ⟨by rw [HD.out], HKy.out⟩
      case rest =>
      obtain ⟨rfl, HKd⟩ := hcut
      have HKe := hide (tra (tra HK0.out HKc.out) HKd.out)
      obtain ⟨c0, c1, c2, c3⟩ := HBX.out wc (tra HKc.out HKd.out)
      have hgc : g < wc.heap.size := by have h1 := HKc.out.size; have h2 := HKd.out.size; omega
      obtain ⟨S, hS⟩ : ∃ S, selE R (callsQ p) (calledQ al nm) = S := ⟨_, rfl⟩
      obtain ⟨K, hK⟩ : ∃ K, wrongQ [] k = K := ⟨_, rfl⟩
      rw [hS] at HQS
      rw [hK] at HQS HKI
      rw [hS]
      clear hS hK
      have HNX := hide (show callsQ (appS p (.cons al nm args k .nil)) = callsQ p ++ [calledQ al nm] by rw [appS_calls]; rfl)
      by_cases hS0 : S = 0
      · subst hS0
        go_wp2_with fail
        refine (HKI.out _ HKe.out).mono ?_
        rintro e w5 ⟨rfl, hK5⟩
        by_cases hK0 : K = 0
        · subst hK0
          have HD := hide (show wrongQ [] f = wrongQ (callsQ p ++ [calledQ al nm]) r by rw [HWQ.out, HQS.out]; rfl)
          go_wp2_with fail
          go_roundg (G - 1)
          case measure => omega
          case rel => exact ⟨j + 1, appS p (.cons al nm args k .nil), r, by omega, by omega, by omega, by omega, by go_num, by rw [Hid, appS_len, HPL.out]; rfl, by rw [Hid, appS_snoc]; exact HFP.out, tra HKe.out hK5, by rw [Hid, HNX.out]; exact HD.out⟩
        · have HD := hide (show wrongQ [] f = K by rw [HWQ.out, HQS.out, if_neg (by simp), if_pos hK0])
          have hKb : (K != 0) = true := by simp [hK0]
          clear hK0
          go_wp2_with fail
          go_ret
          exact ⟨ret_int HD.out.symm, tra HKe.out hK5⟩
      · have HD := hide (show wrongQ [] f = S by rw [HWQ.out, HQS.out, if_pos hS0])
        have hSb : (S == 0) = false := by simp [hS0]
        have hSb2 : (S != 0) = true := by simp [hS0]
        clear hS0
        go_wp2_with fail
        go_ret
        exact ⟨ret_int HD.out.symm, HKe.out⟩

theorem rcheck_any (f : Sels) (w : World) (v : Value) (h : SelSl w v f) :
    Calls Try.prog 57 #[v] w fun e w' => e = .returned (.int .i64 (wrongQ [] f)) ∧ Same w w' := by
  have key : ∀ (m : Nat) (f : Sels), f.size' = m → ∀ (w : World) (v : Value), SelSl w v f →
      Calls Try.prog 57 #[v] w fun e w' => e = .returned (.int .i64 (wrongQ [] f)) ∧ Same w w' := by
    intro m
    induction m using Nat.strongRecOn with
    | ind m ih => exact fun f hm w v h => rcheck_step m ih f hm w v h
  exact key f.size' f rfl w v h

end Go.Proofs.Ytkkjchfhgjfclac
