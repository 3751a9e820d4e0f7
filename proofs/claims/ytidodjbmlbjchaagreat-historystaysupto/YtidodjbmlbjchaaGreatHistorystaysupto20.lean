import Derived.Test.YtidodjbmlbjchaaGreatHistorystaysupto19
/- state's eachCell, by whatever it asks. -/
namespace Go.Proofs.YtidodjbmlbjchaaGreat
open Go.RowKit

/-- asked, as a function value: in every world that keeps w it answers ask, and keeps all -/
def AsksAt (w : World) (g : Nat) (cap : Array Value) (ask : FieldT → CellT → Int) : Prop :=
  ∀ (wx : World) (f : FieldT) (c : CellT) (ai : Option Addr) (ni ci : Nat), Same w wx → IdsSl anyB wx (.slice ai ni ci) c.ids →
    Calls Tryz.prog g (#[flV f, ceV c (.slice ai ni ci)] ++ cap) wx fun e w' => e = .returned (.int .i64 (ask f c)) ∧ Same wx w'

theorem eachC_drop (ask : FieldT → CellT → Int) (fs : List FieldT) (cs : List CellT) (k : Nat) (hf : k < fs.length) (hc : k < cs.length) : eachC ask (fs.drop k) (cs.drop k) = if ask fs[k] cs[k] ≠ 0 then ask fs[k] cs[k] else eachC ask (fs.drop (k + 1)) (cs.drop (k + 1)) := by
  rw [List.drop_eq_getElem_cons hf, List.drop_eq_getElem_cons hc, eachC]
theorem eachC_end (ask : FieldT → CellT → Int) (fs : List FieldT) (cs : List CellT) (k : Nat) (hc : cs.length ≤ k) : eachC ask (fs.drop k) (cs.drop k) = 0 := by
  rw [List.drop_eq_nil_of_le hc]
  cases fs.drop k <;> rfl
theorem eachT_drop (types : List TypeT) (ask : FieldT → CellT → Int) (l : List ThingT) (k : Nat) (h : k < l.length) : eachT types ask (l.drop k) = if eachC ask (fieldsOf types l[k].ty) l[k].cells ≠ 0 then eachC ask (fieldsOf types l[k].ty) l[k].cells else eachT types ask (l.drop (k + 1)) := by
  rw [List.drop_eq_getElem_cons h, eachT]

/-- the things whose cells may be gone through -/
def fitTh (types : List TypeT) (t : ThingT) : Prop := (0 ≤ t.ty ∧ t.ty < types.length) ∧ t.cells.length = (fieldsOf types t.ty).length

set_option maxRecDepth 20000 in
set_option maxHeartbeats 6400000 in
theorem eachCell_any (w : World) (vt vh : Value) (types : List TypeT) (l : List ThingT) (g : Nat) (cap : Array Value) (ask : FieldT → CellT → Int)
    (hcf : ∀ (args : Array Value) (w : World), (callFunc g args).run Tryz.prog w = .ok (.enter g args) w)
    (ht : TypSl anyB w vt types) (hh : ThgSl anyB w vh l) (hfit : ∀ t ∈ l, fitTh types t) (ha : AsksAt w g cap ask) :
    Calls Tryz.prog 62 #[vt, vh, .func (.func g) #[] cap] w fun e w' => e = .returned (.int .i64 (eachT types ask l)) ∧ Same w w' := by
  obtain ⟨at', ct, rfl, _, _⟩ := id ht
  obtain ⟨ah, ch, rfl, _, _⟩ := id hh
  obtain ⟨_, hmax, _⟩ := hh.len
  obtain ⟨m, hm⟩ : ∃ m, eachT types ask l = m := ⟨_, rfl⟩
  have HM := hide hm
  have HT := hide ht
  have HH := hide hh
  have HA := hide ha
  have HFIT := hide hfit
  rw [hm]
  clear hm ht hh ha hfit
  go_enter Tryz.func62, Tryz.ntmps62
  go_wp2_with fail
  go_loopg [14] l.length (fun gg i wr => ∃ j : Nat, j + gg = l.length ∧ i = .int .i64 j ∧ Hid (Same w wr) ∧ Hid (eachT types ask (l.drop j) = m))
  case atStart => exact ⟨0, by omega, rfl, hide (Kept.refl _ _), hide (by simpa using HM.out)⟩
  case round =>
    obtain ⟨j, hj, rfl, HK, HE⟩ := hrel
    by_cases hlt : j < l.length
    · obtain ⟨G, hG1, hG2⟩ : ∃ G, G ≤ gk ∧ gk ≤ G := ⟨gk, Nat.le_refl _, Nat.le_refl _⟩
      obtain ⟨b, off, ac, nc, cc, rfl, _, c0, c1, c2, hnc, hcs⟩ := (HH.out.same HK.out).at j hlt
      have hd := eachT_drop types ask l j hlt
      rw [HE.out] at hd
      have hft := HFIT.out _ (List.getElem_mem hlt)
      obtain ⟨t, het⟩ : ∃ t, t = l[j] := ⟨_, rfl⟩
      rw [← het] at c0 c1 hnc hcs hd hft
      have HCS := hide hcs
      have HD := hide hd
      have HNC := hide hnc
      obtain ⟨⟨ht0, ht1⟩, hlen⟩ := hft
      obtain ⟨k, hk⟩ : ∃ k : Nat, k = t.ty.toNat := ⟨_, rfl⟩
      have htk : t.ty = (k : Int) := by omega
      have hkl : k < types.length := by omega
      obtain ⟨hz9, hmaxc, hcap9⟩ := hcs.len
      have hmaxn : nc ≤ 9223372036854775807 := by omega
      have HLEN := hide hlen
      have HFO := hide (show fieldsOf types t.ty = types[k].fields by rw [fieldsOf, ← hk, List.getElem?_eq_getElem hkl])
      rw [htk] at c0
      clear hd hcs het hnc hlen hmaxc hk htk ht0 ht1 hz9 hcap9
      obtain ⟨w1, hw1⟩ : ∃ w1, w1 = wr.alloc (.cells #[.int .i64 k, .int .i64 t.id, .slice ac nc cc] 68) := ⟨_, rfl⟩
      obtain ⟨g1, hg1⟩ : ∃ g, g = wr.heap.size := ⟨_, rfl⟩
      have HB1 := hide (show w1.heap[g1]? = some (.cells #[.int .i64 k, .int .i64 t.id, .slice ac nc cc] 68 (0, 0)) by
        rw [hw1, hg1]; exact new_kept (Kept.refl (fun _ => False) _) (fun f => f))
      have HKr1 : Hid (Same wr w1) := hide (by rw [hw1]; exact (Kept.refl _ wr).alloc _)
      go_wp2_with fail
      rw [← hw1, ← hg1]
      clear hw1 hg1 c0 c1 c2
      go_loopg [21] nc (fun gg i wr => ∃ q : Nat, q + gg = nc ∧ i = .int .i64 q ∧ Hid (Same w1 wr) ∧ Hid (eachC ask ((fieldsOf types t.ty).drop q) (t.cells.drop q) = eachC ask (fieldsOf types t.ty) t.cells))
      case atStart => exact ⟨0, by omega, rfl, hide (Kept.refl _ _), hide (by simp)⟩
      case round =>
        obtain ⟨q, hq, rfl, HK2, HE2⟩ := hrel
        by_cases hlt2 : q < nc
        · have hqc : q < t.cells.length := by have := HNC.out; omega
          have hqf : q < types[k].fields.length := by have := HLEN.out; rw [HFO.out] at this; omega
          obtain ⟨b2, off2, ai, ni, ci, rfl, _, x0, x1, x2, hz7, hids⟩ := (HCS.out.same (tra HKr1.out HK2.out)).at q hqc
          obtain ⟨bt, ot, af, nf, cf, rfl, y0, y1, hnf, hfl⟩ := (HT.out.same (tra HK.out (tra HKr1.out HK2.out))).at k hkl
          obtain ⟨bf, of', rfl, z0, z1, z2⟩ := hfl.at q hqf
          obtain ⟨d0, d1, d2⟩ := blk3 (blk_kept HB1.out HK2.out (fun f => f))
          have hd2 := eachC_drop ask (fieldsOf types t.ty) t.cells q (by rw [HFO.out]; exact hqf) hqc
          rw [HE2.out] at hd2
          obtain ⟨f, hf⟩ : ∃ f, f = types[k].fields[q] := ⟨_, rfl⟩
          obtain ⟨c, hc⟩ : ∃ c, c = t.cells[q] := ⟨_, rfl⟩
          rw [← hc] at x0 x1 hids hd2
          rw [← hf] at z0 z1 z2
          rw [show (fieldsOf types t.ty)[q]'(by rw [HFO.out]; exact hqf) = f by rw [hf]; simp only [HFO.out]] at hd2
          have HD2 := hide hd2
          have HIDS := hide hids
          have hqn : q < nf := by omega
          have HKW := hide (tra HK.out (tra HKr1.out HK2.out))
          clear hd2 hids hfl hnf hf hc hz7
          obtain ⟨w3, hw3⟩ : ∃ w3, w3 = wr.alloc (.cells #[.int .i64 c.n, .string ⟨c.text.toArray⟩, .slice ai ni ci] 65) := ⟨_, rfl⟩
          obtain ⟨g3, hg3⟩ : ∃ g, g = wr.heap.size := ⟨_, rfl⟩
          have HB3 := hide (show w3.heap[g3]? = some (.cells #[.int .i64 c.n, .string ⟨c.text.toArray⟩, .slice ai ni ci] 65 (0, 0)) by
            rw [hw3, hg3]; exact new_kept (Kept.refl (fun _ => False) _) (fun f => f))
          have hKr3 : Same wr w3 := by rw [hw3]; exact (Kept.refl _ wr).alloc _
          have d0' := hKr3.cell d0 (fun f => f)
          have y1' := hKr3.cell y1 (fun f => f)
          have z0' := hKr3.cell z0 (fun f => f)
          have z1' := hKr3.cell z1 (fun f => f)
          have z2' := hKr3.cell z2 (fun f => f)
          obtain ⟨e0, e1, e2⟩ := blk3 HB3.out
          have HAS := hide (fun wx (hx : Same w3 wx) => HA.out wx f c ai ni ci (tra (tra HKW.out hKr3) hx) (HIDS.out.same (tra hKr3 hx)))
          have HK3 := hide (tra HK2.out hKr3)
          clear hKr3 d1 d2
          go_upto_region 7 with fail
          rw [← hw3, ← hg3]
          clear hw3 hg3 x0 x1 x2 y0 y1 z0 z1 z2 d0
          go_region_held3 (fun w' => w'.cell? ⟨g1, 0, none⟩ = some (.int .i64 k) ∧ w'.cell? ⟨bt, ot + k * 2 + 1, none⟩ = some (.slice (some ⟨bf, of', none⟩) nf cf) ∧ w'.cell? ⟨bf, of' + q * 3, none⟩ = some (.string ⟨f.name.toArray⟩) ∧ w'.cell? ⟨bf, of' + q * 3 + 1, none⟩ = some (.int .i64 f.kind) ∧ w'.cell? ⟨bf, of' + q * 3 + 2, none⟩ = some (.string ⟨f.of.toArray⟩) ∧ w'.cell? ⟨g3, 0, none⟩ = some (.int .i64 c.n) ∧ w'.cell? ⟨g3, 1, none⟩ = some (.string ⟨c.text.toArray⟩) ∧ w'.cell? ⟨g3, 2, none⟩ = some (.slice ai ni ci)) (go_keep)
            ((refine (HAS.out _ (by exact (by repeat' (first | assumption | exact Kept.refl _ _ | refine Kept.drewN ?_ _ | refine Kept.drew ?_ | refine Kept.alloc ?_ _ | refine Kept.setB ?_ _ _)))).mono ?_; rintro e w9 ⟨rfl, hK9⟩; have u0 := hK9.cell (p := ⟨g1, 0, none⟩) (by exact d0') (fun f => f); have u1 := hK9.cell (p := ⟨bt, ot + k * 2 + 1, none⟩) (by exact y1') (fun f => f); have u2 := hK9.cell (p := ⟨bf, of' + q * 3, none⟩) (by exact z0') (fun f => f); have u3 := hK9.cell (p := ⟨bf, of' + q * 3 + 1, none⟩) (by exact z1') (fun f => f); have u4 := hK9.cell (p := ⟨bf, of' + q * 3 + 2, none⟩) (by exact z2') (fun f => f); have u5 := hK9.cell (p := ⟨g3, 0, none⟩) (by exact e0) (fun f => f); have u6 := hK9.cell (p := ⟨g3, 1, none⟩) (by exact e1) (fun f => f); have u7 := hK9.cell (p := ⟨g3, 2, none⟩) (by exact e2) (fun f => f)))
          all_goals
            have HK9 := hide (tra HK3.out hK9.unD)
            clear hK9 u0 u1 u2 u3 u4 u5 u6 u7
            obtain ⟨n, hn⟩ : ∃ n, ask f c = n := ⟨_, rfl⟩
            rw [hn] at HD2
            simp only [hn]
            clear hn
            by_cases hn0 : n = 0
            · subst hn0
              have HE3 := hide (show eachC ask ((fieldsOf types t.ty).drop (q + 1)) (t.cells.drop (q + 1)) = eachC ask (fieldsOf types t.ty) t.cells by
                rw [HD2.out, if_neg (by simp)])
              go_wp2_with fail
              go_roundg (gk - 1)
              case measure => omega
              case rel => exact ⟨q + 1, by omega, by go_num, HK9, HE3⟩
            · have hnb : (n != 0) = true := by simp [hn0]
              have HF := hide (show n = m by
                have h1 := HD2.out
                rw [if_pos hn0] at h1
                rw [HD.out, h1, if_pos hn0])
              clear hn0
              go_wp2_with fail
              go_ret
              exact ⟨ret_int HF.out, tra HK.out (tra HKr1.out HK9.out)⟩
        · have HE0 := hide (show eachC ask (fieldsOf types t.ty) t.cells = 0 by
            rw [← HE2.out]; exact eachC_end _ _ _ _ (by have := HNC.out; omega))
          have HE3 := hide (show eachT types ask (l.drop (j + 1)) = m by
            rw [HD.out, if_neg (not_not_intro HE0.out)])
          go_wp2_with fail
          go_roundg (G - 1)
          case measure => omega
          case rel => exact ⟨j + 1, by omega, by go_num, hide (tra HK.out (tra HKr1.out HK2.out)), HE3⟩
    · have HF := hide (show 0 = m by rw [← HE.out, List.drop_eq_nil_of_le (by omega)]; rfl)
      go_wp2_with fail
      go_ret
      exact ⟨ret_int HF.out, HK.out⟩

end Go.Proofs.YtidodjbmlbjchaaGreat

/- state's wrongIds. -/
namespace Go.Proofs.YtidodjbmlbjchaaGreat
open Go.RowKit

theorem typeNamed_no (w : World) (v : Value) (l : List TypeT) (nm : List UInt8) (P : Nat → Prop) (h : TypSl P w v l) :
    Calls Tryz.prog 67 #[v, .string ⟨nm.toArray⟩] w fun e w' => e = .returned (.int .i64 (typeNo l nm)) ∧ Same w w' := by
  refine (typeNamed_any w v l nm P h).mono ?_
  rintro e w1 (⟨j, rfl, ha, hj, hK⟩ | ⟨rfl, ha, hK⟩)
  · exact ⟨by rw [typeNo, if_pos ha, hj.1], hK⟩
  · exact ⟨by rw [typeNo, if_neg (by simp [ha])], hK⟩

theorem idsC_of (types : List TypeT) (things : List ThingT) (f : FieldT) (c : CellT) (k : Nat) (h : ∀ j (hj : j < c.ids.length), j < k → hasTh things (typeNo types f.of) c.ids[j] = true) :
    (∀ hk : k < c.ids.length, hasTh things (typeNo types f.of) c.ids[k] = false → idsC types things f c = 5) ∧ (c.ids.length ≤ k → idsC types things f c = 0) := by
  constructor
  · intro hk hh
    unfold idsC
    rw [if_neg]
    intro ha
    have := List.all_eq_true.1 ha _ (List.getElem_mem hk)
    rw [hh] at this
    cases this
  · intro hk
    refine (idsC_iff _ _ _ _).2 fun x hx => ?_
    obtain ⟨j, hj, rfl⟩ := List.getElem_of_mem hx
    exact h j hj (by omega)

set_option maxRecDepth 20000 in
set_option maxHeartbeats 3200000 in
theorem wrongIds1_any (w : World) (vt vh : Value) (types : List TypeT) (l : List ThingT) (gs : Nat) (ht : TypSl anyB w vt types) (hh : ThgSl anyB w vh l) (hs : sortT l) (hl : l.length ≤ 1000)
    (hc0 : w.cell? ⟨gs, 0, none⟩ = some vt) (hc1 : w.cell? ⟨gs, 1, none⟩ = some vh) : AsksAt w 66 #[.pointer (some ⟨gs, 0, none⟩)] (idsC types l) := by
  intro wx f c ai ni ci hx hids
  obtain ⟨at', ct, rfl, _, _⟩ := id ht
  obtain ⟨ah, ch, rfl, _, _⟩ := id hh
  obtain ⟨hni, hmax, _⟩ := hids.len
  have hmaxn : ni ≤ 9223372036854775807 := by omega
  obtain ⟨m, hm⟩ : ∃ m, idsC types l f c = m := ⟨_, rfl⟩
  have HM := hide hm
  have HNI := hide hni
  have HI := hide hids
  have HTN := hide (fun wy (hy : Same wx wy) => typeNamed_no wy _ types f.of anyB (ht.same (tra hx hy)))
  have HTA := hide (fun wy (hy : Same wx wy) ty ix => thingAt_any wy _ l anyB (hh.same (tra hx hy)) hs hl ty ix)
  have hc0' := hx.cell hc0 (fun f => f)
  have hc1' := hx.cell hc1 (fun f => f)
  obtain ⟨w2, hw2⟩ : ∃ w2, w2 = (wx.alloc (.cells #[.string ⟨f.name.toArray⟩, .int .i64 f.kind, .string ⟨f.of.toArray⟩] 58)).alloc (.cells #[.int .i64 c.n, .string ⟨c.text.toArray⟩, .slice ai ni ci] 65) := ⟨_, rfl⟩
  obtain ⟨g1, hg1⟩ : ∃ g, g = wx.heap.size := ⟨_, rfl⟩
  obtain ⟨g2, hg2⟩ : ∃ g, g = g1 + 1 := ⟨_, rfl⟩
  have HK2 : Hid (Same wx w2) := hide (by rw [hw2]; exact ((Kept.refl _ wx).alloc _).alloc _)
  have HB1 := hide (show w2.heap[g1]? = some (.cells #[.string ⟨f.name.toArray⟩, .int .i64 f.kind, .string ⟨f.of.toArray⟩] 58 (0, 0)) by
    rw [hw2, hg1]; exact new_kept ((Kept.refl (fun _ => False) _).alloc _) (fun f => f))
  have q0 := HK2.out.cell hc0' (fun f => f)
  have q1 := HK2.out.cell hc1' (fun f => f)
  clear hm hni hids hmax ht hh hx hc0 hc1 hc0' hc1'
  go_enter Tryz.func66, Tryz.ntmps66
  go_wp2_with fail
  rw [← hw2, ← hg1, ← hg2]
  clear hw2 hg1 hg2
  go_loopg [13] ni (fun gg i wr => ∃ k : Nat, k + gg = ni ∧ i = .int .i64 k ∧ Hid (Same w2 wr) ∧ Hid (∀ j (hj : j < c.ids.length), j < k → hasTh l (typeNo types f.of) c.ids[j] = true))
  case atStart => exact ⟨0, by omega, rfl, hide (Kept.refl _ _), hide (fun j _ hj => by omega)⟩
  case round =>
    obtain ⟨k, hk, rfl, HK, HE⟩ := hrel
    by_cases hlt : k < ni
    · have hkl : k < c.ids.length := by have := HNI.out; omega
      obtain ⟨b, off, rfl, _, x0⟩ := (HI.out.same (tra HK2.out HK.out)).at k hkl
      have HO := hide ((idsC_of types l f c k HE.out).1 hkl)
      obtain ⟨x, hxx⟩ : ∃ x, x = c.ids[k] := ⟨_, rfl⟩
      rw [← hxx] at x0 HO
      have HXX := hide hxx
      obtain ⟨f0, f1, f2⟩ := blk3 (blk_kept HB1.out HK.out (fun f => f))
      have p0 := HK.out.cell q0 (fun f => f)
      have p1 := HK.out.cell q1 (fun f => f)
      obtain ⟨tn, htn⟩ : ∃ tn, typeNo types f.of = tn := ⟨_, rfl⟩
      obtain ⟨qq, hqq⟩ : ∃ qq, hasTh l tn x = qq := ⟨_, rfl⟩
      have HQQ := hide hqq
      have HTNE := hide htn
      have HALL := hide (fun wy (hy : Same wr wy) => (⟨hy.cell p0 (fun f => f), hy.cell p1 (fun f => f), hy.cell f2 (fun f => f)⟩ : wy.cell? ⟨gs, 0, none⟩ = _ ∧ wy.cell? ⟨gs, 1, none⟩ = _ ∧ wy.cell? ⟨g1, 2, none⟩ = _))
      have HKX := hide (tra HK2.out HK.out)
      have hKc : Same wr wr := Kept.refl _ _
      clear hxx htn hqq f0 f1
      go_wp2_with fail
      go_region_held3 (fun w' => w'.cell? ⟨gs, 0, none⟩ = some (.slice at' types.length ct) ∧ w'.cell? ⟨gs, 1, none⟩ = some (.slice ah l.length ch) ∧ w'.cell? ⟨g1, 2, none⟩ = some (.string ⟨f.of.toArray⟩)) (go_keep) (first
        | (go_at_call 67; refine (HTN.out _ (tra HKX.out (by exact (by repeat' (first | assumption | exact Kept.refl _ _ | refine Kept.drewN ?_ _ | refine Kept.drew ?_ | refine Kept.alloc ?_ _ | refine Kept.setB ?_ _ _))))).mono ?_; rintro e w9 ⟨rfl, hKn⟩; have hKc := tra (by exact hKc.drewN _) hKn; obtain ⟨p0, p1, f2⟩ := HALL.out _ hKc)
        | (go_at_call 28; refine (HTA.out _ (tra HKX.out (by first | exact hKc.drewN _ | exact hKc.drew | exact hKc)) _ _).mono ?_; rintro e w9 ⟨rfl, hKn⟩; have hKc := tra (by first | exact hKc.drewN _ | exact hKc.drew | exact hKc) hKn; obtain ⟨p0, p1, f2⟩ := HALL.out _ hKc))
      all_goals
        have HK9 := hide (tra HK.out hKc)
        rw [HTNE.out, HQQ.out]
        cases qq
        · have HF := hide (show 5 = m by rw [← HM.out]; exact (HO.out (by rw [HTNE.out, HQQ.out])).symm)
          go_wp2_with fail
          go_ret
          exact ⟨ret_int (HF.out.trans HM.out.symm), tra HK2.out HK9.out⟩
        · have HE2 := hide (show ∀ j (hj : j < c.ids.length), j < k + 1 → hasTh l (typeNo types f.of) c.ids[j] = true by
            intro j hj hjk
            rcases Nat.lt_or_ge j k with h1 | h1
            · exact HE.out j hj h1
            · obtain rfl : j = k := by omega
              rw [← HXX.out, HTNE.out, HQQ.out])
          go_wp2_with fail
          go_roundg (gk - 1)
          case measure => omega
          case rel => exact ⟨k + 1, by omega, by go_num, HK9, HE2⟩
    · have HF := hide (show 0 = m by rw [← HM.out]; exact ((idsC_of types l f c k HE.out).2 (by have := HNI.out; omega)).symm)
      go_wp2_with fail
      go_ret
      exact ⟨ret_int (HF.out.trans HM.out.symm), tra HK2.out HK.out⟩

set_option maxRecDepth 20000 in
set_option maxHeartbeats 1600000 in
theorem wrongIds_any (w : World) (vt vh : Value) (types : List TypeT) (l : List ThingT) (ht : TypSl anyB w vt types) (hh : ThgSl anyB w vh l) (hs : sortT l) (hl : l.length ≤ 1000) (hfit : ∀ t ∈ l, fitTh types t) :
    Calls Tryz.prog 43 #[stV vt vh] w fun e w' => e = .returned (.int .i64 (eachT types (idsC types l) l)) ∧ Same w w' := by
  obtain ⟨at', ct, rfl, _, _⟩ := id ht
  obtain ⟨ah, ch, rfl, _, _⟩ := id hh
  have hcf : ∀ (args : Array Value) (w : World), (callFunc 66 args).run Tryz.prog w = .ok (.enter 66 args) w := by intro args w; kernel_rfl
  have hmf : ∀ (fn : Fn) (first cap : Array Value) (w : World), (Instr.makeFunc fn first cap).run Tryz.prog w = .ok (.func fn first cap) w := fun _ _ _ _ => rfl
  have kA : Same w (w.alloc (.cells #[.slice at' types.length ct, .slice ah l.length ch] 25)) := (Kept.refl _ w).alloc _
  have hB := new_kept (Kept.refl (fun _ => False) (w.alloc (.cells #[.slice at' types.length ct, .slice ah l.length ch] 25))) (fun f => f)
  have HEC := hide (eachCell_any _ _ _ types l 66 #[.pointer (some ⟨w.heap.size, 0, none⟩)] (idsC types l) hcf (ht.same kA) (hh.same kA) hfit (wrongIds1_any _ _ _ types l w.heap.size (ht.same kA) (hh.same kA) hs hl (blk2 hB).1 (blk2 hB).2))
  clear ht hh hs hfit hB
  go_enter Tryz.func43, Tryz.ntmps43
  go_wp2_with fail
  refine HEC.out.mono ?_
  rintro e w1 ⟨rfl, hK⟩
  go_wp2_with fail
  go_ret
  exact ⟨rfl, tra kA hK⟩

end Go.Proofs.YtidodjbmlbjchaaGreat
