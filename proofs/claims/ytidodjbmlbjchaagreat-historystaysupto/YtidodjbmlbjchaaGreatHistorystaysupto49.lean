import Derived.Test.YtidodjbmlbjchaaGreatHistorystaysupto12
import Derived.Laws.StructEq
import Derived.Test.YtidodjbmlbjchaaGreatHistorystaysupto41
import Derived.Test.YtidodjbmlbjchaaGreatHistorystaysupto14
/- halyardref.SameTypes of the same types; the laws' own types. -/
namespace Go.Proofs.YtidodjbmlbjchaaGreat
open Go.RowKit

theorem neq_fld (x : FieldT) (w : World) :
    (binOp .neq 58 (.agg #[.string ⟨x.name.toArray⟩, .int .i64 x.kind, .string ⟨x.of.toArray⟩]) (.agg #[.string ⟨x.name.toArray⟩, .int .i64 x.kind, .string ⟨x.of.toArray⟩])).run Tryz.prog w = .ok (.bool false) w := by
  rw [run_neq_struct, run_equalIn_agg _ _ _ _ _ (by kernel_rfl) (by kernel_rfl)]
  rw [show (Tryz.prog.fieldsOf 58).toList = [{ name := "Name", type := 9, offset := 0, embedded := false, tag := "", pkgPath := "", byteOffset := 0 }, { name := "Kind", type := 3, offset := 1, embedded := false, tag := "", pkgPath := "", byteOffset := 16 }, { name := "Of", type := 9, offset := 2, embedded := false, tag := "", pkgPath := "", byteOffset := 24 }] from by kernel_rfl]
  simp [Op.eqFields, go_sem]

set_option maxRecDepth 20000 in
set_option maxHeartbeats 1600000 in
theorem sameTypes_eq (w : World) (va vb : Value) (l : List TypeT) (P Q : Nat → Prop) (ha : TypSl P w va l) (hb : TypSl Q w vb l) :
    Calls Tryz.prog 50 #[va, vb] w fun e w' => e = .returned (.bool true) ∧ ∃ n, w' = w.drewN n := by
  obtain ⟨aa, ca, rfl, ⟨hla, _⟩, _⟩ := id ha
  obtain ⟨ab, cb, rfl, _, _⟩ := id hb
  unfold maxLen at hla
  have hla' : l.length ≤ 9223372036854775807 := hla
  have HA := hide ha
  have HB := hide hb
  clear hla ha hb
  go_enter Tryz.func50, Tryz.ntmps50
  go_wp2_with fail
  go_loopg [5] l.length (fun g i wr => ∃ k n : Nat, k + g = l.length ∧ i = .int .i64 k ∧ wr = w.drewN n)
  case atStart => exact ⟨0, 0, by omega, rfl, rfl⟩
  case round =>
    obtain ⟨k, n, hk, rfl, rfl⟩ := hrel
    by_cases hlt : k < l.length
    · obtain ⟨b1, o1, a1, n1, c1, rfl, p0, p1, hn1, hf1⟩ := HA.out.at k hlt
      obtain ⟨b2, o2, a2, n2, c2, rfl, q0, q1, hn2, hf2⟩ := HB.out.at k hlt
      have hfm : l[k].fields.length ≤ 9223372036854775807 := by
        obtain ⟨_, _, _, h, _⟩ := id hf1
        exact h.1
      obtain ⟨t, hte⟩ : ∃ t, t = l[k] := ⟨_, rfl⟩
      rw [← hte] at p0 q0 hn1 hn2 hf1 hf2 hfm
      subst hn1 hn2
      have HF1 := hide hf1
      have HF2 := hide hf2
      clear hte hf1 hf2
      go_wp2_with fail
      go_quiet (fail)
      go_wp2_with fail
      obtain ⟨G, hG1, hG2⟩ : ∃ G, G ≤ gk ∧ gk ≤ G := ⟨gk, Nat.le_refl _, Nat.le_refl _⟩
      go_loopg [6] t.fields.length (fun g i wr => ∃ j m : Nat, j + g = t.fields.length ∧ i = .int .i64 j ∧ wr = w.drewN m)
      case atStart => exact ⟨0, n + nq, by omega, rfl, by rw [World.drewN_drewN]⟩
      case round =>
        obtain ⟨j, m, hj, rfl, rfl⟩ := hrel
        by_cases hlj : j < t.fields.length
        · obtain ⟨b3, o3, rfl, r0, r1, r2⟩ := HF1.out.at j hlj
          obtain ⟨b4, o4, rfl, s0, s1, s2⟩ := HF2.out.at j hlj
          have hnq := neq_fld t.fields[j]
          obtain ⟨f, hfe⟩ : ∃ f, f = t.fields[j] := ⟨_, rfl⟩
          rw [← hfe] at r0 r1 r2 s0 s1 s2 hnq
          clear hfe
          go_wp2_with fail
          go_quiet (fail)
          go_wp2_with fail
          go_roundg (gk - 1)
          case measure => omega
          case rel => exact ⟨j + 1, _, by omega, by go_num, rfl⟩
        · go_wp2_with fail
          go_roundg (G - 1)
          case measure => omega
          case rel => exact ⟨k + 1, m, by omega, by go_num, rfl⟩
    · go_wp2_with fail
      go_ret
      exact ⟨rfl, _, rfl⟩

end Go.Proofs.YtidodjbmlbjchaaGreat

/- halyardref.SameState of equal ones. -/
namespace Go.Proofs.YtidodjbmlbjchaaGreat
open Go.RowKit

set_option maxRecDepth 20000 in
set_option maxHeartbeats 3200000 in
theorem sameState_eq (w : World) (ta tb va vb : Value) (s : StateT) (hta : TypSl anyB w ta s.types) (htb : TypSl anyB w tb s.types) (hva : ThgSl anyB w va s.things) (hvb : ThgSl anyB w vb s.things) :
    Calls Tryz.prog 24 #[stV ta va, stV tb vb] w fun e w' => e = .returned (.bool true) ∧ Same w w' := by
  obtain ⟨ata, cta, rfl, _, _⟩ := id hta
  obtain ⟨atb, ctb, rfl, _, _⟩ := id htb
  obtain ⟨ava, cva, rfl, _, _⟩ := id hva
  obtain ⟨avb, cvb, rfl, _, _⟩ := id hvb
  obtain ⟨_, hmax, _⟩ := hva.len
  obtain ⟨types, l⟩ := s
  simp only at hta htb hva hvb hmax ⊢
  obtain ⟨W, hW⟩ : ∃ W, W = (w.alloc (.cells #[.slice ata types.length cta, .slice ava l.length cva] 25)).alloc (.cells #[.slice atb types.length ctb, .slice avb l.length cvb] 25) := ⟨_, rfl⟩
  obtain ⟨ga, hga⟩ : ∃ g, g = w.heap.size := ⟨_, rfl⟩
  obtain ⟨gb, hgb⟩ : ∃ g, g = w.heap.size + 1 := ⟨_, rfl⟩
  have HKW := hide (show Same w W by rw [hW]; exact ((Kept.refl _ w).alloc _).alloc _)
  have hGA : W.heap[ga]? = some (.cells #[.slice ata types.length cta, .slice ava l.length cva] 25 (0, 0)) := by rw [hW, hga]; exact al_o _ _ _
  have hGB : W.heap[gb]? = some (.cells #[.slice atb types.length ctb, .slice avb l.length cvb] 25 (0, 0)) := by rw [hW, hgb]; exact al_n _ _ _
  obtain ⟨c0, c1⟩ := blk2' hGA
  obtain ⟨d0, d1⟩ := blk2' hGB
  have HALL := hide (fun wy (hy : Same W wy) => (⟨hy.cell c0 (fun f => f), hy.cell c1 (fun f => f), hy.cell d0 (fun f => f), hy.cell d1 (fun f => f)⟩ : wy.cell? ⟨ga, 0, none⟩ = _ ∧ wy.cell? ⟨ga, 1, none⟩ = _ ∧ wy.cell? ⟨gb, 0, none⟩ = _ ∧ wy.cell? ⟨gb, 1, none⟩ = _))
  have HST := hide (fun wy (hy : Same W wy) => sameTypes_eq wy _ _ types anyB anyB (hta.same (tra HKW.out hy)) (htb.same (tra HKW.out hy)))
  have HA := hide (fun wy (hy : Same W wy) => hva.same (tra HKW.out hy))
  have HB := hide (fun wy (hy : Same W wy) => hvb.same (tra HKW.out hy))
  clear hta htb hva hvb hGA hGB
  go_enter Tryz.func24, Tryz.ntmps24
  go_upto_region 1 with fail
  rw [← hW, ← hgb, ← hga]
  clear hW hgb hga
  go_wp2_with fail
  refine (HST.out _ (Kept.refl _ _)).mono ?_
  rintro e w1 ⟨rfl, n1, hw1⟩
  have HK1 := hide (show Same W w1 by rw [hw1]; exact (Kept.refl _ W).drewN n1)
  clear hw1 c0 c1 d0 d1 HST
  obtain ⟨c0, c1, d0, d1⟩ := HALL.out w1 HK1.out
  go_wp2_with fail
  go_loopg [5] l.length (fun g i wr => ∃ k : Nat, k + g = l.length ∧ i = .int .i64 k ∧ Hid (Same W wr))
  case atStart => exact ⟨0, by omega, rfl, HK1⟩
  case round =>
    obtain ⟨k, hk, rfl, HK⟩ := hrel
    clear c0 c1 d0 d1
    obtain ⟨c0, c1, d0, d1⟩ := HALL.out wr HK.out
    by_cases hlt : k < l.length
    · obtain ⟨G, hG1, hG2⟩ : ∃ G, G ≤ gk ∧ gk ≤ G := ⟨gk, Nat.le_refl _, Nat.le_refl _⟩
      obtain ⟨ba, oa, aca, nca, cca, rfl, _, a0, a1, a2, hna, hca⟩ := (HA.out wr HK.out).at k hlt
      obtain ⟨bb, ob, acb, ncb, ccb, rfl, _, b0, b1, b2, hnb, hcb⟩ := (HB.out wr HK.out).at k hlt
      obtain ⟨hz1, hmc, hz2⟩ := hca.len
      clear hz1 hz2
      obtain ⟨t, het⟩ : ∃ t, t = l[k] := ⟨_, rfl⟩
      rw [← het] at a0 a1 hna hca b0 b1 hnb hcb hmc
      subst hna hnb
      have HCA := hide hca
      have HCB := hide hcb
      clear het hca hcb
      go_wp2_with fail
      go_cut [6, 7] from 25 to 144 (fun v6 v7 wx => ∃ g6 g7 : Nat, v6 = .pointer (some ⟨g6, 0, none⟩) ∧ v7 = .pointer (some ⟨g7, 0, none⟩) ∧ Hid (wx.heap[g6]? = some (.cells #[.int .i64 t.ty, .int .i64 t.id, .slice aca t.cells.length cca] 68 (0, 0))) ∧ Hid (wx.heap[g7]? = some (.cells #[.int .i64 t.ty, .int .i64 t.id, .slice acb t.cells.length ccb] 68 (0, 0))) ∧ Hid (Same wr wx))
      case first =>
        go_region_held3 (fun w' => w'.cell? ⟨ga, 1, none⟩ = some (.slice (some ⟨ba, oa, none⟩) l.length cva) ∧ w'.cell? ⟨gb, 1, none⟩ = some (.slice (some ⟨bb, ob, none⟩) l.length cvb) ∧ w'.cell? ⟨ba, oa + k * 3, none⟩ = some (.int .i64 t.ty) ∧ w'.cell? ⟨ba, oa + k * 3 + 1, none⟩ = some (.int .i64 t.id) ∧ w'.cell? ⟨ba, oa + k * 3 + 2, none⟩ = some (.slice aca t.cells.length cca) ∧ w'.cell? ⟨bb, ob + k * 3, none⟩ = some (.int .i64 t.ty) ∧ w'.cell? ⟨bb, ob + k * 3 + 1, none⟩ = some (.int .i64 t.id) ∧ w'.cell? ⟨bb, ob + k * 3 + 2, none⟩ = some (.slice acb t.cells.length ccb)) (go_keep) (fail)
        all_goals
          go_wp2_with fail
          go_meet
          case rel => first
            | exact ⟨_, _, rfl, rfl, al_o wr _ _, al_n wr _ _, (((Kept.refl _ wr).alloc _).alloc _).drew⟩
            | exact ⟨_, _, rfl, rfl, al_n wr _ _, al_o wr _ _, (((Kept.refl _ wr).alloc _).alloc _).drew⟩
            | trace_state
      case rest =>
        obtain ⟨g6, g7, rfl, rfl, HG6, HG7, HKr⟩ := hcut
        have HK2 := hide (tra HK.out HKr.out)
        have HCA2 := hide (HCA.out.same HKr.out)
        have HCB2 := hide (HCB.out.same HKr.out)
        obtain ⟨wo, hwo⟩ : ∃ wo, wo = wc := ⟨_, rfl⟩
        subst hwo
        have hg6 := HG6.out
        have hg7 := HG7.out
        obtain ⟨x0, x1, x2⟩ := blk3 hg6
        obtain ⟨y0, y1, y2⟩ := blk3 hg7
        have HCC := hide (fun wy (hy : Same wo wy) => (⟨hy.cell x2 (fun f => f), hy.cell y2 (fun f => f)⟩ : wy.cell? ⟨g6, 2, none⟩ = _ ∧ wy.cell? ⟨g7, 2, none⟩ = _))
        clear a0 a1 a2 b0 b1 b2 HKr hg6 hg7 HG6 HG7 c0 c1 d0 d1
        go_wp2_with fail
        go_loopg [8] t.cells.length (fun g i wr => ∃ j : Nat, j + g = t.cells.length ∧ i = .int .i64 j ∧ Hid (Same wo wr))
        case atStart => exact ⟨0, by omega, rfl, Kept.refl _ _⟩
        case round =>
          obtain ⟨j, hj, rfl, HKj⟩ := hrel
          clear x0 x1 x2 y0 y1 y2
          obtain ⟨x2, y2⟩ := HCC.out wr HKj.out
          by_cases hlj : j < t.cells.length
          · obtain ⟨b3, o3, aia, nia, cia, rfl, _, p0, p1, p2, hnia, hia⟩ := (HCA2.out.same HKj.out).at j hlj
            obtain ⟨b4, o4, aib, nib, cib, rfl, _, q0, q1, q2, hnib, hib⟩ := (HCB2.out.same HKj.out).at j hlj
            obtain ⟨hz1, hmi, hz2⟩ := hia.len
            clear hz1 hz2
            obtain ⟨c, hec⟩ : ∃ c, c = t.cells[j] := ⟨_, rfl⟩
            rw [← hec] at p0 p1 hnia hia q0 q1 hnib hib hmi
            subst hnia hnib
            have HIA := hide hia
            have HIB := hide hib
            clear hec hia hib
            obtain ⟨G2, hG3, hG4⟩ : ∃ G, G ≤ gk ∧ gk ≤ G := ⟨gk, Nat.le_refl _, Nat.le_refl _⟩
            obtain ⟨wj, hwj⟩ : ∃ wj, wj = wr := ⟨_, rfl⟩
            subst hwj
            have HPQ := hide (fun wy (hy : Same wj wy) => (⟨hy.cell x2 (fun f => f), hy.cell y2 (fun f => f), hy.cell p2 (fun f => f), hy.cell q2 (fun f => f)⟩ : wy.cell? ⟨g6, 2, none⟩ = _ ∧ wy.cell? ⟨g7, 2, none⟩ = _ ∧ wy.cell? ⟨b3, o3 + j * 3 + 2, none⟩ = _ ∧ wy.cell? ⟨b4, o4 + j * 3 + 2, none⟩ = _))
            go_wp2_with fail
            go_quiet (fail)
            go_wp2_with fail
            go_loopg [9] c.ids.length (fun g i wr => ∃ h : Nat, h + g = c.ids.length ∧ i = .int .i64 h ∧ Hid (Same wj wr))
            case atStart => exact ⟨0, by omega, rfl, Kept.drewN (Kept.refl _ _) _⟩
            case round =>
              obtain ⟨h, hh, rfl, HKh⟩ := hrel
              clear x2 y2 p0 p1 p2 q0 q1 q2
              obtain ⟨x2, y2, p2, q2⟩ := HPQ.out wr HKh.out
              by_cases hlh : h < c.ids.length
              · obtain ⟨b5, o5, rfl, _, r0⟩ := (HIA.out.same HKh.out).at h hlh
                obtain ⟨b6, o6, rfl, _, s0⟩ := (HIB.out.same HKh.out).at h hlh
                obtain ⟨z, hz⟩ : ∃ z, z = c.ids[h] := ⟨_, rfl⟩
                rw [← hz] at r0 s0
                clear hz
                go_wp2_with fail
                go_quiet (fail)
                go_wp2_with fail
                go_roundg (gk - 1)
                case measure => omega
                case rel => exact ⟨h + 1, by omega, by go_num, HKh.out.drewN _⟩
              · go_wp2_with fail
                go_roundg (G2 - 1)
                case measure => omega
                case rel => exact ⟨j + 1, by omega, by go_num, tra HKj.out HKh.out⟩
          · go_wp2_with fail
            go_roundg (G - 1)
            case measure => omega
            case rel => exact ⟨k + 1, by omega, by go_num, tra HK2.out HKj.out⟩
    · go_wp2_with fail
      go_ret
      exact ⟨rfl, tra HKW.out HK.out⟩

end Go.Proofs.YtidodjbmlbjchaaGreat

/- Fields as cells, and rows of them. -/
namespace Go.Proofs.YtidodjbmlbjchaaGreat
open Go.RowKit

def fldC (f : FieldT) : List Value := [.string ⟨f.name.toArray⟩, .int .i64 f.kind, .string ⟨f.of.toArray⟩]
def fldCells (l : List FieldT) : List Value := l.flatMap fldC
theorem fldCells_snoc (l : List FieldT) (f : FieldT) : fldCells (l ++ [f]) = fldCells l ++ fldC f := by simp [fldCells]
theorem fldC_one (f : FieldT) : ∀ u ∈ fldC f, u.oneCell' = true := by intro u hu; simp [fldC] at hu; rcases hu with rfl | rfl | rfl <;> rfl

theorem fldCells_get (l : List FieldT) : ∀ (i : Nat) (f : FieldT), l[i]? = some f → (fldCells l)[3 * i]? = some (.string ⟨f.name.toArray⟩) ∧ (fldCells l)[3 * i + 1]? = some (.int .i64 f.kind) ∧ (fldCells l)[3 * i + 2]? = some (.string ⟨f.of.toArray⟩) := by
  induction l with
  | nil => intro i t h; simp at h
  | cons x r ih =>
    intro i t h
    have e : fldCells (x :: r) = .string ⟨x.name.toArray⟩ :: .int .i64 x.kind :: .string ⟨x.of.toArray⟩ :: fldCells r := by simp [fldCells, fldC]
    cases i with
    | zero => simp at h; subst h; rw [e]; simp
    | succ i =>
      simp at h
      have := ih i t h
      rw [e, show 3 * (i + 1) = 3 * i + 1 + 1 + 1 from by omega, show 3 * i + 1 + 1 + 1 + 1 = (3 * i + 1) + 1 + 1 + 1 from rfl, show 3 * i + 1 + 1 + 1 + 2 = (3 * i + 2) + 1 + 1 + 1 from by omega]
      simpa using this

/-- a row of fields that the call owns is a slice of fields -/
theorem own_flds {w : World} {base : Nat} {v : Value} {l : List FieldT} (h : w.ownsRow base 58 3 v l.length (fldCells l)) (hl : l.length ≤ 9000000000000) : FldSl (fun b => base ≤ b) w v l := by
  have hc := fun g => World.ownsRow.cells h (g := g)
  rcases h.2 with ⟨rfl, h0⟩ | ⟨g, cap, cur, rfl, hg, hb, hc1, hc2, hc3, htk⟩
  · obtain rfl : l = [] := List.length_eq_zero_iff.1 h0
    exact FldSl.nil _ w
  · refine ⟨_, cap, rfl, ⟨by unfold maxLen; omega, hc1⟩, fun i t ht => ⟨g, 0, rfl, hg, ?_⟩⟩
    obtain ⟨h1, h2, h3⟩ := fldCells_get l i t ht
    have k1 := hc g rfl _ _ h1
    have k2 := hc g rfl _ _ h2
    have k3 := hc g rfl _ _ h3
    rw [add_none] at k1 k2 k3
    rw [show 0 + i * 3 = 0 + 3 * i from by omega]
    exact ⟨k1, k2, k3⟩

theorem infoF : (Tryz.prog.info? 58).map (fun i => (i.zero, i.size, i.bytes)) = some (some (.agg #[.string ⟨#[]⟩, .int .i64 0, .string ⟨#[]⟩]), 3, 40) := by kernel_rfl

end Go.Proofs.YtidodjbmlbjchaaGreat

/- The laws' own schema. -/
namespace Go.Proofs.YtidodjbmlbjchaaGreat
open Go.RowKit

def tyA : TypeT := ⟨[65], [⟨[110], 1, []⟩, ⟨[116], 2, []⟩, ⟨[98], 3, [66]⟩, ⟨[108], 4, [65]⟩]⟩
def tyB : TypeT := ⟨[66], [⟨[109], 1, []⟩]⟩
def types2 : List TypeT := [tyA, tyB]

/-- fields in a new block -/
theorem FldSl.new (w : World) (l : List FieldT) (hl : l.length ≤ 1000) (x : Array Value) (hx : x.toList = l.flatMap (fun f => [.string ⟨f.name.toArray⟩, .int .i64 f.kind, .string ⟨f.of.toArray⟩])) (w' : World) (hk : Same (w.alloc (.cells x 58)) w') (c : Nat) (hc : l.length ≤ c) :
    FldSl (fun b => b = w.heap.size) w' (.slice (some ⟨w.heap.size, 0, none⟩) l.length c) l := by
  refine ⟨_, c, rfl, ⟨by unfold maxLen; omega, hc⟩, fun i f hf => ⟨w.heap.size, 0, rfl, rfl, ?_⟩⟩
  have key : ∀ j u, x.toList[j]? = some u → w'.cell? ⟨w.heap.size, j, none⟩ = some u := by
    intro j u hj
    refine hk.cell ?_ (fun f => f)
    rw [World.cell?_alloc_new]
    simpa using hj
  have hg : ∀ (l : List FieldT) (i : Nat) (f : FieldT), l[i]? = some f → (l.flatMap (fun f => [Value.string ⟨f.name.toArray⟩, .int .i64 f.kind, .string ⟨f.of.toArray⟩]))[i * 3]? = some (.string ⟨f.name.toArray⟩) ∧ (l.flatMap (fun f => [Value.string ⟨f.name.toArray⟩, .int .i64 f.kind, .string ⟨f.of.toArray⟩]))[i * 3 + 1]? = some (.int .i64 f.kind) ∧ (l.flatMap (fun f => [Value.string ⟨f.name.toArray⟩, .int .i64 f.kind, .string ⟨f.of.toArray⟩]))[i * 3 + 2]? = some (.string ⟨f.of.toArray⟩) := by
    intro l i f hf
    have := fldCells_get l i f hf
    rw [show i * 3 = 3 * i from by omega]
    exact this
  obtain ⟨h1, h2, h3⟩ := hg l i f hf
  rw [← hx] at h1 h2 h3
  rw [Nat.zero_add]
  exact ⟨key _ _ h1, key _ _ h2, key _ _ h3⟩

theorem types_any (w : World) :
    Calls Tryz.prog 48 #[] w fun e w' => ∃ b, e = .returned (.slice (some ⟨b, 0, none⟩) 2 2) ∧ TypSl (fun b => w.heap.size ≤ b) w' (.slice (some ⟨b, 0, none⟩) 2 2) types2 ∧ Same w w' := by
  go_enter Tryz.func48, Tryz.ntmps48
  go_wp2
  go_ret
  obtain ⟨w1, hw1⟩ : ∃ w1, w1 = w.alloc (.cells #[.string ⟨#[110]⟩, .int .i64 1, .string ⟨#[]⟩, .string ⟨#[116]⟩, .int .i64 2, .string ⟨#[]⟩, .string ⟨#[98]⟩, .int .i64 3, .string ⟨#[66]⟩, .string ⟨#[108]⟩, .int .i64 4, .string ⟨#[65]⟩] 58) := ⟨_, rfl⟩
  obtain ⟨w2, hw2⟩ : ∃ w2, w2 = w1.alloc (.cells #[.string ⟨#[109]⟩, .int .i64 1, .string ⟨#[]⟩] 58) := ⟨_, rfl⟩
  obtain ⟨w3, hw3⟩ : ∃ w3, w3 = w2.alloc (.cells #[.string ⟨#[65]⟩, .slice (some ⟨w.heap.size, 0, none⟩) 4 4, .string ⟨#[66]⟩, .slice (some ⟨w1.heap.size, 0, none⟩) 1 1] 61) := ⟨_, rfl⟩
  have k12 : Same w1 w2 := by rw [hw2]; exact (Kept.refl _ _).alloc _
  have k23 : Same w2 w3 := by rw [hw3]; exact (Kept.refl _ _).alloc _
  have k01 : Same w w1 := by rw [hw1]; exact (Kept.refl _ _).alloc _
  have s1 : w1.heap.size = w.heap.size + 1 := by rw [hw1]; simp
  have s2 : w2.heap.size = w.heap.size + 2 := by rw [hw2, World.size_alloc, s1]
  have k13 : Same w1 w3 := k12.trans k23 (fun _ _ f => f.elim)
  have k13' := k13
  rw [hw1] at k13'
  have k23' := k23
  rw [hw2] at k23'
  have f1 := FldSl.new w tyA.fields (by decide) _ (by rfl) w3 k13' 4 (by decide)
  have f2 := FldSl.new w1 tyB.fields (by decide) _ (by rfl) w3 k23' 1 (by decide)
  have key : ∀ j u, [Value.string ⟨#[65]⟩, .slice (some ⟨w.heap.size, 0, none⟩) 4 4, .string ⟨#[66]⟩, .slice (some ⟨w1.heap.size, 0, none⟩) 1 1][j]? = some u → w3.cell? ⟨w2.heap.size, j, none⟩ = some u := by
    intro j u hj
    rw [hw3, World.cell?_alloc_new]
    simpa using hj
  refine ⟨w.heap.size + 2, ?_, ?_, ?_⟩
  · rfl
  · have : TypSl (fun b => w.heap.size ≤ b) w3 (.slice (some ⟨w2.heap.size, 0, none⟩) 2 2) types2 := by
      refine ⟨_, 2, rfl, ⟨by decide, by decide⟩, fun i t ht => ?_⟩
      match i, ht with
      | 0, ht =>
        simp [types2] at ht
        subst ht
        exact ⟨w2.heap.size, 0, _, rfl, by omega, key 0 _ rfl, key 1 _ rfl, f1.mono (fun b _ hb => by omega)⟩
      | 1, ht =>
        simp [types2] at ht
        subst ht
        exact ⟨w2.heap.size, 0, _, rfl, by omega, key 2 _ rfl, key 3 _ rfl, f2.mono (fun b _ hb => by omega)⟩
      | i + 2, ht => simp [types2] at ht
    rw [s2, hw3, hw2, hw1] at this
    simpa using this
  · have := k01.trans (k12.trans k23 (fun _ _ f => f.elim)) (fun _ _ f => f.elim)
    rw [hw3, hw2, hw1] at this
    simpa using this

theorem ck1 : checkSc types2 = 0 := by kernel_rfl

end Go.Proofs.YtidodjbmlbjchaaGreat
