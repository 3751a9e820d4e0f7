import Derived.Test.YtkkjchfhgjfclabGreatDoorSchematurned29
import Derived.Test.YtkkjchfhgjfclabGreatDoorCards
import Derived.Test.YtkkjchfhgjfclabGreatDoorTie
import Derived.Test.YtkkjchfhgjfclabGreatDoorSchematurned27
import Derived.ProofKit
import Derived.OpenShut
import Derived.SizedLaws
import Derived.Deep.DeepHandedRow
import Derived.Deep.DeepWitnessRowRef
import Derived.Lib.LaidTab
import Derived.Stop.LaidErr
/- SchemaTurned: the walk of the law's function. -/
namespace Go.Proofs.YtkkjchfhgjfclabGreatDoor
open Go.RowKit

/-- types, where their fields lie, and where they lie themselves -/
def PairsAt (w : World) (v : Value) (ps : List (TypeT × Value)) : Prop :=
  ∃ ao c, v = .slice ao ps.length c ∧ (ao = none → ps.length = 0 ∧ c = 0) ∧ (ps.length ≤ c) ∧ (∀ ad, ao = some ad → ∃ b off, ad = ⟨b, off, none⟩) ∧ (∀ ad, ao = some ad → ∀ j u, (tyCells ps)[j]? = some u → w.cell? (ad.add j) = some u) ∧ ∀ p ∈ ps, FldSl anyB w p.2 p.1.fields

theorem PairsAt.same {w w' : World} {v : Value} {ps : List (TypeT × Value)} (h : PairsAt w v ps) (hk : Same w w') : PairsAt w' v ps := by
  obtain ⟨ao, c, h1, h2, h3, h4, h5, h6⟩ := h
  exact ⟨ao, c, h1, h2, h3, h4, fun ad e j u hj => hk.cell (h5 ad e j u hj) (fun f => f), fun p hp => (h6 p hp).same hk⟩

theorem PairsAt.typs {w : World} {v : Value} {ps : List (TypeT × Value)} (h : PairsAt w v ps) (hl : ps.length ≤ 1000) : TypSl anyB w v (ps.map (·.1)) := by
  obtain ⟨ao, c, rfl, h2, h3, h4, h5, h6⟩ := h
  refine ⟨ao, c, by rw [List.length_map], ⟨by rw [List.length_map]; unfold maxLen; omega, by rw [List.length_map]; exact h3⟩, fun i t ht => ?_⟩
  rw [List.getElem?_map] at ht
  obtain ⟨p, hp, rfl⟩ := Option.map_eq_some_iff.1 ht
  cases ao with
  | none =>
    have := (h2 rfl).1
    rw [List.length_eq_zero_iff.1 this] at hp
    simp at hp
  | some ad =>
    obtain ⟨b, off, rfl⟩ := h4 ad rfl
    obtain ⟨g1, g2⟩ := tyCells_get ps i p hp
    have k1 := h5 _ rfl _ _ g1
    have k2 := h5 _ rfl _ _ g2
    rw [add_none] at k1 k2
    rw [show off + 2 * i = off + i * 2 from by omega] at k1
    rw [show off + (2 * i + 1) = off + i * 2 + 1 from by omega] at k2
    exact ⟨b, off, p.2, rfl, trivial, k1, k2, h6 p (List.mem_of_getElem? hp)⟩

theorem tyCells_len (ps : List (TypeT × Value)) : (tyCells ps).length = ps.length * 2 := by
  induction ps with
  | nil => rfl
  | cons p r ih => simp [tyCells, tyC] at ih ⊢; omega

theorem fld_one {P : Nat → Prop} {w : World} {v : Value} {l : List FieldT} (h : FldSl P w v l) : v.oneCell' = true := by
  obtain ⟨ao, c, rfl, _, _⟩ := h
  rfl

theorem tyCells_1 {w : World} {ps : List (TypeT × Value)} (h : ∀ p ∈ ps, FldSl anyB w p.2 p.1.fields) : ∀ u ∈ tyCells ps, u.oneCell' = true := by
  intro u hu
  simp only [tyCells, List.mem_flatMap, tyC] at hu
  obtain ⟨p, hp, hu⟩ := hu
  simp at hu
  rcases hu with rfl | rfl
  · rfl
  · exact fld_one (h p hp)

theorem turn_step (l : List TypeT) (j : Nat) (h : j < l.length) : turnS (l.take (j + 1)) = turnT l[j] :: turnS (l.take j) := by
  unfold turnS
  rw [List.take_succ_eq_append_getElem h, List.map_append, List.reverse_append]
  rfl

/-- one type in a block of its own is a row that the call owns -/
theorem own_one {w : World} {g : Nat} {x y : Value} (h : w.heap[g]? = some (.cells #[x, y] 38 (0, 0))) : w.ownsRow g 38 2 (.slice (some ⟨g, 0, none⟩) 1 1) 1 [x, y] :=
  ⟨rfl, .inr ⟨g, 1, _, rfl, Nat.le_refl _, h, Nat.le_refl _, by unfold maxLen; omega, rfl, rfl⟩⟩

set_option maxRecDepth 20000 in
set_option maxHeartbeats 6400000 in
theorem schemaTurned_any (w : World) (v : Value) (l : List TypeT) (ht : Tab w) (hv : TypSl anyB w v l) :
    Calls Tryz.prog 4 #[v] w fun e w' => e = .returned (.bool true) ∧ Same w w' := by
  have HT := hide ht
  have HV := hide hv
  obtain ⟨ao, cap, rfl, hml, _⟩ := id hv
  clear ht hv
  obtain ⟨c, hc⟩ : ∃ c, checkSc l = c := ⟨_, rfl⟩
  have HC := hide hc
  have hck := fun w1 (hK : Same w w1) => scCheck_any w1 _ l _ (HV.out.same hK)
  rw [hc] at hck
  have HCK := hide hck
  clear hck
  obtain ⟨i0, hi, hz0, hz1, hz2⟩ := info_parts infoF
  obtain ⟨t0, ti, tz0, tz1, tz2⟩ := info_parts infoT
  by_cases hc0 : c = 0
  · have HC0 := hide (hc.trans hc0)
    subst hc0
    obtain ⟨⟨hl0, hl5⟩, hty, _⟩ := (checkSc_iff l).1 HC0.out
    have HTY := hide hty
    have hck2 := fun w1 v1 (h : TypSl anyB w1 v1 (turnS l)) => scCheck_any w1 v1 (turnS l) _ h
    rw [checkSc_turn HC0.out] at hck2
    have HCK2 := hide hck2
    clear hc hty hck2 hml
    go_enter Tryz.func4, Tryz.ntmps4
    go_wp2_with fail
    refine (schemaBegun_any _ HT.out).mono ?_
    rintro e w1 ⟨rfl, hK1⟩
    go_wp2_with fail
    refine (HCK.out w1 hK1).mono ?_
    rintro e w2 ⟨rfl, hK2⟩
    have HK2 := hide (tra hK1 hK2)
    clear hK1 hK2
    go_wp2_with fail
    go_loopg [3, 4] l.length (fun g vt i wr => ∃ (j : Nat) (ps : List (TypeT × Value)), j + g = l.length ∧ i = .int .i64 j ∧ Hid (Same w wr) ∧ Hid (PairsAt wr vt ps) ∧ Hid (ps.map (·.1) = turnS (l.take j)) ∧ Hid (ps.length = j) ∧ Hid (∃ a n c, vt = .slice a n c))
    case atStart => exact ⟨0, [], by omega, rfl, HK2, ⟨none, 0, rfl, fun _ => ⟨rfl, rfl⟩, Nat.le_refl _, (fun ad e => by cases e), (fun ad e => by cases e), (fun p hp => by cases hp)⟩, rfl, rfl, ⟨none, 0, 0, rfl⟩⟩
    case round =>
      obtain ⟨j, ps, hj, rfl, HKr, HPA, HPS, HPL, HVT⟩ := hrel
      obtain ⟨av, nv, cv, rfl⟩ := HVT.out
      clear HVT
      by_cases hlt : j < l.length
      · obtain ⟨b, off, af, nf, cf, rfl, x0, x1, hnf, hfs⟩ := (HV.out.same HKr.out).at j hlt
        have h6 := (HTY.out l[j] (List.getElem_mem hlt)).2.2.2.1
        have HTS := hide (turn_step l j hlt)
        obtain ⟨t, hte⟩ : ∃ t, t = l[j] := ⟨_, rfl⟩
        rw [← hte] at x0 hnf hfs h6 HTS
        subst hnf
        have HFS := hide hfs
        obtain ⟨h60, h66⟩ := h6
        obtain ⟨G, hG1, hG2⟩ : ∃ G, G ≤ gk ∧ gk ≤ G := ⟨gk, Nat.le_refl _, Nat.le_refl _⟩
        obtain ⟨wo, hwo⟩ : ∃ wo, wo = wr := ⟨_, rfl⟩
        have hwb : b < wr.heap.size := World.block_lt_of_cell? wr _ x0
        clear hte hfs
        go_wp2_with fail
        rw [← hwo]
        rw [← hwo] at x0 x1 HKr HPA HFS hwb
        clear hwo
        have HB5 := hide (heap_alloc_new wo (.cells #[.string ⟨t.name.toArray⟩, .slice none 0 0] 38))
        go_loopg [6] (t.fields.length + 1) (fun g k wi => ∃ (n : Nat) (vf : Value), n + 1 ≤ g ∧ g ≤ n + 1 ∧ n ≤ t.fields.length ∧ k = .int .i64 ((n : Int) - 1) ∧ Hid (Same wo wi) ∧ Hid (wi.heap[wo.heap.size]? = some (.cells #[.string ⟨t.name.toArray⟩, vf] 38 (0, 0))) ∧ wi.ownsRow (wo.heap.size + 1) 40 3 vf (t.fields.length - n) (fldCells (t.fields.drop n).reverse))
        case atStart =>
          refine ⟨t.fields.length, .slice none 0 0, by omega, by omega, Nat.le_refl _, rfl, (Kept.refl _ wo).alloc _, HB5, ?_⟩
          rw [Nat.sub_self, List.drop_length]
          exact World.ownsRow_nil _ _ _ _
        case round =>
          obtain ⟨n, vf, hg1, hg2, hn, rfl, HKi, HBi, hown⟩ := hrel
          obtain ⟨afi, cfi, hvf⟩ := own_slice hown
          subst hvf
          obtain ⟨d0, d1⟩ := blk2 HBi.out
          have f0 : ∀ o, wr.frozen? ⟨wo.heap.size, o, none⟩ = false := fun o => by have := HBi.out; simp [World.frozen?, this]
          have hwi : wo.heap.size < wr.heap.size := (Array.getElem?_eq_some_iff.1 HBi.out).1
          have y1 := HKi.out.cell x1 (fun f => f)
          by_cases hn0 : n = 0
          · subst hn0
            rw [Nat.sub_zero, List.drop_zero] at hown
            have HFN := hide (show FldSl anyB wr (.slice afi (t.fields.length - 0) cfi) (turnT t).fields from (own_flds (l := t.fields.reverse) (by rw [List.length_reverse]; exact hown) (by rw [List.length_reverse]; omega)).any)
            have HPAi := hide (HPA.out.same HKi.out)
            have HKw := hide (tra HKr.out HKi.out)
            clear hown y1 f0
            obtain ⟨ap, cp, hvp, hnone, hpc, hads, hcs, hfls⟩ := HPAi.out
            have hpl := HPL.out
            have hpe : nv = ps.length ∧ av = ap ∧ cv = cp := by injection hvp with a b c; exact ⟨b, a, c⟩
            obtain ⟨rfl, rfl, rfl⟩ := hpe
            have hpl5 : ps.length ≤ 5 := by omega
            have HNN := hide (And.intro hnone (And.intro hads (And.intro hcs hfls)))
            have hO1 : ∀ x y, (wr.alloc (.cells #[x, y] 38)).ownsRow wr.heap.size 38 2 (.slice (some ⟨wr.heap.size, 0, none⟩) 1 1) 1 [x, y] := fun x y => own_one (heap_alloc_new wr _)
            have HO1 := hide (hO1 (.string ⟨t.name.toArray⟩) (.slice afi (t.fields.length - 0) cfi))
            clear hO1 hvp hnone hads hcs hfls hpl hpc
            go_wp2_with (at_builtin; refine wpList_append_all rfl (.tmp 49) (.tmp 50) 34 rfl wr.heap.size 38 t0 _ 2 40 Tryz.underlying34 ti tz0 tz1 tz2 rfl (by decide) _ _ _ rfl HO1.out av ps.length cv (tyCells ps) rfl ?z1 (tyCells_len ps) ?z2 (tyCells_1 HNN.out.2.2.2) ?z3 ?z4 ?z5 ?_)
            case z1 => exact HNN.out.1
            case z2 => exact fun ad e j u hj => ((Kept.refl (fun _ => False) wr).alloc _).cell (HNN.out.2.2.1 ad e j u hj) (fun f => f)
            case z3 => unfold maxLen; omega
            case z4 => omega
            case z5 => simp
            intro v7 w7 hown7 hgr7
            obtain ⟨g7, cap7, hv7⟩ := own_form hown7 (by omega)
            subst hv7
            have hcap7 : 1 + ps.length ≤ cap7 := by
              rcases hown7.2 with ⟨e, _⟩ | ⟨g', cap', cur, e, _, _, hc, _⟩
              · cases e
              · injection e with _ _ e3; rw [e3]; exact hc
            have hK7 : Same wr w7 := ((Kept.refl (fun _ => False) wr).alloc _).trans (grown_k hgr7) (fun k hk e => by have e2 : k = wr.heap.size := Option.some.inj e; omega)
            have HFIN := hide (show PairsAt w7 (.slice (some ⟨g7, 0, none⟩) (1 + ps.length) cap7) ((turnT t, .slice afi (t.fields.length - 0) cfi) :: ps) from
              ⟨some ⟨g7, 0, none⟩, cap7, by rw [List.length_cons, Nat.add_comm], (fun e => by cases e), by rw [List.length_cons]; omega, (fun ad e => by cases e; exact ⟨g7, 0, rfl⟩), (fun ad e j u hj => by cases e; exact World.ownsRow.cells hown7 (g := g7) rfl j u hj), fun p hp => by
                rcases List.mem_cons.1 hp with rfl | hp
                · exact HFN.out.same hK7
                · exact (HNN.out.2.2.2 p hp).same hK7⟩)
            have HKf := hide (tra HKw.out hK7)
            have HPLo := HPL.out
            clear hown7 hgr7 hK7 hcap7
            go_wp2_with fail
            go_roundg (G - 1)
            case measure => omega
            case rel => exact ⟨j + 1, _, by omega, by go_num, HKf, HFIN, by rw [Hid, List.map_cons, HTS.out, HPS.out], by rw [Hid, List.length_cons, HPLo], ⟨_, _, _, rfl⟩⟩
          · obtain ⟨n1, rfl⟩ : ∃ n1, n = n1 + 1 := ⟨n - 1, by omega⟩
            rw [show (((n1 + 1 : Nat) : Int) - 1) = (n1 : Int) from by omega]
            have hn1 : n1 < t.fields.length := by omega
            obtain ⟨bf, of, rfl, z0, z1, z2⟩ := (HFS.out.same HKi.out).at n1 hn1
            have HDR := hide (show fldCells (t.fields.drop n1).reverse = fldCells (t.fields.drop (n1 + 1)).reverse ++ fldC t.fields[n1] by
              rw [List.drop_eq_getElem_cons hn1, List.reverse_cons, fldCells_snoc])
            obtain ⟨f, hfe⟩ : ∃ f, f = t.fields[n1] := ⟨_, rfl⟩
            rw [← hfe] at z0 z1 z2 HDR
            clear hfe hn0
            have hc0a : ∀ o, (wr.alloc o).cell? ⟨wo.heap.size, 1, none⟩ = some (.slice afi (t.fields.length - (n1 + 1)) cfi) := fun o => ((Kept.refl (fun _ => False) wr).alloc o).cell d1 (fun f => f)
            have HOWN := hide hown
            have HKE := hide (fun (k : Nat) (hk : wo.heap.size + 1 ≤ k) (e : k = wo.heap.size) => show False by omega)
            go_wp2_with fail
            go_region_law (refine step_append_at rfl (.tmp 36) (.tmp 45) 36 rfl (wo.heap.size + 1) 40 i0 _ 3 40 Tryz.underlying36 hi hz0 hz1 hz2 rfl (by decide) (.slice afi (t.fields.length - (n1 + 1)) cfi) (t.fields.length - (n1 + 1)) (fldCells (t.fields.drop (n1 + 1)).reverse) (by first | (simp [Act.eval]; done) | (simp [Act.eval, Act.put]; done)) (by exact hown.alloc _) ⟨wr.heap.size, 0, none⟩ 1 1 (fldC f) (by first | (simp [Act.eval]; done) | (simp [Act.eval, Act.put]; done)) rfl (by exact new_cells3 wr _ _ _ _) (fldC_one f) (by unfold maxLen; omega) (by omega) (by first | (simp; done) | (simp; omega)) ?_; intro v5 w5 hown5 hgr5 _; obtain ⟨g5, cap5, hv5⟩ := own_form hown5 (by omega); subst hv5; have hG5 := blk_kept (blk_kept' HBi.out ((Kept.refl (fun _ => False) wr).alloc (.cells #[.string ⟨f.name.toArray⟩, .int .i64 f.kind, .string ⟨f.of.toArray⟩] 40))) (grown_k hgr5).unD (fun e => by have := (hown.lt _ e.symm).1; omega); obtain ⟨k0, k1⟩ := blk2 hG5; have l0 : ∀ o, w5.frozen? ⟨wo.heap.size, o, none⟩ = false := (fun o => by simp [World.frozen?, hG5]))
            all_goals
              have hXb : ∀ k, some k = (Value.slice afi (t.fields.length - (n1 + 1)) cfi).ownBlock → wo.heap.size + 1 ≤ k := fun k e => (HOWN.out.lt k e.symm).1
              have hKb : Kept (fun k => some k = (Value.slice afi (t.fields.length - (n1 + 1)) cfi).ownBlock) wr w5 := ((Kept.refl _ wr).alloc _).trans (grown_k hgr5).unD (fun _ _ e => e)
              have hS : Kept (· = wo.heap.size) w5 (w5.setCell ⟨wo.heap.size, 1, none⟩ (.slice (some ⟨g5, 0, none⟩) (t.fields.length - (n1 + 1) + 1) cap5)) := (Kept.refl _ w5).setB 1 _
              have HX := hide (And.intro (show Same wo (w5.setCell ⟨wo.heap.size, 1, none⟩ (.slice (some ⟨g5, 0, none⟩) (t.fields.length - (n1 + 1) + 1) cap5)) from (HKi.out.trans hKb (fun k hk e => by have := hXb k e; omega)).trans hS (fun k hk e => by omega))
                (And.intro (show (w5.setCell ⟨wo.heap.size, 1, none⟩ (.slice (some ⟨g5, 0, none⟩) (t.fields.length - (n1 + 1) + 1) cap5)).heap[wo.heap.size]? = some (.cells #[.string ⟨t.name.toArray⟩, .slice (some ⟨g5, 0, none⟩) (t.fields.length - (n1 + 1) + 1) cap5] 38 (0, 0)) by simp [World.setCell, Array.getElem?_modify, hG5])
                  (own_kept hown5 hS (fun k hk e => HKE.out k hk e))))
              clear hXb hKb hS hG5 hown5 hgr5 hown d0 d1 f0 y1 z0 z1 z2 hc0a
              go_wp2_with fail
              go_roundg (gk - 1)
              case measure => omega
              case rel =>
                refine ⟨n1, _, by omega, by omega, by omega, rfl, HX.out.1, HX.out.2.1, ?_⟩
                have := HX.out.2.2
                rw [HDR.out, show t.fields.length - n1 = t.fields.length - (n1 + 1) + 1 from by omega]
                exact this
      · have hjl : l.take j = l := List.take_of_length_le (by omega)
        have hps := HPS.out
        rw [hjl] at hps
        have hpl := HPL.out
        have htp := HPA.out.typs (by omega)
        rw [hps] at htp
        have HC2 := hide (HCK2.out wr _ htp)
        clear hjl hps hpl htp
        go_wp2_with fail
        refine HC2.out.mono ?_
        rintro e w3 ⟨rfl, hK3⟩
        go_wp2_with fail
        go_ret
        exact ⟨rfl, tra HKr.out hK3⟩
  · have hc1 : (c != 0) = true := by simp [hc0]
    clear hc hc0
    go_enter Tryz.func4, Tryz.ntmps4
    go_wp2_with fail
    refine (schemaBegun_any _ HT.out).mono ?_
    rintro e w1 ⟨rfl, hK1⟩
    go_wp2_with fail
    refine (HCK.out w1 hK1).mono ?_
    rintro e w2 ⟨rfl, hK2⟩
    go_wp2_with fail
    go_ret
    exact ⟨rfl, tra hK1 hK2⟩

end Go.Proofs.YtkkjchfhgjfclabGreatDoor

/- One start that fits: the listed variables as their initialisers lay them; what the list gives the walks. -/
namespace Go.Proofs.YtkkjchfhgjfclabGreatDoor
open Go.ChangeShapes Go.WideShapes Go.ChangeAt Go.RowKit

theorem own : ownKnob Tryz.prog.godebug = none := by kernel_rfl
theorem gTab : Tryz.prog.globalNamed "internal/strconv.uint64pow10" = some 1 := by kernel_rfl
theorem gTabType : (Tryz.prog.globals[1]?).map (·.type) = some 182 := by kernel_rfl
theorem cellsTab : Tryz.prog.cellsOf 182 = 20 := by kernel_rfl
theorem cellsU64 : Tryz.prog.cellsOf 168 = 1 := by kernel_rfl

/-- WHAT THE ROWS' LIST GIVES: strconv's table of powers. -/
theorem table {W : World} (h : laidMetH Tryz.prog Rows.queryBackRow.laid W) : Tab W :=
  Lib.tabIs_of_head (rest := _) gTab gTabType Tryz.underlying182 Tryz.underlying168 cellsU64 cellsTab (laidMet.tail (laidMet.tail h))

def tabCells : DataW Unit → Array Value
  | .agg l => (l.map fun d => match d with | .lit (.int k n) => Value.int k n | _ => Value.nilIface).toArray
  | _ => #[]
def textOf : DataW Unit → ByteArray
  | .iface _ (.ptr (.agg [.lit (.string b)])) => ⟨b.toArray⟩
  | _ => ⟨#[]⟩

/-- So many blocks has the settled world. -/
noncomputable def low : Nat := (World.holding Tryz.prog default ⟨#[], #[], []⟩).heap.size

/-- The settled world, the listed variables holding what their initialisers lay. -/
noncomputable def laidWorld (os : Os) : World :=
  let w0 := World.holding Tryz.prog os ⟨#[.cells #[.string (textOf Rows.laid_strconv_ErrRange)] 196, .cells #[.string (textOf Rows.laid_strconv_ErrSyntax)] 196], #[], []⟩
  let put (h : Array Obj) (g : Nat) (c : Array Value) : Array Obj := h.modify g fun
    | .cells _ t frozen => .cells c t frozen
    | o => o
  let h1 := put w0.heap 1 (tabCells Rows.laid_internal_strconv_uint64pow10)
  let h2 := put h1 4 (tabCells Rows.laid_math_bits_deBruijn32tab)
  let h3 := put h2 5 (tabCells Rows.laid_math_bits_deBruijn64tab)
  let h4 := put h3 3 #[.iface 194 (.pointer (some ⟨low, 0, none⟩))]
  let h5 := put h4 2 #[.iface 194 (.pointer (some ⟨low + 1, 0, none⟩))]
  { w0 with heap := h5 }

theorem laid_met (os : Os) (args : Array Value) : laidMet Tryz.prog Rows.queryBackRow.laid ((laidWorld os).forCall (fun _ _ => 0) ⟨#[], args, []⟩).memory :=
  laidMet_of_run' 8 (by kernel_rfl) (by kernel_rfl)

end Go.Proofs.YtkkjchfhgjfclabGreatDoor
