import Derived.Test.YtkkjchfhgjfclabGreatDoorSchematells29
import Derived.Test.YtkkjchfhgjfclabGreatDoorSchematells32
import Derived.Test.YtkkjchfhgjfclabGreatDoorSchematells39
import Derived.Test.YtkkjchfhgjfclabGreatDoorCards
import Derived.Test.YtkkjchfhgjfclabGreatDoorTie
import Derived.Test.YtkkjchfhgjfclabGreatDoorSchematells27
import Derived.ProofKit
import Derived.OpenShut
import Derived.SizedLaws
import Derived.Deep.DeepHandedRow
import Derived.Deep.DeepWitnessRowRef
import Derived.Lib.LaidTab
import Derived.Stop.LaidErr
/- SchemaTells: the walk of the law's function. -/
namespace Go.Proofs.YtkkjchfhgjfclabGreatDoor
open Go.RowKit

theorem bytes_of (b : ByteArray) (l : List UInt8) (h : b.data.toList = l) : b = ⟨l.toArray⟩ := by
  subst h
  cases b
  simp

theorem right_sc {l : List TypeT} (h : checkSc l = 0) : l.length ≤ 5 ∧ (∀ t ∈ l, t.fields.length ≤ 6) ∧ lexCheck (typeToks l) = 0 := by
  obtain ⟨⟨h1, h2⟩, h3, _⟩ := (checkSc_iff l).1 h
  have h6 : ∀ t ∈ l, t.fields.length ≤ 6 := fun t ht => (h3 t ht).2.2.2.1.2
  obtain ⟨m1, m2, m3⟩ := typeToks_max l h6
  exact ⟨h2, h6, by rw [lexCheck, if_neg (by omega), okT_check (okT_types h l h3)]⟩

set_option maxRecDepth 20000 in
set_option maxHeartbeats 3200000 in
theorem schemaTells_any (w : World) (s : ByteArray) (v : Value) (l : List TypeT) (ht : Tab w) (hv : TypSl anyB w v l) :
    Calls Tryz.prog 5 #[.string s, v] w fun e w' => e = .returned (.bool true) ∧ Same w w' := by
  have HT := hide ht
  have HV := hide hv
  obtain ⟨ao, cap, rfl, _, _⟩ := id hv
  clear ht hv
  obtain ⟨rl, ev, HRA, HRB⟩ : ∃ (rl : List TypeT) (ev : Int),
      Hid (∀ w1, Calls Tryz.prog 16 #[.string s] w1 fun e w' => ∃ a c, e = .returned (.tuple #[.slice a rl.length c, .int .i64 ev]) ∧ TypSl anyB w' (.slice a rl.length c) rl ∧ Same w1 w') ∧
      Hid (∀ w1, Calls Tryz.prog 18 #[.string s] w1 fun e w' => ∃ a c, e = .returned (.tuple #[.slice a rl.length c, .int .i64 ev]) ∧ TypSl anyB w' (.slice a rl.length c) rl ∧ Same w1 w') := by
    cases hr : readSc s.data.toList with
    | error n =>
      refine ⟨[], n, fun w1 => ?_, fun w1 => ?_⟩
      · refine (scRead_bad w1 s n hr).mono ?_
        rintro e w' ⟨rfl, hK, _⟩
        exact ⟨none, 0, rfl, TypSl.nil _ _, hK⟩
      · refine (schemaOf_any w1 s).mono ?_
        rintro e w' (⟨m, v, h1, _⟩ | ⟨n', h1, _, rfl, hK⟩)
        · rw [hr] at h1; cases h1
        · rw [hr] at h1
          cases h1
          exact ⟨none, 0, rfl, TypSl.nil _ _, hK⟩
    | ok m =>
      refine ⟨m, 0, fun w1 => ?_, fun w1 => ?_⟩
      · refine (scRead_ok w1 s m hr).mono ?_
        rintro e w' ⟨v, rfl, h2, hK⟩
        obtain ⟨a, c, rfl, _, _⟩ := id h2
        exact ⟨a, c, rfl, h2.mono (fun _ _ _ => trivial), hK⟩
      · refine (schemaOf_any w1 s).mono ?_
        rintro e w' (⟨m', v, h1, rfl, h2, hK⟩ | ⟨n', h1, _, _, _⟩)
        · rw [hr] at h1
          cases h1
          obtain ⟨a, c, rfl, _, _⟩ := id h2
          exact ⟨a, c, rfl, h2.mono (fun _ _ _ => trivial), hK⟩
        · rw [hr] at h1; cases h1
  obtain ⟨c, hc⟩ : ∃ c, checkSc l = c := ⟨_, rfl⟩
  obtain ⟨pb, hpb⟩ : ∃ pb : List UInt8, pb = if c = 0 then printSc l else [] := ⟨_, rfl⟩
  have HPR := hide (show ∀ w1, Same w w1 → Calls Tryz.prog 17 #[.slice ao l.length cap] w1 fun e w' => e = .returned (.tuple #[.string ⟨pb.toArray⟩, .int .i64 c]) ∧ Same w1 w' from fun w1 hk => by
    by_cases h0 : c = 0
    · rw [if_pos h0] at hpb
      rw [hpb, h0]
      exact scPrint_ok w1 _ l _ (HV.out.same hk) (tab_keep HT.out hk) (hc.trans h0)
    · rw [if_neg h0] at hpb
      rw [hpb]
      exact scPrint_bad w1 _ l _ (HV.out.same hk) (tab_keep HT.out hk) c hc h0)
  have HCK := hide (show ∀ w1, Same w w1 → Calls Tryz.prog 15 #[.slice ao l.length cap] w1 fun e w' => e = .returned (.int .i64 c) ∧ Same w1 w' from fun w1 hk => by
    have := scCheck_any w1 _ l _ (HV.out.same hk)
    rw [hc] at this
    exact this)
  have HRC := hide (show ∀ w1, Same w w1 → Calls Tryz.prog 19 #[.slice ao l.length cap] w1 fun e w' => e = .returned (.int .i64 c) ∧ Same w1 w' from fun w1 hk => by
    have := rCheckSc_any w1 _ l _ (HV.out.same hk)
    rw [hc] at this
    exact this)
  have HSB := hide (show c = 0 → ∀ w1, Same w w1 → Calls Tryz.prog 20 #[.slice ao l.length cap] w1 fun e w' => e = .returned (.string ⟨pb.toArray⟩) ∧ Same w1 w' from fun h0 w1 hk => by
    rw [if_pos h0] at hpb
    obtain ⟨g1, g2, g3⟩ := right_sc (hc.trans h0)
    refine (schemaBytes_any w1 _ l _ (HV.out.same hk) g1 g2 g3).mono ?_
    rintro e w' ⟨b, rfl, hb, hK⟩
    exact ⟨ret_str (by rw [bytes_of b _ hb, hpb]), hK⟩)
  have HP0 := hide (show c ≠ 0 → pb = [] from fun h0 => by rw [hpb, if_neg h0])
  clear hc hpb
  go_enter Tryz.func5, Tryz.ntmps5
  go_wp2_with fail
  refine (HRA.out _).mono ?_
  rintro e w1 ⟨a1, c1, rfl, hv1, hK1⟩
  have HV1 := hide hv1
  clear hv1
  go_wp2_with fail
  refine (HPR.out _ hK1).mono ?_
  rintro e w2 ⟨rfl, hK2⟩
  have hKb := tra hK1 hK2
  go_wp2_with fail
  refine (HRB.out _).mono ?_
  rintro e w3 ⟨a3, c3, rfl, hv3, hK3⟩
  have HV3 := hide hv3
  have hKc := tra hKb hK3
  clear hv3
  go_wp2_with fail
  refine (HRC.out _ hKc).mono ?_
  rintro e w4 ⟨rfl, hK4⟩
  have HKd := hide (tra hKc hK4)
  have HV1b := hide (HV1.out.same (tra (tra hK2 hK3) hK4))
  have HV3b := hide (HV3.out.same hK4)
  clear hK1 hK2 hK3 hK4 hKb hKc HV1 HV3
  by_cases hc0 : c = 0
  · subst hc0
    have HSC := hide (HSB.out rfl)
    clear HSB HP0
    go_wp2_with fail
    refine (HSC.out _ HKd.out).mono ?_
    rintro e w5 ⟨rfl, hK5⟩
    have HKe := hide (tra HKd.out hK5)
    go_wp2_with fail
    refine (schemaBegun_any _ (tab_keep HT.out HKe.out)).mono ?_
    rintro e w6 ⟨rfl, hK6⟩
    have HKf := hide (tra HKe.out hK6)
    go_wp2_with fail
    refine (HCK.out _ HKf.out).mono ?_
    rintro e w7 ⟨rfl, hK7⟩
    have HS := hide (sameTypes_eq w7 _ _ rl _ _ (HV1b.out.same (tra (tra hK5 hK6) hK7)) (HV3b.out.same (tra (tra hK5 hK6) hK7)))
    have HKg := hide (tra HKf.out hK7)
    clear hK5 hK6 hK7
    go_wp2_with fail
    refine HS.out.mono ?_
    rintro e w8 ⟨rfl, n8, rfl⟩
    go_wp2_with fail
    go_ret
    exact ⟨rfl, Kept.drewN HKg.out _⟩
  · have hcb : (c == 0) = false := by simp [hc0]
    have hpe := HP0.out hc0
    subst hpe
    clear hc0
    go_wp2_with fail
    refine (schemaBegun_any _ (tab_keep HT.out HKd.out)).mono ?_
    rintro e w6 ⟨rfl, hK6⟩
    have HKf := hide (tra HKd.out hK6)
    go_wp2_with fail
    refine (HCK.out _ HKf.out).mono ?_
    rintro e w7 ⟨rfl, hK7⟩
    have HS := hide (sameTypes_eq w7 _ _ rl _ _ (HV1b.out.same (tra hK6 hK7)) (HV3b.out.same (tra hK6 hK7)))
    have HKg := hide (tra HKf.out hK7)
    clear hK6 hK7
    go_wp2_with fail
    refine HS.out.mono ?_
    rintro e w8 ⟨rfl, n8, rfl⟩
    go_wp2_with fail
    go_ret
    exact ⟨rfl, Kept.drewN HKg.out _⟩

end Go.Proofs.YtkkjchfhgjfclabGreatDoor

/- One start that fits: the listed variables as their initialisers lay them; what the list gives the walks. -/
namespace Go.Proofs.YtkkjchfhgjfclabGreatDoor
open Go.ChangeShapes Go.WideShapes Go.ChangeAt Go.RowKit

theorem own : ownKnob Tryz.prog.godebug = none := by kernel_rfl
theorem gTab : Tryz.prog.globalNamed "internal/strconv.uint64pow10" = some 1 := by kernel_rfl
theorem gTabType : (Tryz.prog.globals[1]?).map (·.type) = some 182 := by kernel_rfl
theorem cellsTab : Tryz.prog.cellsOf 182 = 20 := by kernel_rfl
theorem cellsU64 : Tryz.prog.cellsOf 168 = 1 := by kernel_rfl

/-- WHAT THE ROWS' LIST GIVES: strconv's table of powers. -/
theorem table {W : World} (h : laidMetH Tryz.prog Rows.queryBackRow.laid W) : Tab W :=
  Lib.tabIs_of_head (rest := _) gTab gTabType Tryz.underlying182 Tryz.underlying168 cellsU64 cellsTab (laidMet.tail (laidMet.tail h))

def tabCells : DataW Unit → Array Value
  | .agg l => (l.map fun d => match d with | .lit (.int k n) => Value.int k n | _ => Value.nilIface).toArray
  | _ => #[]
def textOf : DataW Unit → ByteArray
  | .iface _ (.ptr (.agg [.lit (.string b)])) => ⟨b.toArray⟩
  | _ => ⟨#[]⟩

/-- So many blocks has the settled world. -/
noncomputable def low : Nat := (World.holding Tryz.prog default ⟨#[], #[], []⟩).heap.size

/-- The settled world, the listed variables holding what their initialisers lay. -/
noncomputable def laidWorld (os : Os) : World :=
  let w0 := World.holding Tryz.prog os ⟨#[.cells #[.string (textOf Rows.laid_strconv_ErrRange)] 196, .cells #[.string (textOf Rows.laid_strconv_ErrSyntax)] 196], #[], []⟩
  let put (h : Array Obj) (g : Nat) (c : Array Value) : Array Obj := h.modify g fun
    | .cells _ t frozen => .cells c t frozen
    | o => o
  let h1 := put w0.heap 1 (tabCells Rows.laid_internal_strconv_uint64pow10)
  let h2 := put h1 4 (tabCells Rows.laid_math_bits_deBruijn32tab)
  let h3 := put h2 5 (tabCells Rows.laid_math_bits_deBruijn64tab)
  let h4 := put h3 3 #[.iface 194 (.pointer (some ⟨low, 0, none⟩))]
  let h5 := put h4 2 #[.iface 194 (.pointer (some ⟨low + 1, 0, none⟩))]
  { w0 with heap := h5 }

theorem laid_met (os : Os) (args : Array Value) : laidMet Tryz.prog Rows.queryBackRow.laid ((laidWorld os).forCall (fun _ _ => 0) ⟨#[], args, []⟩).memory :=
  laidMet_of_run' 8 (by kernel_rfl) (by kernel_rfl)

end Go.Proofs.YtkkjchfhgjfclabGreatDoor
