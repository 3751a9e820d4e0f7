import Derived.Test.YtkkjchfhgjfclaaDoorLexblank10
import Derived.Test.YtkkjchfhgjfclaaDoorLexblank11
import Derived.Test.YtkkjchfhgjfclaaDoorCards
import Derived.Test.YtkkjchfhgjfclaaDoorTie
import Derived.ProofKit
import Derived.OpenShut
import Derived.SizedLaws
import Derived.Deep.DeepHandedRow
import Derived.Deep.DeepWitnessRowRef
import Derived.Lib.LaidTab
import Derived.Stop.LaidErr
/- LexBlank: the walk. -/
namespace Go.Proofs.YtkkjchfhgjfclaaDoor
open Go.RowKit

theorem app_list (a b : ByteArray) : (a ++ b).data.toList = a.data.toList ++ b.data.toList := by simp

theorem tr {a b c : World} (h : Same a b) (k : Same b c) : Same a c := h.trans k (fun _ _ f => f.elim)

set_option maxRecDepth 20000 in
set_option maxHeartbeats 1600000 in
theorem lexBlank_any (w : World) (s c : ByteArray) (ht : Tab w) (hs : s.size ≤ 140737488351232) (hc : c.size ≤ 140737488351232) :
    Calls Tryd.prog 6 #[.string s, .string c] w fun e w' => e = .returned (.bool true) ∧ Same w w' := by
  go_enter Tryd.func6, Tryd.ntmps6
  go_wp2_with fail
  refine (lexBegun_any w ht).mono ?_
  rintro e w1 ⟨rfl, hK1⟩
  go_wp2_with fail
  go_loopg [5] c.size (fun g i wr => ∃ k : Nat, k + g = c.size ∧ i = .int .i64 k ∧ wr = w1 ∧ Hid (∀ j (h : j < k), ∃ h2 : j < c.size, c[j].toNat ≠ 10))
  case atStart => exact ⟨0, by omega, rfl, rfl, fun j h => absurd h (by omega)⟩
  case round =>
    obtain ⟨k, hk, rfl, rfl, HA⟩ := hrel
    by_cases hlt : k < c.size
    · by_cases h10 : c[k].toNat = 10
      · have h10' : ((c[k].toNat : Int) == 10) = true := by simp; omega
        go_wp2_with fail
        go_ret
        exact ⟨rfl, hK1⟩
      · have h10' : ((c[k].toNat : Int) == 10) = false := by simp; omega
        have H10 := hide h10
        clear h10
        go_wp2_with fail
        go_roundg (gk - 1)
        case measure => omega
        case rel =>
          refine ⟨k + 1, by omega, by go_num, rfl, fun j hj => ?_⟩
          by_cases e : j = k
          · subst e; exact ⟨hlt, H10.out⟩
          · exact HA.out j (by omega)
    · have hno : Hid (∀ x ∈ c.data.toList, x.toNat ≠ 10) := by
        intro x hx
        obtain ⟨j, hj, rfl⟩ := List.getElem_of_mem hx
        rw [size_toList] at hj
        exact (HA.out j (by omega)).2
      clear HA
      by_cases hbig : 2000 < s.size + c.size + 9
      · go_wp2_with fail
        go_ret
        exact ⟨rfl, hK1⟩
      · have hsum : s.size + c.size + 9 ≤ 2000 := by omega
        clear hbig
        have hsl := size_toList s
        have hcl := size_toList c
        have HA := hide (lexRead_ahead (s := s.data.toList) (c := c.data.toList) hno.out (by omega))
        have HB := hide (fun A => lexRead_behind (s := s.data.toList) (c := c.data.toList) (A := A) hno.out (by omega))
        clear hsl hcl
        cases hl : lexRead s.data.toList with
        | ok T =>
          have HL := hide hl
          have hT := lexRead_len hl
          clear hl
          go_wp2_with fail
          refine (read_ok _ s T HL.out (by omega)).mono ?_
          rintro e w2 ⟨v2, rfl, hv2, hK2⟩
          go_wp2_with fail
          refine (read_ok _ _ T (by rw [app_list, app_list, app_list]; exact HA.out.trans HL.out) (by omega)).mono ?_
          rintro e w3 ⟨v3, rfl, hv3, hK3⟩
          go_wp2_with fail
          refine (read_ok _ _ T (by rw [app_list, app_list]; exact HB.out T HL.out) (by omega)).mono ?_
          rintro e w4 ⟨v4, rfl, hv4, hK4⟩
          have hs1 := sameTokens_any w4 v2 v3 T T ((hv2.same hK3).same hK4) (hv3.same hK4)
          rw [(sameT_iff T T).2 rfl] at hs1
          have H1 := hide hs1
          have hs2 := fun n => sameTokens_any (w4.drewN n) v2 v4 T T ((hv2.same hK3).same (hK4.drewN n)) hv4
          rw [(sameT_iff T T).2 rfl] at hs2
          have H2 := hide hs2
          clear hs1 hs2
          go_wp2_with fail
          refine H1.out.mono ?_
          rintro e w5 ⟨rfl, n5, rfl⟩
          go_wp2_with fail
          refine (H2.out _).mono ?_
          rintro e w6 ⟨rfl, n6, rfl⟩
          go_wp2_with fail
          go_ret
          exact ⟨rfl, Kept.drewN (tr (tr (tr hK1 hK2) hK3) hK4) _⟩
        | error n =>
          have HL := hide hl
          clear hl
          go_wp2_with fail
          refine (read_bad _ s n HL.out).mono ?_
          rintro e w2 ⟨rfl, hK2, hn⟩
          have hn' : (n != 0) = true := by simp [hn]
          clear hn
          go_wp2_with fail
          refine (read_bad _ _ n (by rw [app_list, app_list, app_list]; exact HA.out.trans HL.out)).mono ?_
          rintro e w3 ⟨rfl, hK3, _⟩
          go_wp2_with fail
          refine (read_any _ _).mono ?_
          have hfin : ∀ w4, Same w3 w4 → Calls Tryd.prog 9 #[.slice none 0 0, .slice none 0 0] w4 fun e w' => e = .returned (.bool true) ∧ ∃ n, w' = w4.drewN n := by
            intro w4 _
            have := sameTokens_any w4 _ _ [] [] (TokSl.nil w4) (TokSl.nil w4)
            rw [(sameT_iff [] []).2 rfl] at this
            exact this
          have HF := hide hfin
          clear hfin
          rintro e w4 (⟨T', v4, h1, rfl, h2, hK4⟩ | ⟨n', h1, h2, rfl, hK4⟩)
          · obtain ⟨ao, cap, rfl⟩ := own_slice h2
            clear h1 h2
            go_wp2_with fail
            refine (HF.out w4 hK4).mono ?_
            rintro e w5 ⟨rfl, n5, rfl⟩
            go_wp2_with fail
            go_ret
            exact ⟨rfl, Kept.drewN (tr (tr (tr hK1 hK2) hK3) hK4) _⟩
          · clear h1 h2
            go_wp2_with fail
            refine (HF.out w4 hK4).mono ?_
            rintro e w5 ⟨rfl, n5, rfl⟩
            go_wp2_with fail
            go_ret
            exact ⟨rfl, Kept.drewN (tr (tr (tr hK1 hK2) hK3) hK4) _⟩

end Go.Proofs.YtkkjchfhgjfclaaDoor

/- One start that fits: the listed variables as their initialisers lay them; what the list gives the walks. -/
namespace Go.Proofs.YtkkjchfhgjfclaaDoor
open Go.ChangeShapes Go.WideShapes Go.ChangeAt Go.RowKit

theorem own : ownKnob Tryd.prog.godebug = none := by kernel_rfl
theorem gTab : Tryd.prog.globalNamed "internal/strconv.uint64pow10" = some 0 := by kernel_rfl
theorem gTabType : (Tryd.prog.globals[0]?).map (·.type) = some 97 := by kernel_rfl
theorem cellsTab : Tryd.prog.cellsOf 97 = 20 := by kernel_rfl
theorem cellsU64 : Tryd.prog.cellsOf 84 = 1 := by kernel_rfl

/-- WHAT THE ROWS' LIST GIVES: strconv's table of powers. -/
theorem table {W : World} (h : laidMetH Tryd.prog Rows.lexPartsRow.laid W) : Tab W :=
  Lib.tabIs_of_head (rest := _) gTab gTabType Tryd.underlying97 Tryd.underlying84 cellsU64 cellsTab (laidMet.tail (laidMet.tail h))

def tabCells : DataW Unit → Array Value
  | .agg l => (l.map fun d => match d with | .lit (.int k n) => Value.int k n | _ => Value.nilIface).toArray
  | _ => #[]
def textOf : DataW Unit → ByteArray
  | .iface _ (.ptr (.agg [.lit (.string b)])) => ⟨b.toArray⟩
  | _ => ⟨#[]⟩

/-- So many blocks has the settled world. -/
noncomputable def low : Nat := (World.holding Tryd.prog default ⟨#[], #[], []⟩).heap.size

/-- The settled world, the listed variables holding what their initialisers lay. -/
noncomputable def laidWorld (os : Os) : World :=
  let w0 := World.holding Tryd.prog os ⟨#[.cells #[.string (textOf Rows.laid_strconv_ErrRange)] 111, .cells #[.string (textOf Rows.laid_strconv_ErrSyntax)] 111], #[], []⟩
  let put (h : Array Obj) (g : Nat) (c : Array Value) : Array Obj := h.modify g fun
    | .cells _ t frozen => .cells c t frozen
    | o => o
  let h1 := put w0.heap 0 (tabCells Rows.laid_internal_strconv_uint64pow10)
  let h2 := put h1 4 (tabCells Rows.laid_math_bits_deBruijn32tab)
  let h3 := put h2 5 (tabCells Rows.laid_math_bits_deBruijn64tab)
  let h4 := put h3 2 #[.iface 109 (.pointer (some ⟨low, 0, none⟩))]
  let h5 := put h4 1 #[.iface 109 (.pointer (some ⟨low + 1, 0, none⟩))]
  { w0 with heap := h5 }

theorem laid_met (os : Os) (args : Array Value) : laidMet Tryd.prog Rows.lexPartsRow.laid ((laidWorld os).forCall (fun _ _ => 0) ⟨#[], args, []⟩).memory :=
  laidMet_of_run' 8 (by kernel_rfl) (by kernel_rfl)

end Go.Proofs.YtkkjchfhgjfclaaDoor
