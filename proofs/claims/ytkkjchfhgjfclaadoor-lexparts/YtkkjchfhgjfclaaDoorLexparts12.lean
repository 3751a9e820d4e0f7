import Derived.Test.YtkkjchfhgjfclaaDoorLexparts10
import Derived.Test.YtkkjchfhgjfclaaDoorLexparts11
import Derived.Test.YtkkjchfhgjfclaaDoorCards
import Derived.Test.YtkkjchfhgjfclaaDoorTie
import Derived.ProofKit
import Derived.OpenShut
import Derived.SizedLaws
import Derived.Deep.DeepHandedRow
import Derived.Deep.DeepWitnessRowRef
import Derived.Lib.LaidTab
import Derived.Stop.LaidErr
/- LexBlank: the walk. -/
namespace Go.Proofs.YtkkjchfhgjfclaaDoor
open Go.RowKit

theorem app_list (a b : ByteArray) : (a ++ b).data.toList = a.data.toList ++ b.data.toList := by simp

theorem tr {a b c : World} (h : Same a b) (k : Same b c) : Same a c := h.trans k (fun _ _ f => f.elim)

set_option maxRecDepth 20000 in
set_option maxHeartbeats 1600000 in
theorem lexBlank_any (w : World) (s c : ByteArray) (ht : Tab w) (hs : s.size ≤ 140737488351232) (hc : c.size ≤ 140737488351232) :
    Calls Tryd.prog 6 #[.string s, .string c] w fun e w' => e = .returned (.bool true) ∧ Same w w' := by
  go_enter Tryd.func6, Tryd.ntmps6
  go_wp2_with fail
  refine (lexBegun_any w ht).mono ?_
  rintro e w1 ⟨rfl, hK1⟩
  go_wp2_with fail
  go_loopg [5] c.size (fun g i wr => ∃ k : Nat, k + g = c.size ∧ i = .int .i64 k ∧ wr = w1 ∧ Hid (∀ j (h : j < k), ∃ h2 : j < c.size, c[j].toNat ≠ 10))
  case atStart => exact ⟨0, by omega, rfl, rfl, fun j h => absurd h (by omega)⟩
  case round =>
    obtain ⟨k, hk, rfl, rfl, HA⟩ := hrel
    by_cases hlt : k < c.size
    · by_cases h10 : c[k].toNat = 10
      · have h10' : ((c[k].toNat : Int) == 10) = true := by simp; omega
        go_wp2_with fail
        go_ret
        exact ⟨rfl, hK1⟩
      · have h10' : ((c[k].toNat : Int) == 10) = false := by simp; omega
        have H10 := hide h10
        clear h10
        go_wp2_with fail
        go_roundg (gk - 1)
        case measure => omega
        case rel =>
          refine ⟨k + 1, by omega, by go_num, rfl, fun j hj => ?_⟩
          by_cases e : j = k
          · subst e; exact ⟨hlt, H10.out⟩
          · exact HA.out j (by omega)
    · have hno : Hid (∀ x ∈ c.data.toList, x.toNat ≠ 10) := by
        intro x hx
        obtain ⟨j, hj, rfl⟩ := List.getElem_of_mem hx
        rw [size_toList] at hj
        exact (HA.out j (by omega)).2
      clear HA
      by_cases hbig : 2000 < s.size + c.size + 9
      · go_wp2_with fail
        go_ret
        exact ⟨rfl, hK1⟩
      · have hsum : s.size + c.size + 9 ≤ 2000 := by omega
        clear hbig
        have hsl := size_toList s
        have hcl := size_toList c
        have HA := hide (lexRead_ahead (s := s.data.toList) (c := c.data.toList) hno.out (by omega))
        have HB := hide (fun A => lexRead_behind (s := s.data.toList) (c := c.data.toList) (A := A) hno.out (by omega))
        clear hsl hcl
        cases hl : lexRead s.data.toList with
        | ok T =>
          have HL := hide hl
          have hT := lexRead_len hl
          clear hl
          go_wp2_with fail
          refine (read_ok _ s T HL.out (by omega)).mono ?_
          rintro e w2 ⟨v2, rfl, hv2, hK2⟩
          go_wp2_with fail
          refine (read_ok _ _ T (by rw [app_list, app_list, app_list]; exact HA.out.trans HL.out) (by omega)).mono ?_
          rintro e w3 ⟨v3, rfl, hv3, hK3⟩
          go_wp2_with fail
          refine (read_ok _ _ T (by rw [app_list, app_list]; exact HB.out T HL.out) (by omega)).mono ?_
          rintro e w4 ⟨v4, rfl, hv4, hK4⟩
          have hs1 := sameTokens_any w4 v2 v3 T T ((hv2.same hK3).same hK4) (hv3.same hK4)
          rw [(sameT_iff T T).2 rfl] at hs1
          have H1 := hide hs1
          have hs2 := fun n => sameTokens_any (w4.drewN n) v2 v4 T T ((hv2.same hK3).same (hK4.drewN n)) hv4
          rw [(sameT_iff T T).2 rfl] at hs2
          have H2 := hide hs2
          clear hs1 hs2
          go_wp2_with fail
          refine H1.out.mono ?_
          rintro e w5 ⟨rfl, n5, rfl⟩
          go_wp2_with fail
          refine (H2.out _).mono ?_
          rintro e w6 ⟨rfl, n6, rfl⟩
          go_wp2_with fail
          go_ret
          exact ⟨rfl, Kept.drewN (tr (tr (tr hK1 hK2) hK3) hK4) _⟩
        | error n =>
          have HL := hide hl
          clear hl
          go_wp2_with fail
          refine (read_bad _ s n HL.out).mono ?_
          rintro e w2 ⟨rfl, hK2, hn⟩
          have hn' : (n != 0) = true := by simp [hn]
          clear hn
          go_wp2_with fail
          refine (read_bad _ _ n (by rw [app_list, app_list, app_list]; exact HA.out.trans HL.out)).mono ?_
          rintro e w3 ⟨rfl, hK3, _⟩
          go_wp2_with fail
          refine (read_any _ _).mono ?_
          have hfin : ∀ w4, Same w3 w4 → Calls Tryd.prog 9 #[.slice none 0 0, .slice none 0 0] w4 fun e w' => e = .returned (.bool true) ∧ ∃ n, w' = w4.drewN n := by
            intro w4 _
            have := sameTokens_any w4 _ _ [] [] (TokSl.nil w4) (TokSl.nil w4)
            rw [(sameT_iff [] []).2 rfl] at this
            exact this
          have HF := hide hfin
          clear hfin
          rintro e w4 (⟨T', v4, h1, rfl, h2, hK4⟩ | ⟨n', h1, h2, rfl, hK4⟩)
          · obtain ⟨ao, cap, rfl⟩ := own_slice h2
            clear h1 h2
            go_wp2_with fail
            refine (HF.out w4 hK4).mono ?_
            rintro e w5 ⟨rfl, n5, rfl⟩
            go_wp2_with fail
            go_ret
            exact ⟨rfl, Kept.drewN (tr (tr (tr hK1 hK2) hK3) hK4) _⟩
          · clear h1 h2
            go_wp2_with fail
            refine (HF.out w4 hK4).mono ?_
            rintro e w5 ⟨rfl, n5, rfl⟩
            go_wp2_with fail
            go_ret
            exact ⟨rfl, Kept.drewN (tr (tr (tr hK1 hK2) hK3) hK4) _⟩

end Go.Proofs.YtkkjchfhgjfclaaDoor

/- LexParts: the walk. -/
namespace Go.Proofs.YtkkjchfhgjfclaaDoor
open Go.RowKit

/-- Read of a text that is right: a row of the call's own. -/
theorem read_own (w : World) (s : ByteArray) (T : List Tok) (h : lexRead s.data.toList = .ok T) :
    Calls Tryd.prog 7 #[.string s] w fun e w' => ∃ v, e = .returned (.tuple #[v, .int .i64 0]) ∧ w'.ownsRow w.heap.size 41 3 v T.length (tokCells T) ∧ Same w w' := by
  refine (read_any w s).mono ?_
  rintro e w' (⟨T', v, h1, rfl, h2, h3⟩ | ⟨n, h1, _, rfl, h3⟩)
  · rw [h] at h1
    cases h1
    exact ⟨v, rfl, h2, h3⟩
  · rw [h] at h1; cases h1

theorem tokCells_one (l : List Tok) : ∀ u ∈ tokCells l, u.oneCell' = true := by
  intro u hu
  obtain ⟨t, _, h⟩ := List.mem_flatMap.1 hu
  exact tokC_one t u h
theorem tokCells_len (l : List Tok) : (tokCells l).length = l.length * 3 := by
  induction l with
  | nil => rfl
  | cons t r ih => simp [tokCells, tokC] at *; omega

theorem own_none {w : World} {base : Nat} {e : TypeId} {size : Nat} {ao : Option Addr} {n cap : Nat} {xs : List Value} (h : w.ownsRow base e size (.slice ao n cap) n xs) : ao = none → n = 0 ∧ cap = 0 := by
  intro h0
  subst h0
  rcases h.2 with ⟨hv, _⟩ | ⟨g, cap, cur, hv, _⟩
  · cases hv; exact ⟨rfl, rfl⟩
  · cases hv
theorem own_news {w : World} {base : Nat} {e : TypeId} {size : Nat} {ao : Option Addr} {n cap : Nat} {xs : List Value} (h : w.ownsRow base e size (.slice ao n cap) n xs) : ∀ ad, ao = some ad → ∀ j u, xs[j]? = some u → w.cell? (ad.add j) = some u := by
  intro ad h0
  subst h0
  have hf := h
  rcases h.2 with ⟨hv, _⟩ | ⟨g, cap', cur, hv, _⟩
  · cases hv
  · cases hv
    exact hf.cells (g := g) rfl

set_option maxRecDepth 20000 in
set_option maxHeartbeats 3200000 in
theorem lexParts_any (w : World) (s t : ByteArray) (ht : Tab w) (hs : s.size ≤ 140737488351232) (hc : t.size ≤ 140737488351232) :
    Calls Tryd.prog 3 #[.string s, .string t] w fun e w' => e = .returned (.bool true) ∧ Same w w' := by
  have hsl := size_toList s
  have htl := size_toList t
  obtain ⟨i0, hi, hz0, hz1, hz2⟩ := info_parts info39
  cases h1 : lexRead s.data.toList with
  | error n =>
    have H1 := hide h1
    clear h1
    go_enter Tryd.func3, Tryd.ntmps3
    go_wp2_with fail
    refine (read_bad _ s n H1.out).mono ?_
    rintro e w1 ⟨rfl, hK1, hn⟩
    have hn1 : (n != 0) = true := by simp [hn]
    have hn2 : (n == 0) = false := by simp [hn]
    clear hn
    cases h2 : lexRead t.data.toList with
    | error m =>
      have H2 := hide h2
      clear h2
      go_wp2_with fail
      refine (read_bad _ t m H2.out).mono ?_
      rintro e w2 ⟨rfl, hK2, hm⟩
      have hm1 : (m != 0) = true := by simp [hm]
      have hm2 : (m == 0) = false := by simp [hm]
      clear hm
      go_wp2_with fail
      refine (lexBegun_any _ (tab_keep (tab_keep ht hK1) hK2)).mono ?_
      rintro e w3 ⟨rfl, hK3⟩
      go_wp2_with fail
      go_ret
      exact ⟨rfl, tr (tr hK1 hK2) hK3⟩
    | ok B =>
      have H2 := hide h2
      clear h2
      go_wp2_with fail
      refine (read_own _ t B H2.out).mono ?_
      rintro e w2 ⟨v2, rfl, hv2, hK2⟩
      go_wp2_with fail
      refine (lexBegun_any _ (tab_keep (tab_keep ht hK1) hK2)).mono ?_
      rintro e w3 ⟨rfl, hK3⟩
      go_wp2_with fail
      go_ret
      exact ⟨rfl, tr (tr hK1 hK2) hK3⟩
  | ok A =>
    have H1 := hide h1
    have hA := lexRead_len h1
    clear h1
    go_enter Tryd.func3, Tryd.ntmps3
    go_wp2_with fail
    refine (read_own _ s A H1.out).mono ?_
    rintro e w1 ⟨v1, rfl, hv1, hK1⟩
    cases h2 : lexRead t.data.toList with
    | error m =>
      have H2 := hide h2
      clear h2
      go_wp2_with fail
      refine (read_bad _ t m H2.out).mono ?_
      rintro e w2 ⟨rfl, hK2, hm⟩
      have hm1 : (m != 0) = true := by simp [hm]
      have hm2 : (m == 0) = false := by simp [hm]
      clear hm
      go_wp2_with fail
      refine (lexBegun_any _ (tab_keep (tab_keep ht hK1) hK2)).mono ?_
      rintro e w3 ⟨rfl, hK3⟩
      go_wp2_with fail
      go_ret
      exact ⟨rfl, tr (tr hK1 hK2) hK3⟩
    | ok B =>
      have H2 := hide h2
      have hB := lexRead_len h2
      clear h2
      go_wp2_with fail
      refine (read_own _ t B H2.out).mono ?_
      rintro e w2 ⟨v2, rfl, hv2, hK2⟩
      go_wp2_with fail
      refine (lexBegun_any _ (tab_keep (tab_keep ht hK1) hK2)).mono ?_
      rintro e w3 ⟨rfl, hK3⟩
      obtain ⟨a1, c1, e1⟩ := own_slice hv1
      obtain ⟨a2, c2, e2⟩ := own_slice hv2
      subst e1 e2
      by_cases hbig : 2000 < s.size + t.size + 1
      · go_wp2_with fail
        go_ret
        exact ⟨rfl, tr (tr hK1 hK2) hK3⟩
      · by_cases hmany : 300 < A.length + B.length
        · have hsum : s.size + t.size + 1 ≤ 2000 := by omega
          clear hbig
          go_wp2_with fail
          go_ret
          exact ⟨rfl, tr (tr hK1 hK2) hK3⟩
        · have hsum : s.size + t.size + 1 ≤ 2000 := by omega
          have hnum : A.length + B.length ≤ 300 := by omega
          have HP := hide (lexRead_parts H1.out H2.out (by omega) hnum)
          have hv13 := own_kept (own_kept hv1 hK2 (fun _ _ f => f)) hK3 (fun _ _ f => f)
          have hv23 := own_kept hv2 hK3 (fun _ _ f => f)
          have hKK := tr (tr hK1 hK2) hK3
          clear hbig hmany hv1 hv2 hK1 hK2 hK3
          go_wp2_with fail
          refine (read_own _ _ (A ++ B) (by rw [app_list, app_list]; simpa using HP.out)).mono ?_
          rintro e w4 ⟨v4, rfl, hv4, hK4⟩
          have hv14 := own_kept hv13 hK4 (fun _ _ f => f)
          have hv24 := own_kept hv23 hK4 (fun _ _ f => f)
          have hT4 := own_toks hv4 (by rw [List.length_append]; omega)
          have hK5 := tr hKK hK4
          clear hv13 hv23 hKK hK4 hv4
          have hd0 : (w4.alloc (.cells #[] 41)).ownsRow w4.heap.size 41 3 (.slice (some ⟨w4.heap.size, 0, none⟩) 0 0) 0 [] := World.ownsRow_made w4 #[] 0 (Nat.le_refl _) (by decide) rfl
          have hsz5 : w4.heap.size ≤ (w4.alloc (.cells #[] 41)).heap.size := by simp
          have hn1 := own_none hv14
          have hw1 := own_news (hv14.alloc (.cells #[] 41))
          have HN := hide (And.intro hn1 hw1)
          clear hn1 hw1
          go_wp2_with (at_builtin; refine wpList_append_all rfl (.tmp 74) (.tmp 75) 22 rfl w4.heap.size 41 i0 _ 3 32 Tryd.underlying22 hi hz0 hz1 hz2 rfl (by decide) _ _ _ rfl hd0 a1 A.length c1 (tokCells A) rfl HN.out.1 (tokCells_len A) HN.out.2 (tokCells_one A) ?x1 ?x2 hsz5 ?_)
          case x1 => unfold maxLen; omega
          case x2 => omega
          intro v5 w5 hown5 hgr5
          have hS5 : Same w4 w5 := ((Kept.refl _ w4).alloc _).grown hgr5 (fun k hk hlt => by have e : w4.heap.size = k := Option.some.inj hk; omega)
          have hv25 := own_kept hv24 hS5 (fun _ _ f => f)
          have hsz6 : w4.heap.size ≤ w5.heap.size := hS5.size
          obtain ⟨a5, c5, e5⟩ := own_slice hown5
          subst e5
          have HN2 := hide (And.intro (own_none hv25) (own_news hv25))
          clear hgr5 hv24 hd0 HN hv14
          go_wp2_with (at_builtin; refine wpList_append_all rfl (.tmp 76) (.tmp 77) 22 rfl w4.heap.size 41 i0 _ 3 32 Tryd.underlying22 hi hz0 hz1 hz2 rfl (by decide) _ _ _ rfl hown5 a2 B.length c2 (tokCells B) rfl HN2.out.1 (tokCells_len B) HN2.out.2 (tokCells_one B) ?y1 ?y2 hsz6 ?_)
          case y1 => unfold maxLen; omega
          case y2 => omega
          intro v6 w6 hown6 hgr6
          have hS6 : Same w4 w6 := hS5.grown hgr6 (fun k hk hlt => by have := own_row hown5 k hk; omega)
          have hT6 := hT4.same hS6
          have hTv : TokSl w6 v6 (A ++ B) := by
            refine own_toks (base := w4.heap.size) ?_ (by rw [List.length_append]; omega)
            rw [List.length_append, show tokCells (A ++ B) = tokCells A ++ tokCells B from List.flatMap_append]
            exact hown6
          have hs6 := sameTokens_any w6 v4 v6 _ _ hT6 hTv
          rw [(sameT_iff _ _).2 rfl] at hs6
          have HS := hide hs6
          have hK7 := tr hK5 hS6
          clear hs6 hT6 hTv hT4 hown6 hgr6 hown5 hS5 hK5
          go_wp2_with fail
          refine HS.out.mono ?_
          rintro e w7 ⟨rfl, n7, rfl⟩
          go_wp2_with fail
          go_ret
          exact ⟨rfl, hK7.drewN _⟩

end Go.Proofs.YtkkjchfhgjfclaaDoor

/- One start that fits: the listed variables as their initialisers lay them; what the list gives the walks. -/
namespace Go.Proofs.YtkkjchfhgjfclaaDoor
open Go.ChangeShapes Go.WideShapes Go.ChangeAt Go.RowKit

theorem own : ownKnob Tryd.prog.godebug = none := by kernel_rfl
theorem gTab : Tryd.prog.globalNamed "internal/strconv.uint64pow10" = some 0 := by kernel_rfl
theorem gTabType : (Tryd.prog.globals[0]?).map (·.type) = some 97 := by kernel_rfl
theorem cellsTab : Tryd.prog.cellsOf 97 = 20 := by kernel_rfl
theorem cellsU64 : Tryd.prog.cellsOf 84 = 1 := by kernel_rfl

/-- WHAT THE ROWS' LIST GIVES: strconv's table of powers. -/
theorem table {W : World} (h : laidMetH Tryd.prog Rows.lexPartsRow.laid W) : Tab W :=
  Lib.tabIs_of_head (rest := _) gTab gTabType Tryd.underlying97 Tryd.underlying84 cellsU64 cellsTab (laidMet.tail (laidMet.tail h))

def tabCells : DataW Unit → Array Value
  | .agg l => (l.map fun d => match d with | .lit (.int k n) => Value.int k n | _ => Value.nilIface).toArray
  | _ => #[]
def textOf : DataW Unit → ByteArray
  | .iface _ (.ptr (.agg [.lit (.string b)])) => ⟨b.toArray⟩
  | _ => ⟨#[]⟩

/-- So many blocks has the settled world. -/
noncomputable def low : Nat := (World.holding Tryd.prog default ⟨#[], #[], []⟩).heap.size

/-- The settled world, the listed variables holding what their initialisers lay. -/
noncomputable def laidWorld (os : Os) : World :=
  let w0 := World.holding Tryd.prog os ⟨#[.cells #[.string (textOf Rows.laid_strconv_ErrRange)] 111, .cells #[.string (textOf Rows.laid_strconv_ErrSyntax)] 111], #[], []⟩
  let put (h : Array Obj) (g : Nat) (c : Array Value) : Array Obj := h.modify g fun
    | .cells _ t frozen => .cells c t frozen
    | o => o
  let h1 := put w0.heap 0 (tabCells Rows.laid_internal_strconv_uint64pow10)
  let h2 := put h1 4 (tabCells Rows.laid_math_bits_deBruijn32tab)
  let h3 := put h2 5 (tabCells Rows.laid_math_bits_deBruijn64tab)
  let h4 := put h3 2 #[.iface 109 (.pointer (some ⟨low, 0, none⟩))]
  let h5 := put h4 1 #[.iface 109 (.pointer (some ⟨low + 1, 0, none⟩))]
  { w0 with heap := h5 }

theorem laid_met (os : Os) (args : Array Value) : laidMet Tryd.prog Rows.lexPartsRow.laid ((laidWorld os).forCall (fun _ _ => 0) ⟨#[], args, []⟩).memory :=
  laidMet_of_run' 8 (by kernel_rfl) (by kernel_rfl)

end Go.Proofs.YtkkjchfhgjfclaaDoor
