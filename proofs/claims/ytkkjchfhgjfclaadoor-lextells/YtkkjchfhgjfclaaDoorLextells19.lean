import Derived.Test.YtkkjchfhgjfclaaDoorLextells13
import Derived.Test.YtkkjchfhgjfclaaDoorLextells14
import Derived.Test.YtkkjchfhgjfclaaDoorLextells15
import Derived.Test.YtkkjchfhgjfclaaDoorLextells18
import Derived.Test.YtkkjchfhgjfclaaDoorLextells07
import Derived.Deep.Strs
import Derived.Carry
import Derived.Test.YtkkjchfhgjfclaaDoorCards
import Derived.Test.YtkkjchfhgjfclaaDoorTie
import Derived.Test.YtkkjchfhgjfclaaDoorLextells10
import Derived.ProofKit
import Derived.OpenShut
import Derived.SizedLaws
import Derived.Deep.DeepHandedRow
import Derived.Deep.DeepWitnessRowRef
import Derived.Lib.LaidTab
import Derived.Stop.LaidErr
/- LexTells: the walk. -/
namespace Go.Proofs.YtkkjchfhgjfclaaDoor
open Go.RowKit

theorem tokens_ok (w : World) (s : ByteArray) (T : List Tok) (h : lexRead s.data.toList = .ok T) (hT : T.length ≤ 9000000000000) :
    Calls Tryd.prog 11 #[.string s] w fun e w' => ∃ v, e = .returned (.tuple #[v, .int .i64 0]) ∧ TokSl w' v T ∧ Same w w' := by
  refine (tokensOf_any w s).mono ?_
  rintro e w' (⟨T', v, h1, rfl, h2, h3⟩ | ⟨n, h1, _, rfl, h3⟩)
  · rw [h] at h1
    cases h1
    exact ⟨v, rfl, own_toks h2 hT, h3⟩
  · rw [h] at h1; cases h1
theorem tokens_bad (w : World) (s : ByteArray) (n : Int) (h : lexRead s.data.toList = .error n) :
    Calls Tryd.prog 11 #[.string s] w fun e w' => e = .returned (.tuple #[.slice none 0 0, .int .i64 n]) ∧ Same w w' := by
  refine (tokensOf_any w s).mono ?_
  rintro e w' (⟨T', v, h1, rfl, h2, h3⟩ | ⟨n', h1, h2, rfl, h3⟩)
  · rw [h] at h1; cases h1
  · rw [h] at h1
    cases h1
    exact ⟨rfl, h3⟩

set_option maxRecDepth 20000 in
set_option maxHeartbeats 3200000 in
theorem lexTells_any (w : World) (s : ByteArray) (v : Value) (l : List Tok) (ht : Tab w) (hv : TokSl w v l) :
    Calls Tryd.prog 4 #[.string s, v] w fun e w' => e = .returned (.bool true) ∧ Same w w' := by
  by_cases hck : lexCheck l = 0
  · have HC := hide hck
    clear hck
    cases h1 : lexRead s.data.toList with
    | ok T =>
      have hT := lexRead_len h1
      have H1 := hide h1
      clear h1
      go_enter Tryd.func4, Tryd.ntmps4
      go_wp2_with fail
      refine (read_ok _ s T H1.out (by omega)).mono ?_
      rintro e w1 ⟨v1, rfl, hv1, hK1⟩
      go_wp2_with fail
      refine (print_str _ v l (hv.same hK1) (tab_keep ht hK1) HC.out).mono ?_
      rintro e w2 ⟨b2, rfl, hb2, hK2⟩
      have HB2 := hide hb2
      clear hb2
      have hK12 := tr hK1 hK2
      go_wp2_with fail
      refine (tokens_ok _ s T H1.out (by omega)).mono ?_
      rintro e w3 ⟨v3, rfl, hv3, hK3⟩
      have hK13 := tr hK12 hK3
      have hch := rCheck_any w3 v l (hv.same hK13)
      rw [HC.out] at hch
      have HCH := hide hch
      clear hch
      go_wp2_with fail
      refine HCH.out.mono ?_
      rintro e w4 ⟨rfl, hK4⟩
      have hK14 := tr hK13 hK4
      go_wp2_with fail
      refine (rBytes_any _ v l (hv.same hK14) HC.out).mono ?_
      rintro e w5 ⟨b5, rfl, hb5, hK5⟩
      obtain rfl : b5 = b2 := by
        apply ByteArray.ext
        exact Array.toList_inj.1 (by rw [hb5, HB2.out])
      clear hb5
      have hK15 := tr hK14 hK5
      go_wp2_with fail
      refine (lexBegun_any _ (tab_keep ht hK15)).mono ?_
      rintro e w6 ⟨rfl, hK6⟩
      have hK16 := tr hK15 hK6
      have hck := check_any w6 v l (hv.same hK16)
      rw [HC.out] at hck
      have HCK := hide hck
      clear hck
      go_wp2_with fail
      refine HCK.out.mono ?_
      rintro e w7 ⟨rfl, hK7⟩
      have hK17 := tr hK16 hK7
      have hs8 := sameTokens_any w7 v1 v3 T T ((((((hv1.same hK2).same hK3).same hK4).same hK5).same hK6).same hK7) ((((hv3.same hK4).same hK5).same hK6).same hK7)
      rw [(sameT_iff _ _).2 rfl] at hs8
      have HS8 := hide hs8
      clear hs8
      go_wp2_with fail
      refine HS8.out.mono ?_
      rintro e w8 ⟨rfl, n8, rfl⟩
      go_wp2_with fail
      go_ret
      exact ⟨rfl, hK17.drewN _⟩
    | error n =>
      have H1 := hide h1
      clear h1
      go_enter Tryd.func4, Tryd.ntmps4
      go_wp2_with fail
      refine (read_bad _ s n H1.out).mono ?_
      rintro e w1 ⟨rfl, hK1, hn⟩
      clear hn
      go_wp2_with fail
      refine (print_str _ v l (hv.same hK1) (tab_keep ht hK1) HC.out).mono ?_
      rintro e w2 ⟨b2, rfl, hb2, hK2⟩
      have HB2 := hide hb2
      clear hb2
      have hK12 := tr hK1 hK2
      go_wp2_with fail
      refine (tokens_bad _ s n H1.out).mono ?_
      rintro e w3 ⟨rfl, hK3⟩
      have hK13 := tr hK12 hK3
      have hch := rCheck_any w3 v l (hv.same hK13)
      rw [HC.out] at hch
      have HCH := hide hch
      clear hch
      go_wp2_with fail
      refine HCH.out.mono ?_
      rintro e w4 ⟨rfl, hK4⟩
      have hK14 := tr hK13 hK4
      go_wp2_with fail
      refine (rBytes_any _ v l (hv.same hK14) HC.out).mono ?_
      rintro e w5 ⟨b5, rfl, hb5, hK5⟩
      obtain rfl : b5 = b2 := by
        apply ByteArray.ext
        exact Array.toList_inj.1 (by rw [hb5, HB2.out])
      clear hb5
      have hK15 := tr hK14 hK5
      go_wp2_with fail
      refine (lexBegun_any _ (tab_keep ht hK15)).mono ?_
      rintro e w6 ⟨rfl, hK6⟩
      have hK16 := tr hK15 hK6
      have hck := check_any w6 v l (hv.same hK16)
      rw [HC.out] at hck
      have HCK := hide hck
      clear hck
      go_wp2_with fail
      refine HCK.out.mono ?_
      rintro e w7 ⟨rfl, hK7⟩
      have hK17 := tr hK16 hK7
      have hs8 := sameTokens_any w7 (.slice none 0 0) (.slice none 0 0) [] [] (TokSl.nil _) (TokSl.nil _)
      rw [(sameT_iff _ _).2 rfl] at hs8
      have HS8 := hide hs8
      clear hs8
      go_wp2_with fail
      refine HS8.out.mono ?_
      rintro e w8 ⟨rfl, n8, rfl⟩
      go_wp2_with fail
      go_ret
      exact ⟨rfl, hK17.drewN _⟩
  · have HC := hide hck
    clear hck
    cases h1 : lexRead s.data.toList with
    | ok T =>
      have hT := lexRead_len h1
      have H1 := hide h1
      clear h1
      go_enter Tryd.func4, Tryd.ntmps4
      go_wp2_with fail
      refine (read_ok _ s T H1.out (by omega)).mono ?_
      rintro e w1 ⟨v1, rfl, hv1, hK1⟩
      have HPB := hide (print_bad w1 v l (hv.same hK1) HC.out)
      have hm0 : (lexCheck l == 0) = false := by simp [HC.out]
      obtain ⟨m, hm⟩ : ∃ m, m = lexCheck l := ⟨_, rfl⟩
      have HM := hide hm
      rw [← hm] at HPB hm0
      clear hm
      go_wp2_with fail
      refine HPB.out.mono ?_
      rintro e w2 ⟨rfl, hK2⟩
      have hK12 := tr hK1 hK2
      go_wp2_with fail
      refine (tokens_ok _ s T H1.out (by omega)).mono ?_
      rintro e w3 ⟨v3, rfl, hv3, hK3⟩
      have hK13 := tr hK12 hK3
      have hch := rCheck_any w3 v l (hv.same hK13)
      rw [← HM.out] at hch
      have HCH := hide hch
      clear hch
      go_wp2_with fail
      refine HCH.out.mono ?_
      rintro e w4 ⟨rfl, hK4⟩
      have hK14 := tr hK13 hK4
      have hK15 := hK14
      go_wp2_with fail
      refine (lexBegun_any _ (tab_keep ht hK15)).mono ?_
      rintro e w6 ⟨rfl, hK6⟩
      have hK16 := tr hK15 hK6
      have hck := check_any w6 v l (hv.same hK16)
      rw [← HM.out] at hck
      have HCK := hide hck
      clear hck
      go_wp2_with fail
      refine HCK.out.mono ?_
      rintro e w7 ⟨rfl, hK7⟩
      have hK17 := tr hK16 hK7
      have hs8 := sameTokens_any w7 v1 v3 T T (((((hv1.same hK2).same hK3).same hK4).same hK6).same hK7) (((hv3.same hK4).same hK6).same hK7)
      rw [(sameT_iff _ _).2 rfl] at hs8
      have HS8 := hide hs8
      clear hs8
      go_wp2_with fail
      refine HS8.out.mono ?_
      rintro e w8 ⟨rfl, n8, rfl⟩
      go_wp2_with fail
      go_ret
      exact ⟨rfl, hK17.drewN _⟩
    | error n =>
      have H1 := hide h1
      clear h1
      go_enter Tryd.func4, Tryd.ntmps4
      go_wp2_with fail
      refine (read_bad _ s n H1.out).mono ?_
      rintro e w1 ⟨rfl, hK1, hn⟩
      clear hn
      have HPB := hide (print_bad w1 v l (hv.same hK1) HC.out)
      have hm0 : (lexCheck l == 0) = false := by simp [HC.out]
      obtain ⟨m, hm⟩ : ∃ m, m = lexCheck l := ⟨_, rfl⟩
      have HM := hide hm
      rw [← hm] at HPB hm0
      clear hm
      go_wp2_with fail
      refine HPB.out.mono ?_
      rintro e w2 ⟨rfl, hK2⟩
      have hK12 := tr hK1 hK2
      go_wp2_with fail
      refine (tokens_bad _ s n H1.out).mono ?_
      rintro e w3 ⟨rfl, hK3⟩
      have hK13 := tr hK12 hK3
      have hch := rCheck_any w3 v l (hv.same hK13)
      rw [← HM.out] at hch
      have HCH := hide hch
      clear hch
      go_wp2_with fail
      refine HCH.out.mono ?_
      rintro e w4 ⟨rfl, hK4⟩
      have hK14 := tr hK13 hK4
      have hK15 := hK14
      go_wp2_with fail
      refine (lexBegun_any _ (tab_keep ht hK15)).mono ?_
      rintro e w6 ⟨rfl, hK6⟩
      have hK16 := tr hK15 hK6
      have hck := check_any w6 v l (hv.same hK16)
      rw [← HM.out] at hck
      have HCK := hide hck
      clear hck
      go_wp2_with fail
      refine HCK.out.mono ?_
      rintro e w7 ⟨rfl, hK7⟩
      have hK17 := tr hK16 hK7
      have hs8 := sameTokens_any w7 (.slice none 0 0) (.slice none 0 0) [] [] (TokSl.nil _) (TokSl.nil _)
      rw [(sameT_iff _ _).2 rfl] at hs8
      have HS8 := hide hs8
      clear hs8
      go_wp2_with fail
      refine HS8.out.mono ?_
      rintro e w8 ⟨rfl, n8, rfl⟩
      go_wp2_with fail
      go_ret
      exact ⟨rfl, hK17.drewN _⟩

end Go.Proofs.YtkkjchfhgjfclaaDoor

/- Arguments that are slices of tokens: what the row's reading says of them. -/
namespace Go.Proofs.YtkkjchfhgjfclaaDoor
open Go.ChangeShapes Go.WideShapes Go.RowKit

theorem add_none (b off j : Nat) : ((⟨b, off, none⟩ : Addr).add j) = ⟨b, off + j, none⟩ := by
  unfold Addr.add
  split
  · rename_i h; rw [h]; rfl
  · rfl

set_option maxRecDepth 20000 in
/-- an argument's slice of tokens -/
theorem toks_of {H : Type} {enc : TypeId × Value → H} {W : World} {r : Reach} {b0 : Nat} {v : Value} {d : DataW H} {ps : List MemPlace} {sp : Nat → Bool} {held : Bool}
    (hval : Value.okWide Tryd.prog W r b0 22 v) (h : DataW.Trod enc Tryd.prog W 0 sp held 22 v d ps)
    (hsz : ∀ elems spare, d = .slice elems spare → (elems.length + spare.length) * Tryd.prog.bytesOf 41 ≤ reachBytes) : ∃ l, TokSl W v l := by
  obtain ⟨ao, len, cap, rfl⟩ := okWide_slice Tryd.underlying22 hval
  obtain ⟨fuel, hf⟩ := h
  have hcells : Tryd.prog.cellsOf 41 = 3 := by kernel_rfl
  have hbytes : Tryd.prog.bytesOf 41 = 32 := by kernel_rfl
  have hint : Tryd.prog.cellsOf 3 = 1 := by kernel_rfl
  have hstr : Tryd.prog.cellsOf 9 = 1 := by kernel_rfl
  rcases Deep.open_slice Tryd.underlying22 hf with ⟨hc, _⟩ | ⟨a, len', cap', m, n, D, Pl, hc, hb, hl, hm, hmm, hx, hall⟩
  · simp only [Value.cells, List.cons.injEq, Value.slice.injEq, and_true] at hc
    obtain ⟨rfl, rfl, rfl⟩ := hc
    exact ⟨[], TokSl.nil W⟩
  · simp only [Value.cells, List.cons.injEq, Value.slice.injEq, and_true] at hc
    obtain ⟨rfl, rfl, rfl⟩ := hc
    have hlm : len ≤ m := by rw [hmm]; split <;> omega
    rw [hcells] at hall
    have each : ∀ i, i < len → ∃ t : Tok, W.cell? (a.add (i * 3)) = some (.int .i64 t.k) ∧ W.cell? (a.add (i * 3 + 1)) = some (.string ⟨t.s.toArray⟩) ∧ W.cell? (a.add (i * 3 + 2)) = some (.int .i64 t.n) := by
      intro i hi
      obtain ⟨cs', h1, h2⟩ := hall i (by omega)
      obtain ⟨_, hlen, hcell⟩ := World.cells?_some h1
      obtain ⟨y0, y1, y2, k, _, _, g0, g1, g2⟩ := Deep.trod_struct3 Tryd.underlying41 h2
      match cs', hlen with
      | [v0, v1, v2], _ =>
        simp only [hint, hstr, List.drop_zero, List.drop_succ_cons, List.take_succ_cons, List.take_zero] at g0 g1 g2
        obtain ⟨z0, e0, _, _⟩ := DataW.trod_int Tryd.underlying3 g0
        obtain ⟨z1, e1, _, _⟩ := DataW.trod_string Tryd.underlying9 g1
        obtain ⟨z2, e2, _, _⟩ := DataW.trod_int Tryd.underlying3 g2
        simp only [List.cons.injEq, and_true] at e0 e1 e2
        subst e0 e1 e2
        have c0 := hcell 0 (by omega)
        have c1 := hcell 1 (by omega)
        have c2 := hcell 2 (by omega)
        rw [Deep.add_add] at c0 c1 c2
        exact ⟨⟨z0, z1.data.toList, z2⟩, by simpa using c0, by simpa using c1, by simpa using c2⟩
    have : Inhabited Tok := ⟨⟨0, [], 0⟩⟩
    obtain ⟨T, hT⟩ := Deep.choose_lt each
    have hlen : ((List.range len).map T).length = len := by simp
    have hle : len ≤ 9000000000000 := by
      have e := hsz _ _ (Prod.mk.inj hx).1
      rw [hbytes] at e
      simp only [List.length_map, List.length_range] at e
      have : reachBytes < 2 ^ 47 := by decide
      omega
    refine ⟨(List.range len).map T, some a, cap, by rw [hlen], by rw [hlen]; exact hle, ?_⟩
    intro i t ht
    obtain ⟨hi, ht⟩ := List.getElem?_eq_some_iff.1 ht
    rw [hlen] at hi
    simp only [List.getElem_map, List.getElem_range] at ht
    subst ht
    obtain ⟨c0, c1, c2⟩ := hT i hi
    obtain ⟨b, off, spot⟩ := a
    have hspot : spot = none := by
      have := World.cell?_spot (hT 0 (by omega)).1
      simpa [Addr.add] using this
    subst hspot
    rw [add_none] at c0 c1 c2
    exact ⟨b, off, rfl, c0, by rw [Nat.add_assoc]; exact c1, by rw [Nat.add_assoc]; exact c2⟩

end Go.Proofs.YtkkjchfhgjfclaaDoor

/- One start that fits: the listed variables as their initialisers lay them; what the list gives the walks. -/
namespace Go.Proofs.YtkkjchfhgjfclaaDoor
open Go.ChangeShapes Go.WideShapes Go.ChangeAt Go.RowKit

theorem own : ownKnob Tryd.prog.godebug = none := by kernel_rfl
theorem gTab : Tryd.prog.globalNamed "internal/strconv.uint64pow10" = some 0 := by kernel_rfl
theorem gTabType : (Tryd.prog.globals[0]?).map (·.type) = some 97 := by kernel_rfl
theorem cellsTab : Tryd.prog.cellsOf 97 = 20 := by kernel_rfl
theorem cellsU64 : Tryd.prog.cellsOf 84 = 1 := by kernel_rfl

/-- WHAT THE ROWS' LIST GIVES: strconv's table of powers. -/
theorem table {W : World} (h : laidMetH Tryd.prog Rows.lexPartsRow.laid W) : Tab W :=
  Lib.tabIs_of_head (rest := _) gTab gTabType Tryd.underlying97 Tryd.underlying84 cellsU64 cellsTab (laidMet.tail (laidMet.tail h))

def tabCells : DataW Unit → Array Value
  | .agg l => (l.map fun d => match d with | .lit (.int k n) => Value.int k n | _ => Value.nilIface).toArray
  | _ => #[]
def textOf : DataW Unit → ByteArray
  | .iface _ (.ptr (.agg [.lit (.string b)])) => ⟨b.toArray⟩
  | _ => ⟨#[]⟩

/-- So many blocks has the settled world. -/
noncomputable def low : Nat := (World.holding Tryd.prog default ⟨#[], #[], []⟩).heap.size

/-- The settled world, the listed variables holding what their initialisers lay. -/
noncomputable def laidWorld (os : Os) : World :=
  let w0 := World.holding Tryd.prog os ⟨#[.cells #[.string (textOf Rows.laid_strconv_ErrRange)] 111, .cells #[.string (textOf Rows.laid_strconv_ErrSyntax)] 111], #[], []⟩
  let put (h : Array Obj) (g : Nat) (c : Array Value) : Array Obj := h.modify g fun
    | .cells _ t frozen => .cells c t frozen
    | o => o
  let h1 := put w0.heap 0 (tabCells Rows.laid_internal_strconv_uint64pow10)
  let h2 := put h1 4 (tabCells Rows.laid_math_bits_deBruijn32tab)
  let h3 := put h2 5 (tabCells Rows.laid_math_bits_deBruijn64tab)
  let h4 := put h3 2 #[.iface 109 (.pointer (some ⟨low, 0, none⟩))]
  let h5 := put h4 1 #[.iface 109 (.pointer (some ⟨low + 1, 0, none⟩))]
  { w0 with heap := h5 }

theorem laid_met (os : Os) (args : Array Value) : laidMet Tryd.prog Rows.lexPartsRow.laid ((laidWorld os).forCall (fun _ _ => 0) ⟨#[], args, []⟩).memory :=
  laidMet_of_run' 8 (by kernel_rfl) (by kernel_rfl)

end Go.Proofs.YtkkjchfhgjfclaaDoor
