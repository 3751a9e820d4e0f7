import Derived.Test.YtkkjchfhgjfclaaDoorLexback12
import Derived.Test.YtkkjchfhgjfclaaDoorLexback07
import Derived.Deep.Strs
import Derived.Carry
import Derived.Test.YtkkjchfhgjfclaaDoorCards
import Derived.Test.YtkkjchfhgjfclaaDoorTie
import Derived.Test.YtkkjchfhgjfclaaDoorLexback10
import Derived.ProofKit
import Derived.OpenShut
import Derived.SizedLaws
import Derived.Deep.DeepHandedRow
import Derived.Deep.DeepWitnessRowRef
import Derived.Lib.LaidTab
import Derived.Stop.LaidErr
/- LexBack: the walk. -/
namespace Go.Proofs.YtkkjchfhgjfclaaDoor
open Go.RowKit

theorem print_str (w : World) (v : Value) (l : List Tok) (h : TokSl w v l) (ht : Tab w) (hck : lexCheck l = 0) :
    Calls Tryd.prog 10 #[v] w fun e w' => ∃ b : ByteArray, e = .returned (.tuple #[.string b, .int .i64 0]) ∧ b.data.toList = printF l ∧ Same w w' :=
  (print_ok w v l h ht hck).mono fun e w' ⟨he, hk⟩ => ⟨_, he, by simp, hk⟩

set_option maxRecDepth 20000 in
set_option maxHeartbeats 3200000 in
theorem lexBack_any (w : World) (s : ByteArray) (v : Value) (l : List Tok) (ht : Tab w) (hv : TokSl w v l) :
    Calls Tryd.prog 5 #[.string s, v] w fun e w' => e = .returned (.bool true) ∧ Same w w' := by
  have hll : l.length ≤ 9000000000000 := by
    obtain ⟨_, _, _, h, _⟩ := hv
    exact h
  go_enter Tryd.func5, Tryd.ntmps5
  go_wp2_with fail
  refine (lexBegun_any _ ht).mono ?_
  rintro e w0 ⟨rfl, hK0⟩
  by_cases hck : lexCheck l = 0
  · have HC0 := hide hck
    clear hck
    go_wp2_with fail
    refine (print_str _ v l (hv.same hK0) (tab_keep ht hK0) HC0.out).mono ?_
    rintro e w1 ⟨b1, rfl, hb1, hK1⟩
    have HB1 := hide hb1
    have hz1 := size_toList b1
    rw [hb1] at hz1
    clear hb1
    by_cases hbig : b1.size ≤ 2000
    · have HP1 := hide (lexRead_print HC0.out (by omega))
      clear hz1
      go_wp2_with fail
      refine (read_ok _ b1 l (by rw [HB1.out]; exact HP1.out) hll).mono ?_
      rintro e w2 ⟨v2, rfl, hv2, hK2⟩
      have hs2 := sameTokens_any w2 v2 v l l hv2 (((hv.same hK0).same hK1).same hK2)
      rw [(sameT_iff _ _).2 rfl] at hs2
      have HS2 := hide hs2
      have hK' := tr (tr hK0 hK1) hK2
      clear hs2 hv2 hK0 hK1 hK2
      go_wp2_with fail
      refine HS2.out.mono ?_
      rintro e w3 ⟨rfl, n3, rfl⟩
      have hK := hK'.drewN n3
      clear hK' HS2
      cases h2 : lexRead s.data.toList with
      | error n =>
        have H2 := hide h2
        clear h2
        go_wp2_with fail
        refine (read_bad _ s n H2.out).mono ?_
        rintro e w7 ⟨rfl, hK7, hn⟩
        have hn1 : (n != 0) = true := by simp [hn]
        clear hn
        go_wp2_with fail
        go_ret
        exact ⟨rfl, tr hK hK7⟩
      | ok T =>
        have hT := lexRead_len h2
        have HC := hide (lexRead_right h2)
        have H2 := hide h2
        clear h2
        go_wp2_with fail
        refine (read_ok _ s T H2.out (by omega)).mono ?_
        rintro e w7 ⟨v7, rfl, hv7, hK7⟩
        go_wp2_with fail
        refine (print_str _ v7 T hv7 (tab_keep ht (tr hK hK7)) HC.out).mono ?_
        rintro e w8 ⟨b8, rfl, hb8, hK8⟩
        have HB8 := hide hb8
        have hz8 := size_toList b8
        rw [hb8] at hz8
        clear hb8
        by_cases hbig8 : b8.size ≤ 2000
        · have HP8 := hide (lexRead_print HC.out (by omega))
          clear hz8
          go_wp2_with fail
          refine (read_ok _ b8 T (by rw [HB8.out]; exact HP8.out) (by omega)).mono ?_
          rintro e w9 ⟨v9, rfl, hv9, hK9⟩
          have hs9 := sameTokens_any w9 v9 v7 T T hv9 ((hv7.same hK8).same hK9)
          rw [(sameT_iff _ _).2 rfl] at hs9
          have HS9 := hide hs9
          have hKL := tr (tr (tr hK hK7) hK8) hK9
          clear hs9 hv9 hv7 hK hK7 hK8 hK9
          go_wp2_with fail
          refine HS9.out.mono ?_
          rintro e wa ⟨rfl, na, rfl⟩
          go_wp2_with fail
          go_ret
          exact ⟨rfl, hKL.drewN _⟩
        · clear hz8
          go_wp2_with fail
          go_ret
          exact ⟨rfl, tr (tr hK hK7) hK8⟩
    · have hK := tr hK0 hK1
      clear hz1 hK0 hK1
      cases h2 : lexRead s.data.toList with
      | error n =>
        have H2 := hide h2
        clear h2
        go_wp2_with fail
        refine (read_bad _ s n H2.out).mono ?_
        rintro e w7 ⟨rfl, hK7, hn⟩
        have hn1 : (n != 0) = true := by simp [hn]
        clear hn
        go_wp2_with fail
        go_ret
        exact ⟨rfl, tr hK hK7⟩
      | ok T =>
        have hT := lexRead_len h2
        have HC := hide (lexRead_right h2)
        have H2 := hide h2
        clear h2
        go_wp2_with fail
        refine (read_ok _ s T H2.out (by omega)).mono ?_
        rintro e w7 ⟨v7, rfl, hv7, hK7⟩
        go_wp2_with fail
        refine (print_str _ v7 T hv7 (tab_keep ht (tr hK hK7)) HC.out).mono ?_
        rintro e w8 ⟨b8, rfl, hb8, hK8⟩
        have HB8 := hide hb8
        have hz8 := size_toList b8
        rw [hb8] at hz8
        clear hb8
        by_cases hbig8 : b8.size ≤ 2000
        · have HP8 := hide (lexRead_print HC.out (by omega))
          clear hz8
          go_wp2_with fail
          refine (read_ok _ b8 T (by rw [HB8.out]; exact HP8.out) (by omega)).mono ?_
          rintro e w9 ⟨v9, rfl, hv9, hK9⟩
          have hs9 := sameTokens_any w9 v9 v7 T T hv9 ((hv7.same hK8).same hK9)
          rw [(sameT_iff _ _).2 rfl] at hs9
          have HS9 := hide hs9
          have hKL := tr (tr (tr hK hK7) hK8) hK9
          clear hs9 hv9 hv7 hK hK7 hK8 hK9
          go_wp2_with fail
          refine HS9.out.mono ?_
          rintro e wa ⟨rfl, na, rfl⟩
          go_wp2_with fail
          go_ret
          exact ⟨rfl, hKL.drewN _⟩
        · clear hz8
          go_wp2_with fail
          go_ret
          exact ⟨rfl, tr (tr hK hK7) hK8⟩
  · have HK1 := hide (print_bad w0 v l (hv.same hK0) hck)
    have hno : (lexCheck l == 0) = false := by simp [hck]
    clear hck
    generalize lexCheck l = m0 at HK1 hno
    go_wp2_with fail
    refine HK1.out.mono ?_
    rintro e w1 ⟨rfl, hK1⟩
    have hK := tr hK0 hK1
    clear hK0 hK1 HK1
    cases h2 : lexRead s.data.toList with
    | error n =>
      have H2 := hide h2
      clear h2
      go_wp2_with fail
      refine (read_bad _ s n H2.out).mono ?_
      rintro e w7 ⟨rfl, hK7, hn⟩
      have hn1 : (n != 0) = true := by simp [hn]
      clear hn
      go_wp2_with fail
      go_ret
      exact ⟨rfl, tr hK hK7⟩
    | ok T =>
      have hT := lexRead_len h2
      have HC := hide (lexRead_right h2)
      have H2 := hide h2
      clear h2
      go_wp2_with fail
      refine (read_ok _ s T H2.out (by omega)).mono ?_
      rintro e w7 ⟨v7, rfl, hv7, hK7⟩
      go_wp2_with fail
      refine (print_str _ v7 T hv7 (tab_keep ht (tr hK hK7)) HC.out).mono ?_
      rintro e w8 ⟨b8, rfl, hb8, hK8⟩
      have HB8 := hide hb8
      have hz8 := size_toList b8
      rw [hb8] at hz8
      clear hb8
      by_cases hbig8 : b8.size ≤ 2000
      · have HP8 := hide (lexRead_print HC.out (by omega))
        clear hz8
        go_wp2_with fail
        refine (read_ok _ b8 T (by rw [HB8.out]; exact HP8.out) (by omega)).mono ?_
        rintro e w9 ⟨v9, rfl, hv9, hK9⟩
        have hs9 := sameTokens_any w9 v9 v7 T T hv9 ((hv7.same hK8).same hK9)
        rw [(sameT_iff _ _).2 rfl] at hs9
        have HS9 := hide hs9
        have hKL := tr (tr (tr hK hK7) hK8) hK9
        clear hs9 hv9 hv7 hK hK7 hK8 hK9
        go_wp2_with fail
        refine HS9.out.mono ?_
        rintro e wa ⟨rfl, na, rfl⟩
        go_wp2_with fail
        go_ret
        exact ⟨rfl, hKL.drewN _⟩
      · clear hz8
        go_wp2_with fail
        go_ret
        exact ⟨rfl, tr (tr hK hK7) hK8⟩

end Go.Proofs.YtkkjchfhgjfclaaDoor

/- Arguments that are slices of tokens: what the row's reading says of them. -/
namespace Go.Proofs.YtkkjchfhgjfclaaDoor
open Go.ChangeShapes Go.WideShapes Go.RowKit

theorem add_none (b off j : Nat) : ((⟨b, off, none⟩ : Addr).add j) = ⟨b, off + j, none⟩ := by
  unfold Addr.add
  split
  · rename_i h; rw [h]; rfl
  · rfl

set_option maxRecDepth 20000 in
/-- an argument's slice of tokens -/
theorem toks_of {H : Type} {enc : TypeId × Value → H} {W : World} {r : Reach} {b0 : Nat} {v : Value} {d : DataW H} {ps : List MemPlace} {sp : Nat → Bool} {held : Bool}
    (hval : Value.okWide Tryd.prog W r b0 22 v) (h : DataW.Trod enc Tryd.prog W 0 sp held 22 v d ps)
    (hsz : ∀ elems spare, d = .slice elems spare → (elems.length + spare.length) * Tryd.prog.bytesOf 41 ≤ reachBytes) : ∃ l, TokSl W v l := by
  obtain ⟨ao, len, cap, rfl⟩ := okWide_slice Tryd.underlying22 hval
  obtain ⟨fuel, hf⟩ := h
  have hcells : Tryd.prog.cellsOf 41 = 3 := by kernel_rfl
  have hbytes : Tryd.prog.bytesOf 41 = 32 := by kernel_rfl
  have hint : Tryd.prog.cellsOf 3 = 1 := by kernel_rfl
  have hstr : Tryd.prog.cellsOf 9 = 1 := by kernel_rfl
  rcases Deep.open_slice Tryd.underlying22 hf with ⟨hc, _⟩ | ⟨a, len', cap', m, n, D, Pl, hc, hb, hl, hm, hmm, hx, hall⟩
  · simp only [Value.cells, List.cons.injEq, Value.slice.injEq, and_true] at hc
    obtain ⟨rfl, rfl, rfl⟩ := hc
    exact ⟨[], TokSl.nil W⟩
  · simp only [Value.cells, List.cons.injEq, Value.slice.injEq, and_true] at hc
    obtain ⟨rfl, rfl, rfl⟩ := hc
    have hlm : len ≤ m := by rw [hmm]; split <;> omega
    rw [hcells] at hall
    have each : ∀ i, i < len → ∃ t : Tok, W.cell? (a.add (i * 3)) = some (.int .i64 t.k) ∧ W.cell? (a.add (i * 3 + 1)) = some (.string ⟨t.s.toArray⟩) ∧ W.cell? (a.add (i * 3 + 2)) = some (.int .i64 t.n) := by
      intro i hi
      obtain ⟨cs', h1, h2⟩ := hall i (by omega)
      obtain ⟨_, hlen, hcell⟩ := World.cells?_some h1
      obtain ⟨y0, y1, y2, k, _, _, g0, g1, g2⟩ := Deep.trod_struct3 Tryd.underlying41 h2
      match cs', hlen with
      | [v0, v1, v2], _ =>
        simp only [hint, hstr, List.drop_zero, List.drop_succ_cons, List.take_succ_cons, List.take_zero] at g0 g1 g2
        obtain ⟨z0, e0, _, _⟩ := DataW.trod_int Tryd.underlying3 g0
        obtain ⟨z1, e1, _, _⟩ := DataW.trod_string Tryd.underlying9 g1
        obtain ⟨z2, e2, _, _⟩ := DataW.trod_int Tryd.underlying3 g2
        simp only [List.cons.injEq, and_true] at e0 e1 e2
        subst e0 e1 e2
        have c0 := hcell 0 (by omega)
        have c1 := hcell 1 (by omega)
        have c2 := hcell 2 (by omega)
        rw [Deep.add_add] at c0 c1 c2
        exact ⟨⟨z0, z1.data.toList, z2⟩, by simpa using c0, by simpa using c1, by simpa using c2⟩
    have : Inhabited Tok := ⟨⟨0, [], 0⟩⟩
    obtain ⟨T, hT⟩ := Deep.choose_lt each
    have hlen : ((List.range len).map T).length = len := by simp
    have hle : len ≤ 9000000000000 := by
      have e := hsz _ _ (Prod.mk.inj hx).1
      rw [hbytes] at e
      simp only [List.length_map, List.length_range] at e
      have : reachBytes < 2 ^ 47 := by decide
      omega
    refine ⟨(List.range len).map T, some a, cap, by rw [hlen], by rw [hlen]; exact hle, ?_⟩
    intro i t ht
    obtain ⟨hi, ht⟩ := List.getElem?_eq_some_iff.1 ht
    rw [hlen] at hi
    simp only [List.getElem_map, List.getElem_range] at ht
    subst ht
    obtain ⟨c0, c1, c2⟩ := hT i hi
    obtain ⟨b, off, spot⟩ := a
    have hspot : spot = none := by
      have := World.cell?_spot (hT 0 (by omega)).1
      simpa [Addr.add] using this
    subst hspot
    rw [add_none] at c0 c1 c2
    exact ⟨b, off, rfl, c0, by rw [Nat.add_assoc]; exact c1, by rw [Nat.add_assoc]; exact c2⟩

end Go.Proofs.YtkkjchfhgjfclaaDoor

/- One start that fits: the listed variables as their initialisers lay them; what the list gives the walks. -/
namespace Go.Proofs.YtkkjchfhgjfclaaDoor
open Go.ChangeShapes Go.WideShapes Go.ChangeAt Go.RowKit

theorem own : ownKnob Tryd.prog.godebug = none := by kernel_rfl
theorem gTab : Tryd.prog.globalNamed "internal/strconv.uint64pow10" = some 0 := by kernel_rfl
theorem gTabType : (Tryd.prog.globals[0]?).map (·.type) = some 97 := by kernel_rfl
theorem cellsTab : Tryd.prog.cellsOf 97 = 20 := by kernel_rfl
theorem cellsU64 : Tryd.prog.cellsOf 84 = 1 := by kernel_rfl

/-- WHAT THE ROWS' LIST GIVES: strconv's table of powers. -/
theorem table {W : World} (h : laidMetH Tryd.prog Rows.lexPartsRow.laid W) : Tab W :=
  Lib.tabIs_of_head (rest := _) gTab gTabType Tryd.underlying97 Tryd.underlying84 cellsU64 cellsTab (laidMet.tail (laidMet.tail h))

def tabCells : DataW Unit → Array Value
  | .agg l => (l.map fun d => match d with | .lit (.int k n) => Value.int k n | _ => Value.nilIface).toArray
  | _ => #[]
def textOf : DataW Unit → ByteArray
  | .iface _ (.ptr (.agg [.lit (.string b)])) => ⟨b.toArray⟩
  | _ => ⟨#[]⟩

/-- So many blocks has the settled world. -/
noncomputable def low : Nat := (World.holding Tryd.prog default ⟨#[], #[], []⟩).heap.size

/-- The settled world, the listed variables holding what their initialisers lay. -/
noncomputable def laidWorld (os : Os) : World :=
  let w0 := World.holding Tryd.prog os ⟨#[.cells #[.string (textOf Rows.laid_strconv_ErrRange)] 111, .cells #[.string (textOf Rows.laid_strconv_ErrSyntax)] 111], #[], []⟩
  let put (h : Array Obj) (g : Nat) (c : Array Value) : Array Obj := h.modify g fun
    | .cells _ t frozen => .cells c t frozen
    | o => o
  let h1 := put w0.heap 0 (tabCells Rows.laid_internal_strconv_uint64pow10)
  let h2 := put h1 4 (tabCells Rows.laid_math_bits_deBruijn32tab)
  let h3 := put h2 5 (tabCells Rows.laid_math_bits_deBruijn64tab)
  let h4 := put h3 2 #[.iface 109 (.pointer (some ⟨low, 0, none⟩))]
  let h5 := put h4 1 #[.iface 109 (.pointer (some ⟨low + 1, 0, none⟩))]
  { w0 with heap := h5 }

theorem laid_met (os : Os) (args : Array Value) : laidMet Tryd.prog Rows.lexPartsRow.laid ((laidWorld os).forCall (fun _ _ => 0) ⟨#[], args, []⟩).memory :=
  laidMet_of_run' 8 (by kernel_rfl) (by kernel_rfl)

end Go.Proofs.YtkkjchfhgjfclaaDoor
