/- LexBack: the walk. -/
import Derived.Test.YthbnhnnafkkpkaaDoorLawBlank
import Derived.Test.YthbnhnnafkkpkaaDoorLexR
namespace Go.Proofs.YthbnhnnafkkpkaaDoor
open Go.RowKit

theorem print_str (w : World) (v : Value) (l : List Tok) (h : TokSl w v l) (ht : Tab w) (hck : lexCheck l = 0) :
    Calls Tryd.prog 10 #[v] w fun e w' => ∃ b : ByteArray, e = .returned (.tuple #[.string b, .int .i64 0]) ∧ b.data.toList = printF l ∧ Same w w' :=
  (print_ok w v l h ht hck).mono fun e w' ⟨he, hk⟩ => ⟨_, he, by simp, hk⟩

set_option maxRecDepth 20000 in
set_option maxHeartbeats 3200000 in
theorem lexBack_any (w : World) (s : ByteArray) (v : Value) (l : List Tok) (ht : Tab w) (hv : TokSl w v l) :
    Calls Tryd.prog 5 #[.string s, v] w fun e w' => e = .returned (.bool true) ∧ Same w w' := by
  have hll : l.length ≤ 9000000000000 := by
    obtain ⟨_, _, _, h, _⟩ := hv
    exact h
  go_enter Tryd.func5, Tryd.ntmps5
  go_wp2_with fail
  refine (lexBegun_any _ ht).mono ?_
  rintro e w0 ⟨rfl, hK0⟩
  by_cases hck : lexCheck l = 0
  · have HC0 := hide hck
    clear hck
    go_wp2_with fail
    refine (print_str _ v l (hv.same hK0) (tab_keep ht hK0) HC0.out).mono ?_
    rintro e w1 ⟨b1, rfl, hb1, hK1⟩
    have HB1 := hide hb1
    have hz1 := size_toList b1
    rw [hb1] at hz1
    clear hb1
    by_cases hbig : b1.size ≤ 2000
    · have HP1 := hide (lexRead_print HC0.out (by omega))
      clear hz1
      go_wp2_with fail
      refine (read_ok _ b1 l (by rw [HB1.out]; exact HP1.out) hll).mono ?_
      rintro e w2 ⟨v2, rfl, hv2, hK2⟩
      have hs2 := sameTokens_any w2 v2 v l l hv2 (((hv.same hK0).same hK1).same hK2)
      rw [(sameT_iff _ _).2 rfl] at hs2
      have HS2 := hide hs2
      have hK' := tr (tr hK0 hK1) hK2
      clear hs2 hv2 hK0 hK1 hK2
      go_wp2_with fail
      refine HS2.out.mono ?_
      rintro e w3 ⟨rfl, n3, rfl⟩
      have hK := hK'.drewN n3
      clear hK' HS2
      cases h2 : lexRead s.data.toList with
      | error n =>
        have H2 := hide h2
        clear h2
        go_wp2_with fail
        refine (read_bad _ s n H2.out).mono ?_
        rintro e w7 ⟨rfl, hK7, hn⟩
        have hn1 : (n != 0) = true := by simp [hn]
        clear hn
        go_wp2_with fail
        go_ret
        exact ⟨rfl, tr hK hK7⟩
      | ok T =>
        have hT := lexRead_len h2
        have HC := hide (lexRead_right h2)
        have H2 := hide h2
        clear h2
        go_wp2_with fail
        refine (read_ok _ s T H2.out (by omega)).mono ?_
        rintro e w7 ⟨v7, rfl, hv7, hK7⟩
        go_wp2_with fail
        refine (print_str _ v7 T hv7 (tab_keep ht (tr hK hK7)) HC.out).mono ?_
        rintro e w8 ⟨b8, rfl, hb8, hK8⟩
        have HB8 := hide hb8
        have hz8 := size_toList b8
        rw [hb8] at hz8
        clear hb8
        by_cases hbig8 : b8.size ≤ 2000
        · have HP8 := hide (lexRead_print HC.out (by omega))
          clear hz8
          go_wp2_with fail
          refine (read_ok _ b8 T (by rw [HB8.out]; exact HP8.out) (by omega)).mono ?_
          rintro e w9 ⟨v9, rfl, hv9, hK9⟩
          have hs9 := sameTokens_any w9 v9 v7 T T hv9 ((hv7.same hK8).same hK9)
          rw [(sameT_iff _ _).2 rfl] at hs9
          have HS9 := hide hs9
          have hKL := tr (tr (tr hK hK7) hK8) hK9
          clear hs9 hv9 hv7 hK hK7 hK8 hK9
          go_wp2_with fail
          refine HS9.out.mono ?_
          rintro e wa ⟨rfl, na, rfl⟩
          go_wp2_with fail
          go_ret
          exact ⟨rfl, hKL.drewN _⟩
        · clear hz8
          go_wp2_with fail
          go_ret
          exact ⟨rfl, tr (tr hK hK7) hK8⟩
    · have hK := tr hK0 hK1
      clear hz1 hK0 hK1
      cases h2 : lexRead s.data.toList with
      | error n =>
        have H2 := hide h2
        clear h2
        go_wp2_with fail
        refine (read_bad _ s n H2.out).mono ?_
        rintro e w7 ⟨rfl, hK7, hn⟩
        have hn1 : (n != 0) = true := by simp [hn]
        clear hn
        go_wp2_with fail
        go_ret
        exact ⟨rfl, tr hK hK7⟩
      | ok T =>
        have hT := lexRead_len h2
        have HC := hide (lexRead_right h2)
        have H2 := hide h2
        clear h2
        go_wp2_with fail
        refine (read_ok _ s T H2.out (by omega)).mono ?_
        rintro e w7 ⟨v7, rfl, hv7, hK7⟩
        go_wp2_with fail
        refine (print_str _ v7 T hv7 (tab_keep ht (tr hK hK7)) HC.out).mono ?_
        rintro e w8 ⟨b8, rfl, hb8, hK8⟩
        have HB8 := hide hb8
        have hz8 := size_toList b8
        rw [hb8] at hz8
        clear hb8
        by_cases hbig8 : b8.size ≤ 2000
        · have HP8 := hide (lexRead_print HC.out (by omega))
          clear hz8
          go_wp2_with fail
          refine (read_ok _ b8 T (by rw [HB8.out]; exact HP8.out) (by omega)).mono ?_
          rintro e w9 ⟨v9, rfl, hv9, hK9⟩
          have hs9 := sameTokens_any w9 v9 v7 T T hv9 ((hv7.same hK8).same hK9)
          rw [(sameT_iff _ _).2 rfl] at hs9
          have HS9 := hide hs9
          have hKL := tr (tr (tr hK hK7) hK8) hK9
          clear hs9 hv9 hv7 hK hK7 hK8 hK9
          go_wp2_with fail
          refine HS9.out.mono ?_
          rintro e wa ⟨rfl, na, rfl⟩
          go_wp2_with fail
          go_ret
          exact ⟨rfl, hKL.drewN _⟩
        · clear hz8
          go_wp2_with fail
          go_ret
          exact ⟨rfl, tr (tr hK hK7) hK8⟩
  · have HK1 := hide (print_bad w0 v l (hv.same hK0) hck)
    have hno : (lexCheck l == 0) = false := by simp [hck]
    clear hck
    generalize lexCheck l = m0 at HK1 hno
    go_wp2_with fail
    refine HK1.out.mono ?_
    rintro e w1 ⟨rfl, hK1⟩
    have hK := tr hK0 hK1
    clear hK0 hK1 HK1
    cases h2 : lexRead s.data.toList with
    | error n =>
      have H2 := hide h2
      clear h2
      go_wp2_with fail
      refine (read_bad _ s n H2.out).mono ?_
      rintro e w7 ⟨rfl, hK7, hn⟩
      have hn1 : (n != 0) = true := by simp [hn]
      clear hn
      go_wp2_with fail
      go_ret
      exact ⟨rfl, tr hK hK7⟩
    | ok T =>
      have hT := lexRead_len h2
      have HC := hide (lexRead_right h2)
      have H2 := hide h2
      clear h2
      go_wp2_with fail
      refine (read_ok _ s T H2.out (by omega)).mono ?_
      rintro e w7 ⟨v7, rfl, hv7, hK7⟩
      go_wp2_with fail
      refine (print_str _ v7 T hv7 (tab_keep ht (tr hK hK7)) HC.out).mono ?_
      rintro e w8 ⟨b8, rfl, hb8, hK8⟩
      have HB8 := hide hb8
      have hz8 := size_toList b8
      rw [hb8] at hz8
      clear hb8
      by_cases hbig8 : b8.size ≤ 2000
      · have HP8 := hide (lexRead_print HC.out (by omega))
        clear hz8
        go_wp2_with fail
        refine (read_ok _ b8 T (by rw [HB8.out]; exact HP8.out) (by omega)).mono ?_
        rintro e w9 ⟨v9, rfl, hv9, hK9⟩
        have hs9 := sameTokens_any w9 v9 v7 T T hv9 ((hv7.same hK8).same hK9)
        rw [(sameT_iff _ _).2 rfl] at hs9
        have HS9 := hide hs9
        have hKL := tr (tr (tr hK hK7) hK8) hK9
        clear hs9 hv9 hv7 hK hK7 hK8 hK9
        go_wp2_with fail
        refine HS9.out.mono ?_
        rintro e wa ⟨rfl, na, rfl⟩
        go_wp2_with fail
        go_ret
        exact ⟨rfl, hKL.drewN _⟩
      · clear hz8
        go_wp2_with fail
        go_ret
        exact ⟨rfl, tr (tr hK hK7) hK8⟩

end Go.Proofs.YthbnhnnafkkpkaaDoor
