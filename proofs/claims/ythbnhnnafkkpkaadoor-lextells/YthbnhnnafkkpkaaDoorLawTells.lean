/- LexTells: the walk. -/
import Derived.Test.YthbnhnnafkkpkaaDoorLawBack
import Derived.Test.YthbnhnnafkkpkaaDoorRef5
import Derived.Test.YthbnhnnafkkpkaaDoorRef6
import Derived.Test.YthbnhnnafkkpkaaDoorRef10
namespace Go.Proofs.YthbnhnnafkkpkaaDoor
open Go.RowKit

theorem tokens_ok (w : World) (s : ByteArray) (T : List Tok) (h : lexRead s.data.toList = .ok T) (hT : T.length ≤ 9000000000000) :
    Calls Tryd.prog 11 #[.string s] w fun e w' => ∃ v, e = .returned (.tuple #[v, .int .i64 0]) ∧ TokSl w' v T ∧ Same w w' := by
  refine (tokensOf_any w s).mono ?_
  rintro e w' (⟨T', v, h1, rfl, h2, h3⟩ | ⟨n, h1, _, rfl, h3⟩)
  · rw [h] at h1
    cases h1
    exact ⟨v, rfl, own_toks h2 hT, h3⟩
  · rw [h] at h1; cases h1
theorem tokens_bad (w : World) (s : ByteArray) (n : Int) (h : lexRead s.data.toList = .error n) :
    Calls Tryd.prog 11 #[.string s] w fun e w' => e = .returned (.tuple #[.slice none 0 0, .int .i64 n]) ∧ Same w w' := by
  refine (tokensOf_any w s).mono ?_
  rintro e w' (⟨T', v, h1, rfl, h2, h3⟩ | ⟨n', h1, h2, rfl, h3⟩)
  · rw [h] at h1; cases h1
  · rw [h] at h1
    cases h1
    exact ⟨rfl, h3⟩

set_option maxRecDepth 20000 in
set_option maxHeartbeats 3200000 in
theorem lexTells_any (w : World) (s : ByteArray) (v : Value) (l : List Tok) (ht : Tab w) (hv : TokSl w v l) :
    Calls Tryd.prog 4 #[.string s, v] w fun e w' => e = .returned (.bool true) ∧ Same w w' := by
  by_cases hck : lexCheck l = 0
  · have HC := hide hck
    clear hck
    cases h1 : lexRead s.data.toList with
    | ok T =>
      have hT := lexRead_len h1
      have H1 := hide h1
      clear h1
      go_enter Tryd.func4, Tryd.ntmps4
      go_wp2_with fail
      refine (read_ok _ s T H1.out (by omega)).mono ?_
      rintro e w1 ⟨v1, rfl, hv1, hK1⟩
      go_wp2_with fail
      refine (print_str _ v l (hv.same hK1) (tab_keep ht hK1) HC.out).mono ?_
      rintro e w2 ⟨b2, rfl, hb2, hK2⟩
      have HB2 := hide hb2
      clear hb2
      have hK12 := tr hK1 hK2
      go_wp2_with fail
      refine (tokens_ok _ s T H1.out (by omega)).mono ?_
      rintro e w3 ⟨v3, rfl, hv3, hK3⟩
      have hK13 := tr hK12 hK3
      have hch := rCheck_any w3 v l (hv.same hK13)
      rw [HC.out] at hch
      have HCH := hide hch
      clear hch
      go_wp2_with fail
      refine HCH.out.mono ?_
      rintro e w4 ⟨rfl, hK4⟩
      have hK14 := tr hK13 hK4
      go_wp2_with fail
      refine (rBytes_any _ v l (hv.same hK14) HC.out).mono ?_
      rintro e w5 ⟨b5, rfl, hb5, hK5⟩
      obtain rfl : b5 = b2 := by
        apply ByteArray.ext
        exact Array.toList_inj.1 (by rw [hb5, HB2.out])
      clear hb5
      have hK15 := tr hK14 hK5
      go_wp2_with fail
      refine (lexBegun_any _ (tab_keep ht hK15)).mono ?_
      rintro e w6 ⟨rfl, hK6⟩
      have hK16 := tr hK15 hK6
      have hck := check_any w6 v l (hv.same hK16)
      rw [HC.out] at hck
      have HCK := hide hck
      clear hck
      go_wp2_with fail
      refine HCK.out.mono ?_
      rintro e w7 ⟨rfl, hK7⟩
      have hK17 := tr hK16 hK7
      have hs8 := sameTokens_any w7 v1 v3 T T ((((((hv1.same hK2).same hK3).same hK4).same hK5).same hK6).same hK7) ((((hv3.same hK4).same hK5).same hK6).same hK7)
      rw [(sameT_iff _ _).2 rfl] at hs8
      have HS8 := hide hs8
      clear hs8
      go_wp2_with fail
      refine HS8.out.mono ?_
      rintro e w8 ⟨rfl, n8, rfl⟩
      go_wp2_with fail
      go_ret
      exact ⟨rfl, hK17.drewN _⟩
    | error n =>
      have H1 := hide h1
      clear h1
      go_enter Tryd.func4, Tryd.ntmps4
      go_wp2_with fail
      refine (read_bad _ s n H1.out).mono ?_
      rintro e w1 ⟨rfl, hK1, hn⟩
      clear hn
      go_wp2_with fail
      refine (print_str _ v l (hv.same hK1) (tab_keep ht hK1) HC.out).mono ?_
      rintro e w2 ⟨b2, rfl, hb2, hK2⟩
      have HB2 := hide hb2
      clear hb2
      have hK12 := tr hK1 hK2
      go_wp2_with fail
      refine (tokens_bad _ s n H1.out).mono ?_
      rintro e w3 ⟨rfl, hK3⟩
      have hK13 := tr hK12 hK3
      have hch := rCheck_any w3 v l (hv.same hK13)
      rw [HC.out] at hch
      have HCH := hide hch
      clear hch
      go_wp2_with fail
      refine HCH.out.mono ?_
      rintro e w4 ⟨rfl, hK4⟩
      have hK14 := tr hK13 hK4
      go_wp2_with fail
      refine (rBytes_any _ v l (hv.same hK14) HC.out).mono ?_
      rintro e w5 ⟨b5, rfl, hb5, hK5⟩
      obtain rfl : b5 = b2 := by
        apply ByteArray.ext
        exact Array.toList_inj.1 (by rw [hb5, HB2.out])
      clear hb5
      have hK15 := tr hK14 hK5
      go_wp2_with fail
      refine (lexBegun_any _ (tab_keep ht hK15)).mono ?_
      rintro e w6 ⟨rfl, hK6⟩
      have hK16 := tr hK15 hK6
      have hck := check_any w6 v l (hv.same hK16)
      rw [HC.out] at hck
      have HCK := hide hck
      clear hck
      go_wp2_with fail
      refine HCK.out.mono ?_
      rintro e w7 ⟨rfl, hK7⟩
      have hK17 := tr hK16 hK7
      have hs8 := sameTokens_any w7 (.slice none 0 0) (.slice none 0 0) [] [] (TokSl.nil _) (TokSl.nil _)
      rw [(sameT_iff _ _).2 rfl] at hs8
      have HS8 := hide hs8
      clear hs8
      go_wp2_with fail
      refine HS8.out.mono ?_
      rintro e w8 ⟨rfl, n8, rfl⟩
      go_wp2_with fail
      go_ret
      exact ⟨rfl, hK17.drewN _⟩
  · have HC := hide hck
    clear hck
    cases h1 : lexRead s.data.toList with
    | ok T =>
      have hT := lexRead_len h1
      have H1 := hide h1
      clear h1
      go_enter Tryd.func4, Tryd.ntmps4
      go_wp2_with fail
      refine (read_ok _ s T H1.out (by omega)).mono ?_
      rintro e w1 ⟨v1, rfl, hv1, hK1⟩
      have HPB := hide (print_bad w1 v l (hv.same hK1) HC.out)
      have hm0 : (lexCheck l == 0) = false := by simp [HC.out]
      obtain ⟨m, hm⟩ : ∃ m, m = lexCheck l := ⟨_, rfl⟩
      have HM := hide hm
      rw [← hm] at HPB hm0
      clear hm
      go_wp2_with fail
      refine HPB.out.mono ?_
      rintro e w2 ⟨rfl, hK2⟩
      have hK12 := tr hK1 hK2
      go_wp2_with fail
      refine (tokens_ok _ s T H1.out (by omega)).mono ?_
      rintro e w3 ⟨v3, rfl, hv3, hK3⟩
      have hK13 := tr hK12 hK3
      have hch := rCheck_any w3 v l (hv.same hK13)
      rw [← HM.out] at hch
      have HCH := hide hch
      clear hch
      go_wp2_with fail
      refine HCH.out.mono ?_
      rintro e w4 ⟨rfl, hK4⟩
      have hK14 := tr hK13 hK4
      have hK15 := hK14
      go_wp2_with fail
      refine (lexBegun_any _ (tab_keep ht hK15)).mono ?_
      rintro e w6 ⟨rfl, hK6⟩
      have hK16 := tr hK15 hK6
      have hck := check_any w6 v l (hv.same hK16)
      rw [← HM.out] at hck
      have HCK := hide hck
      clear hck
      go_wp2_with fail
      refine HCK.out.mono ?_
      rintro e w7 ⟨rfl, hK7⟩
      have hK17 := tr hK16 hK7
      have hs8 := sameTokens_any w7 v1 v3 T T (((((hv1.same hK2).same hK3).same hK4).same hK6).same hK7) (((hv3.same hK4).same hK6).same hK7)
      rw [(sameT_iff _ _).2 rfl] at hs8
      have HS8 := hide hs8
      clear hs8
      go_wp2_with fail
      refine HS8.out.mono ?_
      rintro e w8 ⟨rfl, n8, rfl⟩
      go_wp2_with fail
      go_ret
      exact ⟨rfl, hK17.drewN _⟩
    | error n =>
      have H1 := hide h1
      clear h1
      go_enter Tryd.func4, Tryd.ntmps4
      go_wp2_with fail
      refine (read_bad _ s n H1.out).mono ?_
      rintro e w1 ⟨rfl, hK1, hn⟩
      clear hn
      have HPB := hide (print_bad w1 v l (hv.same hK1) HC.out)
      have hm0 : (lexCheck l == 0) = false := by simp [HC.out]
      obtain ⟨m, hm⟩ : ∃ m, m = lexCheck l := ⟨_, rfl⟩
      have HM := hide hm
      rw [← hm] at HPB hm0
      clear hm
      go_wp2_with fail
      refine HPB.out.mono ?_
      rintro e w2 ⟨rfl, hK2⟩
      have hK12 := tr hK1 hK2
      go_wp2_with fail
      refine (tokens_bad _ s n H1.out).mono ?_
      rintro e w3 ⟨rfl, hK3⟩
      have hK13 := tr hK12 hK3
      have hch := rCheck_any w3 v l (hv.same hK13)
      rw [← HM.out] at hch
      have HCH := hide hch
      clear hch
      go_wp2_with fail
      refine HCH.out.mono ?_
      rintro e w4 ⟨rfl, hK4⟩
      have hK14 := tr hK13 hK4
      have hK15 := hK14
      go_wp2_with fail
      refine (lexBegun_any _ (tab_keep ht hK15)).mono ?_
      rintro e w6 ⟨rfl, hK6⟩
      have hK16 := tr hK15 hK6
      have hck := check_any w6 v l (hv.same hK16)
      rw [← HM.out] at hck
      have HCK := hide hck
      clear hck
      go_wp2_with fail
      refine HCK.out.mono ?_
      rintro e w7 ⟨rfl, hK7⟩
      have hK17 := tr hK16 hK7
      have hs8 := sameTokens_any w7 (.slice none 0 0) (.slice none 0 0) [] [] (TokSl.nil _) (TokSl.nil _)
      rw [(sameT_iff _ _).2 rfl] at hs8
      have HS8 := hide hs8
      clear hs8
      go_wp2_with fail
      refine HS8.out.mono ?_
      rintro e w8 ⟨rfl, n8, rfl⟩
      go_wp2_with fail
      go_ret
      exact ⟨rfl, hK17.drewN _⟩

end Go.Proofs.YthbnhnnafkkpkaaDoor
