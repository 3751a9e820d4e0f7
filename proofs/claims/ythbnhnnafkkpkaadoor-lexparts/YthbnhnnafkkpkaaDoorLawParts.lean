/- LexParts: the walk. -/
import Derived.Test.YthbnhnnafkkpkaaDoorLawBlank
namespace Go.Proofs.YthbnhnnafkkpkaaDoor
open Go.RowKit

/-- Read of a text that is right: a row of the call's own. -/
theorem read_own (w : World) (s : ByteArray) (T : List Tok) (h : lexRead s.data.toList = .ok T) :
    Calls Tryd.prog 7 #[.string s] w fun e w' => ∃ v, e = .returned (.tuple #[v, .int .i64 0]) ∧ w'.ownsRow w.heap.size 39 3 v T.length (tokCells T) ∧ Same w w' := by
  refine (read_any w s).mono ?_
  rintro e w' (⟨T', v, h1, rfl, h2, h3⟩ | ⟨n, h1, _, rfl, h3⟩)
  · rw [h] at h1
    cases h1
    exact ⟨v, rfl, h2, h3⟩
  · rw [h] at h1; cases h1

theorem tokCells_one (l : List Tok) : ∀ u ∈ tokCells l, u.oneCell' = true := by
  intro u hu
  obtain ⟨t, _, h⟩ := List.mem_flatMap.1 hu
  exact tokC_one t u h
theorem tokCells_len (l : List Tok) : (tokCells l).length = l.length * 3 := by
  induction l with
  | nil => rfl
  | cons t r ih => simp [tokCells, tokC] at *; omega

theorem own_none {w : World} {base : Nat} {e : TypeId} {size : Nat} {ao : Option Addr} {n cap : Nat} {xs : List Value} (h : w.ownsRow base e size (.slice ao n cap) n xs) : ao = none → n = 0 ∧ cap = 0 := by
  intro h0
  subst h0
  rcases h.2 with ⟨hv, _⟩ | ⟨g, cap, cur, hv, _⟩
  · cases hv; exact ⟨rfl, rfl⟩
  · cases hv
theorem own_news {w : World} {base : Nat} {e : TypeId} {size : Nat} {ao : Option Addr} {n cap : Nat} {xs : List Value} (h : w.ownsRow base e size (.slice ao n cap) n xs) : ∀ ad, ao = some ad → ∀ j u, xs[j]? = some u → w.cell? (ad.add j) = some u := by
  intro ad h0
  subst h0
  have hf := h
  rcases h.2 with ⟨hv, _⟩ | ⟨g, cap', cur, hv, _⟩
  · cases hv
  · cases hv
    exact hf.cells (g := g) rfl

set_option maxRecDepth 20000 in
set_option maxHeartbeats 3200000 in
theorem lexParts_any (w : World) (s t : ByteArray) (ht : Tab w) (hs : s.size ≤ 140737488351232) (hc : t.size ≤ 140737488351232) :
    Calls Tryd.prog 3 #[.string s, .string t] w fun e w' => e = .returned (.bool true) ∧ Same w w' := by
  have hsl := size_toList s
  have htl := size_toList t
  obtain ⟨i0, hi, hz0, hz1, hz2⟩ := info_parts info39
  cases h1 : lexRead s.data.toList with
  | error n =>
    have H1 := hide h1
    clear h1
    go_enter Tryd.func3, Tryd.ntmps3
    go_wp2_with fail
    refine (read_bad _ s n H1.out).mono ?_
    rintro e w1 ⟨rfl, hK1, hn⟩
    have hn1 : (n != 0) = true := by simp [hn]
    have hn2 : (n == 0) = false := by simp [hn]
    clear hn
    cases h2 : lexRead t.data.toList with
    | error m =>
      have H2 := hide h2
      clear h2
      go_wp2_with fail
      refine (read_bad _ t m H2.out).mono ?_
      rintro e w2 ⟨rfl, hK2, hm⟩
      have hm1 : (m != 0) = true := by simp [hm]
      have hm2 : (m == 0) = false := by simp [hm]
      clear hm
      go_wp2_with fail
      refine (lexBegun_any _ (tab_keep (tab_keep ht hK1) hK2)).mono ?_
      rintro e w3 ⟨rfl, hK3⟩
      go_wp2_with fail
      go_ret
      exact ⟨rfl, tr (tr hK1 hK2) hK3⟩
    | ok B =>
      have H2 := hide h2
      clear h2
      go_wp2_with fail
      refine (read_own _ t B H2.out).mono ?_
      rintro e w2 ⟨v2, rfl, hv2, hK2⟩
      go_wp2_with fail
      refine (lexBegun_any _ (tab_keep (tab_keep ht hK1) hK2)).mono ?_
      rintro e w3 ⟨rfl, hK3⟩
      go_wp2_with fail
      go_ret
      exact ⟨rfl, tr (tr hK1 hK2) hK3⟩
  | ok A =>
    have H1 := hide h1
    have hA := lexRead_len h1
    clear h1
    go_enter Tryd.func3, Tryd.ntmps3
    go_wp2_with fail
    refine (read_own _ s A H1.out).mono ?_
    rintro e w1 ⟨v1, rfl, hv1, hK1⟩
    cases h2 : lexRead t.data.toList with
    | error m =>
      have H2 := hide h2
      clear h2
      go_wp2_with fail
      refine (read_bad _ t m H2.out).mono ?_
      rintro e w2 ⟨rfl, hK2, hm⟩
      have hm1 : (m != 0) = true := by simp [hm]
      have hm2 : (m == 0) = false := by simp [hm]
      clear hm
      go_wp2_with fail
      refine (lexBegun_any _ (tab_keep (tab_keep ht hK1) hK2)).mono ?_
      rintro e w3 ⟨rfl, hK3⟩
      go_wp2_with fail
      go_ret
      exact ⟨rfl, tr (tr hK1 hK2) hK3⟩
    | ok B =>
      have H2 := hide h2
      have hB := lexRead_len h2
      clear h2
      go_wp2_with fail
      refine (read_own _ t B H2.out).mono ?_
      rintro e w2 ⟨v2, rfl, hv2, hK2⟩
      go_wp2_with fail
      refine (lexBegun_any _ (tab_keep (tab_keep ht hK1) hK2)).mono ?_
      rintro e w3 ⟨rfl, hK3⟩
      obtain ⟨a1, c1, e1⟩ := own_slice hv1
      obtain ⟨a2, c2, e2⟩ := own_slice hv2
      subst e1 e2
      by_cases hbig : 2000 < s.size + t.size + 1
      · go_wp2_with fail
        go_ret
        exact ⟨rfl, tr (tr hK1 hK2) hK3⟩
      · by_cases hmany : 300 < A.length + B.length
        · have hsum : s.size + t.size + 1 ≤ 2000 := by omega
          clear hbig
          go_wp2_with fail
          go_ret
          exact ⟨rfl, tr (tr hK1 hK2) hK3⟩
        · have hsum : s.size + t.size + 1 ≤ 2000 := by omega
          have hnum : A.length + B.length ≤ 300 := by omega
          have HP := hide (lexRead_parts H1.out H2.out (by omega) hnum)
          have hv13 := own_kept (own_kept hv1 hK2 (fun _ _ f => f)) hK3 (fun _ _ f => f)
          have hv23 := own_kept hv2 hK3 (fun _ _ f => f)
          have hKK := tr (tr hK1 hK2) hK3
          clear hbig hmany hv1 hv2 hK1 hK2 hK3
          go_wp2_with fail
          refine (read_own _ _ (A ++ B) (by rw [app_list, app_list]; simpa using HP.out)).mono ?_
          rintro e w4 ⟨v4, rfl, hv4, hK4⟩
          have hv14 := own_kept hv13 hK4 (fun _ _ f => f)
          have hv24 := own_kept hv23 hK4 (fun _ _ f => f)
          have hT4 := own_toks hv4 (by rw [List.length_append]; omega)
          have hK5 := tr hKK hK4
          clear hv13 hv23 hKK hK4 hv4
          have hd0 : (w4.alloc (.cells #[] 39)).ownsRow w4.heap.size 39 3 (.slice (some ⟨w4.heap.size, 0, none⟩) 0 0) 0 [] := World.ownsRow_made w4 #[] 0 (Nat.le_refl _) (by decide) rfl
          have hsz5 : w4.heap.size ≤ (w4.alloc (.cells #[] 39)).heap.size := by simp
          have hn1 := own_none hv14
          have hw1 := own_news (hv14.alloc (.cells #[] 39))
          have HN := hide (And.intro hn1 hw1)
          clear hn1 hw1
          go_wp2_with (at_builtin; refine wpList_append_all rfl (.tmp 74) (.tmp 75) 22 rfl w4.heap.size 39 i0 _ 3 32 Tryd.underlying22 hi hz0 hz1 hz2 rfl (by decide) _ _ _ rfl hd0 a1 A.length c1 (tokCells A) rfl HN.out.1 (tokCells_len A) HN.out.2 (tokCells_one A) ?x1 ?x2 hsz5 ?_)
          case x1 => unfold maxLen; omega
          case x2 => omega
          intro v5 w5 hown5 hgr5
          have hS5 : Same w4 w5 := ((Kept.refl _ w4).alloc _).grown hgr5 (fun k hk hlt => by have e : w4.heap.size = k := Option.some.inj hk; omega)
          have hv25 := own_kept hv24 hS5 (fun _ _ f => f)
          have hsz6 : w4.heap.size ≤ w5.heap.size := hS5.size
          obtain ⟨a5, c5, e5⟩ := own_slice hown5
          subst e5
          have HN2 := hide (And.intro (own_none hv25) (own_news hv25))
          clear hgr5 hv24 hd0 HN hv14
          go_wp2_with (at_builtin; refine wpList_append_all rfl (.tmp 76) (.tmp 77) 22 rfl w4.heap.size 39 i0 _ 3 32 Tryd.underlying22 hi hz0 hz1 hz2 rfl (by decide) _ _ _ rfl hown5 a2 B.length c2 (tokCells B) rfl HN2.out.1 (tokCells_len B) HN2.out.2 (tokCells_one B) ?y1 ?y2 hsz6 ?_)
          case y1 => unfold maxLen; omega
          case y2 => omega
          intro v6 w6 hown6 hgr6
          have hS6 : Same w4 w6 := hS5.grown hgr6 (fun k hk hlt => by have := own_row hown5 k hk; omega)
          have hT6 := hT4.same hS6
          have hTv : TokSl w6 v6 (A ++ B) := by
            refine own_toks (base := w4.heap.size) ?_ (by rw [List.length_append]; omega)
            rw [List.length_append, show tokCells (A ++ B) = tokCells A ++ tokCells B from List.flatMap_append]
            exact hown6
          have hs6 := sameTokens_any w6 v4 v6 _ _ hT6 hTv
          rw [(sameT_iff _ _).2 rfl] at hs6
          have HS := hide hs6
          have hK7 := tr hK5 hS6
          clear hs6 hT6 hTv hT4 hown6 hgr6 hown5 hS5 hK5
          go_wp2_with fail
          refine HS.out.mono ?_
          rintro e w7 ⟨rfl, n7, rfl⟩
          go_wp2_with fail
          go_ret
          exact ⟨rfl, hK7.drewN _⟩

end Go.Proofs.YthbnhnnafkkpkaaDoor
