/- The laws' own: some, lexBegun. -/
import Derived.Test.YthbnhnnafkkpkaaDoorLex14
namespace Go.Proofs.YthbnhnnafkkpkaaDoor
open Go.RowKit

def someT : List Tok := [⟨1, [97, 49], 0⟩, ⟨4, [58], 0⟩, ⟨2, [], -7⟩, ⟨3, [113, 34, 92, 10], 0⟩]

theorem someT_cells (i : Nat) (t : Tok) (h : someT[i]? = some t) : (tokCells someT)[i * 3]? = some (.int .i64 t.k) ∧ (tokCells someT)[i * 3 + 1]? = some (.string ⟨t.s.toArray⟩) ∧ (tokCells someT)[i * 3 + 2]? = some (.int .i64 t.n) := by
  have := tokCells_get someT i t h
  rw [show i * 3 = 3 * i from by omega]
  exact this

theorem some_any (w : World) :
    Calls Tryd.prog 17 #[] w fun e w' => ∃ v, e = .returned v ∧ TokSl w' v someT ∧ Same w w' := by
  go_enter Tryd.func17, Tryd.ntmps17
  go_wp2
  go_ret
  refine ⟨_, rfl, ⟨_, _, rfl, by decide, fun i t ht => ⟨w.heap.size, 0, rfl, ?_⟩⟩, (by repeat' (first | assumption | exact Kept.refl _ _ | refine Kept.drewN ?_ _ | refine Kept.drew ?_ | refine Kept.alloc ?_ _ | refine Kept.setB ?_ _ _))⟩
  obtain ⟨h1, h2, h3⟩ := someT_cells i t ht
  have key : ∀ j u, (tokCells someT)[j]? = some u → (w.alloc (.cells (tokCells someT).toArray 39)).cell? ⟨w.heap.size, j, none⟩ = some u := by
    intro j u hj
    rw [World.cell?_alloc_new]
    simpa using hj
  rw [Nat.zero_add]
  exact ⟨key _ _ h1, key _ _ h2, key _ _ h3⟩

theorem read1 : lexRead [32, 97, 49, 32, 58, 44, 45, 55, 32, 35, 32, 99, 10, 34, 113, 92, 34, 92, 92, 92, 110, 34] = .ok someT := by kernel_rfl
theorem read2 : lexRead [48, 49] = .error 1 := by kernel_rfl
theorem check1 : lexCheck someT = 0 := by kernel_rfl
theorem itoa7 : Lib.itoa (-7) = [45, 55] := by
  rw [Lib.itoa, if_pos (by decide)]
  rw [show (-7 : Int).natAbs = 7 from rfl, Lib.decDigits]
  rfl
theorem print1 : printF someT = [97, 49, 32, 58, 32, 45, 55, 32, 34, 113, 92, 34, 92, 92, 92, 110, 34] := by
  simp [someT, printF, writtenT, itoa7, quoteL, quoteC]


/-- Read of a text that is right. -/
theorem read_ok (w : World) (s : ByteArray) (T : List Tok) (h : lexRead s.data.toList = .ok T) (hT : T.length ≤ 9000000000000) :
    Calls Tryd.prog 7 #[.string s] w fun e w' => ∃ v, e = .returned (.tuple #[v, .int .i64 0]) ∧ TokSl w' v T ∧ Same w w' := by
  refine (read_any w s).mono ?_
  rintro e w' (⟨T', v, h1, rfl, h2, h3⟩ | ⟨n, h1, _, rfl, h3⟩)
  · rw [h] at h1
    cases h1
    exact ⟨v, rfl, own_toks h2 hT, h3⟩
  · rw [h] at h1; cases h1
theorem read_bad (w : World) (s : ByteArray) (n : Int) (h : lexRead s.data.toList = .error n) :
    Calls Tryd.prog 7 #[.string s] w fun e w' => e = .returned (.tuple #[.slice none 0 0, .int .i64 n]) ∧ Same w w' ∧ n ≠ 0 := by
  refine (read_any w s).mono ?_
  rintro e w' (⟨T', v, h1, rfl, h2, h3⟩ | ⟨n', h1, h2, rfl, h3⟩)
  · rw [h] at h1; cases h1
  · rw [h] at h1
    cases h1
    exact ⟨rfl, h3, h2⟩

set_option maxHeartbeats 800000 in
theorem lexBegun_any (w : World) (ht : Tab w) :
    Calls Tryd.prog 8 #[] w fun e w' => e = .returned (.bool true) ∧ Same w w' := by
  go_enter Tryd.func8, Tryd.ntmps8
  go_wp2_with fail
  refine (read_ok _ _ someT (by exact read1) (by decide)).mono ?_
  rintro e w1 ⟨v1, rfl, hv1, hK1⟩
  go_wp2_with fail
  refine (some_any _).mono ?_
  rintro e w2 ⟨v2, rfl, hv2, hK2⟩
  go_wp2_with fail
  refine (print_ok _ _ someT (by exact hv2) (tab_keep (tab_keep ht hK1) hK2) check1).mono ?_
  rintro e w3 ⟨rfl, hK3⟩
  rw [print1]
  go_wp2_with fail
  refine (read_bad _ _ 1 (by exact read2)).mono ?_
  rintro e w4 ⟨rfl, hK4, _⟩
  go_wp2_with fail
  refine (some_any _).mono ?_
  rintro e w5 ⟨v5, rfl, hv5, hK5⟩
  go_wp2_with fail
  have hc := check_any w5 v5 someT hv5
  rw [check1] at hc
  have HC := hide hc
  clear hc
  refine HC.out.mono ?_
  rintro e w6 ⟨rfl, hK6⟩
  go_wp2_with fail
  refine (some_any _).mono ?_
  rintro e w7 ⟨v7, rfl, hv7, hK7⟩
  have hv17 := ((((((hv1.same hK2).same hK3).same hK4).same hK5).same hK6).same hK7)
  have hs := sameTokens_any w7 v1 v7 someT someT hv17 hv7
  rw [(sameT_iff someT someT).2 rfl] at hs
  have HS := hide hs
  clear hs
  go_wp2_with fail
  refine HS.out.mono ?_
  rintro e w8 ⟨rfl, n8, rfl⟩
  go_wp2
  go_ret
  refine ⟨rfl, ?_⟩
  have tr : ∀ {a b c : World}, Same a b → Same b c → Same a c := fun h k => h.trans k (fun _ _ f => f.elim)
  exact Kept.drewN (tr (tr (tr (tr (tr (tr hK1 hK2) hK3) hK4) hK5) hK6) hK7) _

end Go.Proofs.YthbnhnnafkkpkaaDoor
