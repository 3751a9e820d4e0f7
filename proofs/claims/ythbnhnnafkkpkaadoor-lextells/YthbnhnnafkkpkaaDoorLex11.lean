/- lex.Read, whatever it is handed. -/
import Derived.Test.YthbnhnnafkkpkaaDoorLex10
namespace Go.Proofs.YthbnhnnafkkpkaaDoor
open Go.RowKit

theorem enters16 (args : Array Value) (w : World) : (callFunc 16 args).run Tryd.prog w = .ok (.enter 16 args) w := by kernel_rfl

theorem own_base {w : World} {base base' : Nat} {e : TypeId} {size : Nat} {v : Value} {n : Nat} {xs : List Value} (h : w.ownsRow base e size v n xs) (hb : base' ≤ base) : w.ownsRow base' e size v n xs := by
  obtain ⟨h1, h2⟩ := h
  refine ⟨h1, ?_⟩
  rcases h2 with h2 | ⟨g, cap, cur, hv, hg, r⟩
  · exact Or.inl h2
  · exact Or.inr ⟨g, cap, cur, hv, Nat.le_trans hb hg, r⟩

set_option maxHeartbeats 800000 in
theorem read_any (w : World) (s : ByteArray) :
    Calls Tryd.prog 7 #[.string s] w fun e w' =>
      (∃ T v, lexRead s.data.toList = .ok T ∧ e = .returned (.tuple #[v, .int .i64 0]) ∧ w'.ownsRow w.heap.size 39 3 v T.length (tokCells T) ∧ Same w w')
      ∨ (∃ n, lexRead s.data.toList = .error n ∧ n ≠ 0 ∧ e = .returned (.tuple #[.slice none 0 0, .int .i64 n]) ∧ Same w w') := by
  have hsz := size_toList s
  by_cases hbig : 2000 < s.size
  · have HL := hide (show lexRead s.data.toList = .error 2 by unfold lexRead; rw [if_pos (by omega)])
    clear hsz
    go_enter Tryd.func7, Tryd.ntmps7
    go_wp2_with fail
    go_ret2
    exact .inr ⟨2, HL.out, by decide, rfl, Kept.refl _ _⟩
  · have HL := hide (show lexRead s.data.toList = readF (s.size + 1) s.data.toList 0 by unfold lexRead; rw [if_neg (by omega), hsz])
    clear hsz
    have hmf : ∀ (fn : Fn) (first cap : Array Value) (w : World), (Instr.makeFunc fn first cap).run Tryd.prog w = .ok (.func fn first cap) w := fun _ _ _ _ => rfl
    have hR0 : ∀ o, Rdr ((w.alloc (.cells #[.string s, .int .i64 0, .slice none 0 0] 35)).alloc o) w.heap.size s 0 (.slice none 0 0) := by
      intro o
      have h1 : Rdr (w.alloc (.cells #[.string s, .int .i64 0, .slice none 0 0] 35)) w.heap.size s 0 (.slice none 0 0) := heap_alloc_new w _
      exact h1.al o
    have HA := hide (all_any _ w.heap.size s (hR0 (.cells #[.int .i64 0] 23)) (by omega))
    clear hR0
    go_enter Tryd.func7, Tryd.ntmps7
    go_wp2_with fail
    refine (caught_method 16 (.pointer (some ⟨w.heap.size, 0, none⟩)) _ (· = w.heap.size) (by intro i hi; subst hi; simp)
      (fun w' => ∃ T v, readF (s.size + 1) s.data.toList 0 = .ok T ∧ Rdr w' w.heap.size s s.size v ∧ w'.ownsRow (w.heap.size + 1 + 1) 39 3 v T.length (tokCells T))
      (fun n _ => readF (s.size + 1) s.data.toList 0 = .error n ∧ n ≠ 0) enters16
      (HA.out.mono ?_)).mono ?_
    · rintro e w' (⟨T, v, h1, h2, h3, h4, h5⟩ | ⟨n, h1, h2, h3, h4⟩)
      · exact .inl ⟨h2, ⟨T, v, h1, h3, by simpa using h4⟩, h5⟩
      · exact .inr ⟨n, h3, ⟨h1, h2⟩, h4⟩
    · rintro e w' (⟨w1, rfl, ⟨T, v, h1, h3, h4⟩, h5, rfl⟩ | ⟨n, w1, rfl, ⟨h1, h2⟩, h4, rfl⟩)
      · obtain ⟨ao, cap, hv⟩ := own_slice h4
        subst hv
        have hR2 : Rdr (w1.setCell ⟨w.heap.size + 1, 0, none⟩ (.int .i64 0)) w.heap.size s s.size (.slice ao T.length cap) := by
          unfold Rdr at *
          rw [Below.heap_setCell _ _ _ _ (by show w.heap.size ≠ w.heap.size + 1; omega)]
          exact h3
        have hown := ownsRow_setCell_below h4 (a := ⟨w.heap.size + 1, 0, none⟩) (by show w.heap.size + 1 < w.heap.size + 1 + 1; omega) (.int .i64 0)
        have hK : Same w (w1.setCell ⟨w.heap.size + 1, 0, none⟩ (.int .i64 0)) := by
          refine Kept.setCell ?_ (fun h => absurd h (by show ¬ w.heap.size + 1 < w.heap.size; omega)) _
          exact (((Kept.refl _ w).alloc _).alloc _).trans h5 (fun i hi e => by have e2 : i = w.heap.size := e; omega)
        simp only [World.size_alloc]
        generalize w1.setCell ⟨w.heap.size + 1, 0, none⟩ (.int .i64 0) = w2 at *
        have c2 := hR2.c2
        have H1 := hide h1
        clear h1 h3 h4 h5 hR2
        go_wp2_with fail
        go_ret2
        exact .inl ⟨T, _, by rw [HL.out]; exact H1.out, rfl, own_base hown (by omega), hK⟩
      · have hK : Same w (w1.setCell ⟨w.heap.size + 1, 0, none⟩ (.int .i64 n)) := by
          refine Kept.setCell ?_ (fun h => absurd h (by show ¬ w.heap.size + 1 < w.heap.size; omega)) _
          exact (((Kept.refl _ w).alloc _).alloc _).trans h4 (fun i hi e => by have e2 : i = w.heap.size := e; omega)
        simp only [World.size_alloc]
        generalize w1.setCell ⟨w.heap.size + 1, 0, none⟩ (.int .i64 n) = w2 at *
        have hn : (n != 0) = true := by simp [h2]
        have H1 := hide h1
        have H2 := hide h2
        clear h1 h2 h4
        go_wp2_with fail
        go_ret2
        exact .inr ⟨n, by rw [HL.out]; exact H1.out, H2.out, rfl, hK⟩

end Go.Proofs.YthbnhnnafkkpkaaDoor
