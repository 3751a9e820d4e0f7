/- lex.Check, whatever it is handed; owned rows are slices of tokens. -/
import Derived.Test.YthbnhnnafkkpkaaDoorLex11
namespace Go.Proofs.YthbnhnnafkkpkaaDoor
open Go.RowKit

theorem tokCells_get (l : List Tok) : ∀ (i : Nat) (t : Tok), l[i]? = some t → (tokCells l)[3 * i]? = some (.int .i64 t.k) ∧ (tokCells l)[3 * i + 1]? = some (.string ⟨t.s.toArray⟩) ∧ (tokCells l)[3 * i + 2]? = some (.int .i64 t.n) := by
  induction l with
  | nil => intro i t h; simp at h
  | cons x r ih =>
    intro i t h
    have e : tokCells (x :: r) = .int .i64 x.k :: .string ⟨x.s.toArray⟩ :: .int .i64 x.n :: tokCells r := by simp [tokCells, tokC]
    cases i with
    | zero => simp at h; subst h; rw [e]; simp
    | succ i =>
      simp at h
      have := ih i t h
      rw [e, show 3 * (i + 1) = 3 * i + 1 + 1 + 1 from by omega, show 3 * i + 1 + 1 + 1 + 1 = (3 * i + 1) + 1 + 1 + 1 from rfl, show 3 * i + 1 + 1 + 1 + 2 = (3 * i + 2) + 1 + 1 + 1 from by omega]
      simpa using this

theorem own_toks {w : World} {base : Nat} {v : Value} {l : List Tok} (h : w.ownsRow base 39 3 v l.length (tokCells l)) (hl : l.length ≤ 9000000000000) : TokSl w v l := by
  have hc := fun g => World.ownsRow.cells h (g := g)
  rcases h.2 with ⟨rfl, h0⟩ | ⟨g, cap, cur, rfl, hg, hb, hc1, hc2, hc3, htk⟩
  · obtain rfl : l = [] := List.length_eq_zero_iff.1 h0
    exact TokSl.nil w
  · refine ⟨_, cap, rfl, hl, fun i t ht => ⟨g, 0, rfl, ?_⟩⟩
    obtain ⟨h1, h2, h3⟩ := tokCells_get l i t ht
    have k1 := hc g rfl _ _ h1
    have k2 := hc g rfl _ _ h2
    have k3 := hc g rfl _ _ h3
    have e : ∀ j, ((⟨g, 0, none⟩ : Addr).add j) = ⟨g, j, none⟩ := by
      intro j
      unfold Addr.add
      split
      · rename_i h; rw [h]
      · simp
    rw [e] at k1 k2 k3
    rw [show 0 + i * 3 = 3 * i from by omega]
    exact ⟨k1, k2, k3⟩

theorem checkF_step (l : List Tok) (k : Nat) (h : k < l.length) : checkF (l.drop k) = if wrongT l[k] ≠ 0 then wrongT l[k] else checkF (l.drop (k + 1)) := by
  rw [List.drop_eq_getElem_cons h, checkF]

set_option maxHeartbeats 800000 in
theorem check_any (w : World) (v : Value) (l : List Tok) (h : TokSl w v l) :
    Calls Tryd.prog 14 #[v] w fun e w' => e = .returned (.int .i64 (lexCheck l)) ∧ Same w w' := by
  obtain ⟨ao, cap, rfl, hl, hc⟩ := id h
  clear hc
  by_cases hbig : 300 < l.length
  · have HF := hide (show lexCheck l = 2 by unfold lexCheck; rw [if_pos hbig])
    go_enter Tryd.func14, Tryd.ntmps14
    go_wp2_with fail
    go_ret
    exact ⟨ret_int HF.out.symm, Kept.refl _ _⟩
  · have HF := hide (show lexCheck l = checkF l by unfold lexCheck; rw [if_neg hbig])
    go_enter Tryd.func14, Tryd.ntmps14
    go_wp2_with fail
    go_loopg [11] l.length (fun g i wr => ∃ k : Nat, k + g = l.length ∧ i = .int .i64 k ∧ Same w wr ∧ Hid (checkF l = checkF (l.drop k)))
    case atStart => exact ⟨0, by omega, rfl, Kept.refl _ _, rfl⟩
    case round =>
      obtain ⟨k, hk, rfl, hK, HE⟩ := hrel
      by_cases hlt : k < l.length
      · obtain ⟨b1, o1, e1, p0, p1, p2⟩ := (h.same hK).at k hlt
        subst e1
        have HS := hide (checkF_step l k hlt)
        go_wp2_with fail
        rw [show (Value.agg #[.int .i64 l[k].k, .string ⟨l[k].s.toArray⟩, .int .i64 l[k].n]) = tokB l[k].k ⟨l[k].s.toArray⟩ l[k].n from rfl]
        refine (wrong_any l[k].k ⟨l[k].s.toArray⟩ l[k].n _).mono ?_
        rintro e w4 ⟨rfl, hK5⟩
        have ew : wrongT ⟨l[k].k, (⟨l[k].s.toArray⟩ : ByteArray).data.toList, l[k].n⟩ = wrongT l[k] := by simp
        rw [ew]
        clear ew
        have hK6 : Same w w4 := (hK.alloc _).trans hK5 (fun _ _ f => f.elim)
        by_cases hw : wrongT l[k] = 0
        · have hw' : (wrongT l[k] != 0) = false := by simp [hw]
          have HW := hide hw
          clear hw
          go_wp2_with fail
          go_roundg (gk - 1)
          case measure => omega
          case rel => exact ⟨k + 1, by omega, by go_num, hK6, by show checkF l = _; rw [HE.out, HS.out, if_neg (by rw [HW.out]; decide)]⟩
        · have hw' : (wrongT l[k] != 0) = true := by simp [hw]
          have HW := hide hw
          clear hw
          go_wp2_with fail
          go_ret
          exact ⟨ret_int (by rw [HF.out, HE.out, HS.out, if_pos HW.out]), hK6⟩
      · go_wp2_with fail
        go_ret
        refine ⟨ret_int ?_, hK⟩
        rw [HF.out, HE.out, List.drop_eq_nil_of_le (by omega)]
        rfl

end Go.Proofs.YthbnhnnafkkpkaaDoor
