/- disk.tooGreat: slices.IndexFunc, slices.ContainsFunc at strings. -/
import Derived.Test.YtillhpepfpldcaaDisktells15
namespace Go.Proofs.Ytillhpepfpldcaa
open Go.RowKit

theorem bsize (l : List UInt8) : (⟨l.toArray⟩ : ByteArray).size = l.length := by simp [ByteArray.size]
theorem too_any (s : List UInt8) (w : World) :
    Calls Try.prog 80 #[.string ⟨s.toArray⟩] w fun r w' => r = .returned (.bool (decide (400 < s.length))) ∧ w' = w := by
  have hz := bsize s
  go_enter Try.func80, Try.ntmps80
  go_wp2_with fail
  go_ret
  exact ⟨ret_bool (by rw [Bool.eq_iff_iff]; simp; omega), rfl⟩
theorem enters_too (args : Array Value) (w : World) : (callFunc 80 args).run Try.prog w = .ok (.enter 80 args) w := by kernel_rfl

def gIx (l : List (List UInt8)) : Int := match l.findIdx? (fun s => decide (400 < s.length)) with | some i => (i : Nat) | none => -1
theorem gIx_at {l : List (List UInt8)} {i : Nat} (hi : i < l.length) (h : ∀ j (hj : j < l.length), j < i → decide (400 < l[j].length) = false) (hq : decide (400 < l[i].length) = true) : gIx l = i := by
  unfold gIx
  have : l.findIdx? (fun s => decide (400 < s.length)) = some i := by
    rw [List.findIdx?_eq_some_iff_getElem]
    exact ⟨hi, hq, fun j hj => by rw [h j (by omega) hj]; simp⟩
  rw [this]
theorem gIx_none {l : List (List UInt8)} (h : ∀ j (hj : j < l.length), decide (400 < l[j].length) = false) : gIx l = -1 := by
  unfold gIx
  have : l.findIdx? (fun s => decide (400 < s.length)) = none := by
    rw [List.findIdx?_eq_none_iff]
    intro x hx
    obtain ⟨j, hj, rfl⟩ := List.getElem_of_mem hx
    exact h j hj
  rw [this]
theorem gIx_any (l : List (List UInt8)) : decide (0 ≤ gIx l) = l.any fun s => decide (400 < s.length) := by
  unfold gIx
  cases h : l.findIdx? (fun s => decide (400 < s.length)) with
  | none =>
    rw [List.findIdx?_eq_none_iff] at h
    have : (l.any fun s => decide (400 < s.length)) = false := by
      rw [List.any_eq_false]; intro x hx; rw [h x hx]; simp
    rw [this]; decide
  | some i =>
    obtain ⟨hi, h1, _⟩ := List.findIdx?_eq_some_iff_getElem.1 h
    have : (l.any fun s => decide (400 < s.length)) = true := List.any_eq_true.2 ⟨_, List.getElem_mem hi, h1⟩
    rw [this]; simp

set_option maxHeartbeats 800000 in
theorem indexFuncS (P : Nat → Prop) (w : World) (v : Value) (l : List (List UInt8)) (h : StSl P w v l) :
    Calls Try.prog 84 #[v, .func (.func 80) #[] #[]] w fun r w' => r = .returned (.int .i64 (gIx l)) ∧ w' = w := by
  have hcf := enters_too
  obtain ⟨ao, cap, rfl⟩ := h.form
  obtain ⟨_, hl, hcap⟩ := h.len
  go_enter Try.func84, Try.ntmps84
  go_wp2_with fail
  go_loopg [8] l.length (fun g iv wr => ∃ i : Nat, i + g = l.length ∧ iv = .int .i64 i ∧ wr = w ∧ Hid (∀ j (hj : j < l.length), j < i → decide (400 < l[j].length) = false))
  case atStart => exact ⟨0, by omega, rfl, rfl, fun j _ hj => by omega⟩
  case round =>
    obtain ⟨i, hi, rfl, hw, HP⟩ := hrel
    subst hw
    by_cases hlt : i < l.length
    · obtain ⟨b, off, hao, _, e0⟩ := h.at i hlt
      subst hao
      have HT := hide (too_any l[i] wr)
      cases hq : decide (400 < l[i].length) with
      | true =>
        rw [hq] at HT
        have HQ := hide hq
        clear hq
        go_wp2_with fail
        refine HT.out.mono ?_
        rintro r w1 ⟨rfl, hw1⟩
        subst hw1
        go_wp2_with fail
        go_ret
        exact ⟨ret_int (gIx_at hlt HP.out HQ.out).symm, rfl⟩
      | false =>
        rw [hq] at HT
        have HQ := hide hq
        clear hq
        go_wp2_with fail
        refine HT.out.mono ?_
        rintro r w1 ⟨rfl, hw1⟩
        subst hw1
        go_wp2_with fail
        go_roundg (gk - 1)
        case measure => omega
        case rel =>
          refine ⟨i + 1, by omega, by go_num, rfl, fun j hj hji => ?_⟩
          rcases Nat.lt_or_ge j i with h1 | h1
          · exact HP.out j hj h1
          · obtain rfl : j = i := by omega
            exact HQ.out
    · go_wp2_with fail
      go_ret
      exact ⟨ret_int (gIx_none (fun j hj => HP.out j hj (by omega))).symm, rfl⟩

theorem containsFuncS (P : Nat → Prop) (w : World) (v : Value) (l : List (List UInt8)) (h : StSl P w v l) :
    Calls Try.prog 79 #[v, .func (.func 80) #[] #[]] w fun r w' => r = .returned (.bool (l.any fun s => decide (400 < s.length))) ∧ w' = w := by
  have HI := hide (indexFuncS P w v l h)
  have HG := hide (gIx_any l)
  generalize gIx l = x at *
  obtain ⟨ao, cap, rfl⟩ := h.form
  clear h
  go_enter Try.func79, Try.ntmps79
  go_wp2_with fail
  refine HI.out.mono ?_
  rintro r w1 ⟨rfl, hw1⟩
  subst hw1
  go_wp2_with fail
  go_ret
  exact ⟨ret_bool (by rw [← HG.out]), rfl⟩

abbrev diV (v : Value) (n : Int) : Value := .agg #[v, .int .i64 n]

set_option maxHeartbeats 800000 in
theorem tooGreat_any (P : Nat → Prop) (w : World) (v : Value) (n : Int) (l : List (List UInt8)) (h : StSl P w v l) :
    Calls Try.prog 62 #[diV v n] w fun r w' => r = .returned (.bool (tooGreatD l)) ∧ Same w w' := by
  have HC := hide (fun wx (hk : Same w wx) => containsFuncS P wx v l (h.same hk))
  have HT := hide (show tooGreatD l = (decide (8 < l.length) || l.any fun s => decide (400 < s.length)) from rfl)
  obtain ⟨ao, cap, rfl⟩ := h.form
  obtain ⟨_, hl, hcap⟩ := h.len
  clear h
  by_cases h8 : 8 < l.length
  · have H8 := hide (decide_eq_true h8)
    go_enter Try.func62, Try.ntmps62
    go_wp2_with fail
    go_ret
    exact ⟨ret_bool (by rw [HT.out, H8.out]; rfl), (by repeat' (first | assumption | exact Kept.refl _ _ | refine Kept.drewN ?_ _ | refine Kept.drew ?_ | refine Kept.alloc ?_ _ | refine Kept.setB ?_ _ _))⟩
  · have H8 := hide (decide_eq_false h8)
    go_enter Try.func62, Try.ntmps62
    go_wp2_with fail
    refine (HC.out _ (by repeat' (first | assumption | exact Kept.refl _ _ | refine Kept.drewN ?_ _ | refine Kept.drew ?_ | refine Kept.alloc ?_ _ | refine Kept.setB ?_ _ _))).mono ?_
    rintro r w1 ⟨rfl, hw1⟩
    subst hw1
    go_wp2_with fail
    go_ret
    exact ⟨ret_bool (by rw [HT.out, H8.out, show decide ((8 : Int) < (l.length : Int)) = false by simp; omega]), (by repeat' (first | assumption | exact Kept.refl _ _ | refine Kept.drewN ?_ _ | refine Kept.drew ?_ | refine Kept.alloc ?_ _ | refine Kept.setB ?_ _ _))⟩

end Go.Proofs.Ytillhpepfpldcaa
