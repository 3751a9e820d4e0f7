/- Walks of lex: isName, wrong. -/
import Derived.Test.YthbnhnnafkkpkaaDoorLex6
namespace Go.Proofs.YthbnhnnafkkpkaaDoor
open Go.RowKit

theorem all_at (p : UInt8 → Bool) (s : ByteArray) : s.data.toList.all p = true ↔ ∀ k (h : k < s.size), p s[k] = true := by
  rw [List.all_eq_true]
  constructor
  · intro h k hk
    exact h _ (List.getElem_mem (l := s.data.toList) (by simpa using hk))
  · intro h x hx
    obtain ⟨k, hk, rfl⟩ := List.getElem_of_mem hx
    exact h k (by simpa using hk)

set_option maxHeartbeats 400000 in
theorem isName_any (s : ByteArray) (w : World) (hs : s.size ≤ 2000) :
    Calls Tryd.prog 55 #[.string s] w fun e w' => e = .returned (.bool (nameOk s.data.toList)) ∧ w' = w := by
  go_enter Tryd.func55, Tryd.ntmps55
  go_wp2_with fail
  go_loopg [6] s.size (fun g i wr => wr = w ∧ ∃ k : Nat, k + g = s.size ∧ i = .int .i64 k ∧ Hid (∀ j (h : j < k), ∃ h2 : j < s.size, onn s[j] = true))
  case atStart => exact ⟨rfl, 0, by omega, rfl, fun j h => absurd h (by omega)⟩
  case round =>
    obtain ⟨rfl, k, hk, rfl, HA⟩ := hrel
    by_cases hlt : k < s.size
    · go_wp2_with fail
      refine (goesOn_any s[k] _).mono ?_
      rintro e w1 ⟨rfl, rfl⟩
      cases hp : onn s[k] with
      | true =>
        have HP := hide hp
        clear hp
        go_wp2_with fail
        go_roundg (gk - 1)
        case measure => omega
        case rel =>
          refine ⟨rfl, k + 1, by omega, by go_num, fun j hj => ?_⟩
          by_cases e : j = k
          · subst e; exact ⟨hlt, HP.out⟩
          · exact HA.out j (by omega)
      | false =>
        have HP := hide hp
        clear hp
        go_wp2_with fail
        go_ret
        refine ⟨ret_bool ?_, rfl⟩
        unfold nameOk
        have : s.data.toList.all onn = false := by
          cases hx : s.data.toList.all onn with
          | false => rfl
          | true => have := (all_at onn s).1 hx k hlt; rw [HP.out] at this; cases this
        rw [this]; rfl
    · have hall : s.data.toList.all onn = true := (all_at onn s).2 (fun j hj => (HA.out j (by omega)).2)
      have HL := hide hall
      clear hall
      by_cases h0 : s.size = 0
      · have he : s.toList.isEmpty = true := by rw [ByteArray.toList_eq, List.isEmpty_iff_length_eq_zero]; simpa using h0
        go_wp2_with fail
        go_ret
        refine ⟨ret_bool ?_, rfl⟩
        have : s.data.toList = [] := List.length_eq_zero_iff.1 (by simpa using h0)
        rw [this]; rfl
      · have he : s.toList.isEmpty = false := by
          cases hx : s.toList.isEmpty with
          | false => rfl
          | true => rw [ByteArray.toList_eq, List.isEmpty_iff_length_eq_zero] at hx; exact absurd (by simpa using hx) h0
        have hp0 : 0 < s.size := by omega
        have HB := hide (begins_any s[0])
        go_wp2_with fail
        refine (HB.out _).mono ?_
        rintro e w1 ⟨rfl, rfl⟩
        have hfin : nameOk s.data.toList = beg s[0] := by
          unfold nameOk
          rw [HL.out]
          have : s.data.toList = s[0] :: s.data.toList.drop 1 := by have := drop_at (k := 0) hp0; simpa using this
          rw [this]; simp
        have HF := hide hfin
        clear hfin
        cases hb : beg s[0]
        all_goals
          have HX := hide hb
          clear hb
          go_wp2_with fail
          go_ret
          exact ⟨ret_bool (by rw [HF.out, HX.out]), rfl⟩

end Go.Proofs.YthbnhnnafkkpkaaDoor
