/- Walks of the document's own functions: TokenBytes. -/
import Derived.Test.YtkkjchfhgjfclabGreatDoorSchematells30
import Derived.Test.YtkkjchfhgjfclabGreatDoorSchematells27
namespace Go.Proofs.YtkkjchfhgjfclabGreatDoor
open Go.RowKit

theorem take_toks (l : List Tok) (k : Nat) (h : k < l.length) : l.take (k + 1) = l.take k ++ [l[k]] := List.take_succ_eq_append_getElem h

theorem rQuoted_le (w : World) (s : ByteArray) (hs : s.size ≤ 40) :
    Calls Tryz.prog 83 #[.string s] w fun e w' => ∃ b : ByteArray, e = .returned (.string b) ∧ b.data.toList = quoteL s.data.toList ∧ w' = w := rQuoted_any w s (by omega)

set_option maxRecDepth 20000 in
set_option maxHeartbeats 3200000 in
theorem rBytes_big (w : World) (v : Value) (l : List Tok) (h : TokSl w v l) (hlen : l.length ≤ 100000) (hck : checkF l = 0) :
    Calls Tryz.prog 50 #[v] w fun e w' => ∃ b : ByteArray, e = .returned (.string b) ∧ b.data.toList = printF l ∧ Same w w' := by
  obtain ⟨ao, cap, rfl, hl, hc⟩ := id h
  clear hc
  have hall : Hid (∀ i (hi : i < l.length), wrongT l[i] = 0) := checkF_all l hck
  clear hck hl
  go_enter Tryz.func50, Tryz.ntmps50
  go_wp2_with fail
  go_loopg [3, 4] l.length (fun g cur i wr => ∃ (k : Nat) (b : ByteArray), k + g = l.length ∧ i = .int .i64 k ∧ cur = .string b ∧ b.size ≤ 101 * k ∧ Same w wr ∧ Hid (b.data.toList = printF (l.take k)))
  case atStart => exact ⟨0, ⟨#[]⟩, by omega, rfl, rfl, by decide, Kept.refl _ _, by simp [Hid, printF]⟩
  case round =>
    obtain ⟨k, b, hk, rfl, rfl, hb, hK, HB⟩ := hrel
    by_cases hlt : k < l.length
    · obtain ⟨bl, off, rfl, c0, c1, c2⟩ := (h.same hK).at k hlt
      have hr := hall.out k hlt
      have HS : Hid (printF (l.take (k + 1)) = if l.take k = [] then writtenT l[k] else printF (l.take k) ++ 32 :: writtenT l[k]) := by rw [take_toks l k hlt]; exact printF_snoc _ _
      obtain ⟨tk, ts, tn, et⟩ : ∃ (tk : Int) (ts : ByteArray) (tn : Int), l[k] = ⟨tk, ts.data.toList, tn⟩ := ⟨l[k].k, ⟨l[k].s.toArray⟩, l[k].n, by simp⟩
      rw [et] at HS c0 c1 c2 hr
      simp only [Array.toArray_toList] at c0 c1 c2
      clear et
      obtain ⟨r1, r2, r3, r4⟩ := right_tok _ hr
      simp only at r1 r2 r3
      have hz := size_toList ts
      have rz : ts.size ≤ 40 := by omega
      obtain ⟨wt, hwt⟩ : ∃ wt, writtenT ⟨tk, ts.data.toList, tn⟩ = wt := ⟨_, rfl⟩
      rw [hwt] at HS r4
      have HWT := hide hwt
      clear hr r1 hz hwt
      rcases (show tk = 2 ∨ tk = 3 ∨ (tk ≠ 2 ∧ tk ≠ 3) from by omega) with rfl | rfl | ⟨n2, n3⟩
      · have HD := hide (fun w => digits_any tn r2 r3 w)
        have HW2 := hide (show Lib.itoa tn = wt by rw [← HWT.out]; rfl)
        by_cases h0 : 0 < k
        · have HP := hide (show printF (l.take (k + 1)) = printF (l.take k) ++ 32 :: wt by rw [HS.out, if_neg (take_ne h0 hlt)])
          go_wp2_with fail
          refine (HD.out _).mono ?_
          rintro e w1 ⟨b1, rfl, hb1, hK1⟩
          have hz1 := size_toList b1
          rw [hb1, HW2.out] at hz1
          have s1 : b1.size ≤ 100 := by omega
          have HB1 := hide hb1
          clear hb1 hz1
          go_wp2_with fail
          go_roundg (gk - 1)
          case measure => omega
          case rel => exact ⟨k + 1, b ++ ⟨#[32]⟩ ++ b1, by omega, by go_num, rfl, by rw [ByteArray.size_append, ByteArray.size_append]; have : (⟨#[32]⟩ : ByteArray).size = 1 := rfl; omega, hK.trans hK1 (fun _ _ f => f.elim), by rw [Hid, app_bytes, app_bytes, HB.out, HP.out, HB1.out, HW2.out]; simp⟩
        · have HP := hide (show printF (l.take (k + 1)) = printF (l.take k) ++ wt by
            have h00 : l.take k = [] := by rw [show k = 0 from by omega]; rfl
            rw [HS.out, if_pos h00, h00]; rfl)
          go_wp2_with fail
          refine (HD.out _).mono ?_
          rintro e w1 ⟨b1, rfl, hb1, hK1⟩
          have hz1 := size_toList b1
          rw [hb1, HW2.out] at hz1
          have s1 : b1.size ≤ 100 := by omega
          have HB1 := hide hb1
          clear hb1 hz1
          go_wp2_with fail
          go_roundg (gk - 1)
          case measure => omega
          case rel => exact ⟨k + 1, b ++ b1, by omega, by go_num, rfl, by rw [ByteArray.size_append]; omega, hK.trans hK1 (fun _ _ f => f.elim), by rw [Hid, app_bytes, HB.out, HP.out, HB1.out, HW2.out]⟩
      · have HD := hide (fun w => rQuoted_le w ts rz)
        have HW2 := hide (show quoteL ts.data.toList = wt by rw [← HWT.out]; rfl)
        by_cases h0 : 0 < k
        · have HP := hide (show printF (l.take (k + 1)) = printF (l.take k) ++ 32 :: wt by rw [HS.out, if_neg (take_ne h0 hlt)])
          go_wp2_with fail
          refine (HD.out _).mono ?_
          rintro e w1 ⟨b1, rfl, hb1, rfl⟩
          have hz1 := size_toList b1
          rw [hb1, HW2.out] at hz1
          have s1 : b1.size ≤ 100 := by omega
          have HB1 := hide hb1
          clear hb1 hz1
          go_wp2_with fail
          go_roundg (gk - 1)
          case measure => omega
          case rel => exact ⟨k + 1, b ++ ⟨#[32]⟩ ++ b1, by omega, by go_num, rfl, by rw [ByteArray.size_append, ByteArray.size_append]; have : (⟨#[32]⟩ : ByteArray).size = 1 := rfl; omega, hK, by rw [Hid, app_bytes, app_bytes, HB.out, HP.out, HB1.out, HW2.out]; simp⟩
        · have HP := hide (show printF (l.take (k + 1)) = printF (l.take k) ++ wt by
            have h00 : l.take k = [] := by rw [show k = 0 from by omega]; rfl
            rw [HS.out, if_pos h00, h00]; rfl)
          go_wp2_with fail
          refine (HD.out _).mono ?_
          rintro e w1 ⟨b1, rfl, hb1, rfl⟩
          have hz1 := size_toList b1
          rw [hb1, HW2.out] at hz1
          have s1 : b1.size ≤ 100 := by omega
          have HB1 := hide hb1
          clear hb1 hz1
          go_wp2_with fail
          go_roundg (gk - 1)
          case measure => omega
          case rel => exact ⟨k + 1, b ++ b1, by omega, by go_num, rfl, by rw [ByteArray.size_append]; omega, hK, by rw [Hid, app_bytes, HB.out, HP.out, HB1.out, HW2.out]⟩
      · have e2 : (tk == 2) = false := by simp [n2]
        have e3 : (tk == 3) = false := by simp [n3]
        have HW2 := hide (show ts.data.toList = wt by rw [← HWT.out]; unfold writtenT; rw [if_neg n2, if_neg n3])
        clear n2 n3
        by_cases h0 : 0 < k
        · have HP := hide (show printF (l.take (k + 1)) = printF (l.take k) ++ 32 :: wt by rw [HS.out, if_neg (take_ne h0 hlt)])
          go_wp2_with fail
          go_roundg (gk - 1)
          case measure => omega
          case rel => exact ⟨k + 1, b ++ ⟨#[32]⟩ ++ ts, by omega, by go_num, rfl, by rw [ByteArray.size_append, ByteArray.size_append]; have : (⟨#[32]⟩ : ByteArray).size = 1 := rfl; omega, hK, by rw [Hid, app_bytes, app_bytes, HB.out, HP.out, HW2.out]; simp⟩
        · have HP := hide (show printF (l.take (k + 1)) = printF (l.take k) ++ wt by
            have h00 : l.take k = [] := by rw [show k = 0 from by omega]; rfl
            rw [HS.out, if_pos h00, h00]; rfl)
          go_wp2_with fail
          go_roundg (gk - 1)
          case measure => omega
          case rel => exact ⟨k + 1, b ++ ts, by omega, by go_num, rfl, by rw [ByteArray.size_append]; omega, hK, by rw [Hid, app_bytes, HB.out, HP.out, HW2.out]⟩
    · go_wp2_with fail
      go_ret
      exact ⟨b, rfl, by rw [HB.out, List.take_of_length_le (by omega)], hK⟩

theorem rBytes_any (w : World) (v : Value) (l : List Tok) (h : TokSl w v l) (hck : lexCheck l = 0) :
    Calls Tryz.prog 50 #[v] w fun e w' => ∃ b : ByteArray, e = .returned (.string b) ∧ b.data.toList = printF l ∧ Same w w' := by
  have hlen : l.length ≤ 300 := by
    unfold lexCheck at hck
    split at hck
    · exact absurd hck (by decide)
    · omega
  unfold lexCheck at hck
  rw [if_neg (by omega)] at hck
  exact rBytes_big w v l h (by omega) hck

end Go.Proofs.YtkkjchfhgjfclabGreatDoor
