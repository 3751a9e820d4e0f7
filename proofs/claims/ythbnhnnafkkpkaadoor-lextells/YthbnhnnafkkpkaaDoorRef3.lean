/- Walks of the document's own functions: Quoted, Digits. -/
import Derived.Test.YthbnhnnafkkpkaaDoorRef2
import Derived.Test.YthbnhnnafkkpkaaDoorLex6
import Derived.Test.YthbnhnnafkkpkaaDoorLexR
namespace Go.Proofs.YthbnhnnafkkpkaaDoor
open Go.RowKit

theorem app_bytes (a b : ByteArray) : (a ++ b).data.toList = a.data.toList ++ b.data.toList := by simp

theorem quote_step (s : ByteArray) (k : Nat) (h : k < s.size) : 34 :: (s.data.toList.take (k + 1)).flatMap quoteC = (34 :: (s.data.toList.take k).flatMap quoteC) ++ quoteC s[k] := by rw [take_at h]; simp

theorem extract_one (s : ByteArray) (k : Nat) (h : k < s.size) : (s.extract k (k + 1)).data.toList = [s[k]] := by
  have h1 := drop_at h
  simp only [ByteArray.data_extract, Array.toList_extract, List.extract_eq_take_drop]
  rw [h1, show k + 1 - k = 1 from by omega]
  rfl

set_option maxHeartbeats 1600000 in
theorem rQuoted_any (w : World) (s : ByteArray) (hs : s.size ≤ 2000) :
    Calls Tryd.prog 30 #[.string s] w fun e w' => ∃ b : ByteArray, e = .returned (.string b) ∧ b.data.toList = quoteL s.data.toList ∧ w' = w := by
  go_enter Tryd.func30, Tryd.ntmps30
  go_wp2_with fail
  go_loopg [3, 4] s.size (fun g cur i wr => wr = w ∧ ∃ (k : Nat) (b : ByteArray), k + g = s.size ∧ i = .int .i64 k ∧ cur = .string b ∧ b.size ≤ 2 * k + 1 ∧ Hid (b.data.toList = 34 :: (s.data.toList.take k).flatMap quoteC))
  case atStart => exact ⟨rfl, 0, ⟨#[34]⟩, by omega, rfl, rfl, by decide, by simp [Hid]⟩
  case round =>
    obtain ⟨rfl, k, b, hk, rfl, rfl, hb, HB⟩ := hrel
    by_cases hlt : k < s.size
    · have hq := quote_step s k hlt
      rcases (show s[k].toNat = 34 ∨ s[k].toNat = 92 ∨ s[k].toNat = 10 ∨ (s[k].toNat ≠ 34 ∧ s[k].toNat ≠ 92 ∧ s[k].toNat ≠ 10) from by omega) with h | h | h | h
      · have hc : s[k] = 34 := UInt8.toNat_inj.1 h
        have HQ := hide (show 34 :: (s.data.toList.take (k + 1)).flatMap quoteC = (34 :: (s.data.toList.take k).flatMap quoteC) ++ [92, 34] by rw [hq, hc]; rfl)
        have t1 : ((s[k].toNat : Int) == 34) = true := by simp; omega
        clear hq h hc
        go_wp2_with fail
        go_roundg (gk - 1)
        case measure => omega
        case rel => exact ⟨rfl, k + 1, b ++ ⟨#[92, 34]⟩, by omega, by go_num, rfl, by rw [ByteArray.size_append]; have : (⟨#[92, 34]⟩ : ByteArray).size = 2 := rfl; omega, by rw [Hid, app_bytes, HB.out, HQ.out]⟩
      · have hc : s[k] = 92 := UInt8.toNat_inj.1 h
        have HQ := hide (show 34 :: (s.data.toList.take (k + 1)).flatMap quoteC = (34 :: (s.data.toList.take k).flatMap quoteC) ++ [92, 92] by rw [hq, hc]; rfl)
        have t1 : ((s[k].toNat : Int) == 34) = false := by simp; omega
        have t2 : ((s[k].toNat : Int) == 92) = true := by simp; omega
        clear hq h hc
        go_wp2_with fail
        go_roundg (gk - 1)
        case measure => omega
        case rel => exact ⟨rfl, k + 1, b ++ ⟨#[92, 92]⟩, by omega, by go_num, rfl, by rw [ByteArray.size_append]; have : (⟨#[92, 92]⟩ : ByteArray).size = 2 := rfl; omega, by rw [Hid, app_bytes, HB.out, HQ.out]⟩
      · have hc : s[k] = 10 := UInt8.toNat_inj.1 h
        have HQ := hide (show 34 :: (s.data.toList.take (k + 1)).flatMap quoteC = (34 :: (s.data.toList.take k).flatMap quoteC) ++ [92, 110] by rw [hq, hc]; rfl)
        have t1 : ((s[k].toNat : Int) == 34) = false := by simp; omega
        have t2 : ((s[k].toNat : Int) == 92) = false := by simp; omega
        have t3 : ((s[k].toNat : Int) == 10) = true := by simp; omega
        clear hq h hc
        go_wp2_with fail
        go_roundg (gk - 1)
        case measure => omega
        case rel => exact ⟨rfl, k + 1, b ++ ⟨#[92, 110]⟩, by omega, by go_num, rfl, by rw [ByteArray.size_append]; have : (⟨#[92, 110]⟩ : ByteArray).size = 2 := rfl; omega, by rw [Hid, app_bytes, HB.out, HQ.out]⟩
      · have HQ := hide (show 34 :: (s.data.toList.take (k + 1)).flatMap quoteC = (34 :: (s.data.toList.take k).flatMap quoteC) ++ [s[k]] by rw [hq, quoteC, if_neg (by omega), if_neg (by omega)])
        have t1 : ((s[k].toNat : Int) == 34) = false := by simp; omega
        have t2 : ((s[k].toNat : Int) == 92) = false := by simp; omega
        have t3 : ((s[k].toNat : Int) == 10) = false := by simp; omega
        have HX := hide (extract_one s k hlt)
        have hxs : (s.extract k (k + 1)).size = 1 := by rw [← size_toList, HX.out]; rfl
        clear hq h
        go_wp2_with fail
        go_roundg (gk - 1)
        case measure => omega
        case rel => exact ⟨rfl, k + 1, b ++ s.extract k (k + 1), by omega, by go_num, rfl, by rw [ByteArray.size_append]; omega, by rw [Hid, app_bytes, HB.out, HQ.out, HX.out]⟩
    · go_wp2_with fail
      go_ret
      exact ⟨_, rfl, by rw [app_bytes, HB.out, List.take_of_length_le (by rw [size_toList]; omega)]; rfl, rfl⟩

end Go.Proofs.YthbnhnnafkkpkaaDoor
