/- Walks of lex's functions on bytes and on one token. -/
import Derived.Test.YthbnhnnafkkpkaaDoorChecked
import Derived.Test.YthbnhnnafkkpkaaDoorBase
import Derived.Test.YthbnhnnafkkpkaaDoorLexL
import Derived.Lib.Bytealg
namespace Go.Proofs.YthbnhnnafkkpkaaDoor
open Go.RowKit

theorem isDigit_any (c : UInt8) (w : World) :
    Calls Tryd.prog 49 #[.int .u8 c.toNat] w fun e w' => e = .returned (.bool (dig c)) ∧ w' = w := by
  go_enter Tryd.func49, Tryd.ntmps49
  go_wp2
  all_goals go_ret
  all_goals refine ⟨ret_bool ?_, rfl⟩
  all_goals (rw [Bool.eq_iff_iff]; simp; try omega)

theorem begins_any (c : UInt8) (w : World) :
    Calls Tryd.prog 46 #[.int .u8 c.toNat] w fun e w' => e = .returned (.bool (beg c)) ∧ w' = w := by
  go_enter Tryd.func46, Tryd.ntmps46
  go_wp2
  all_goals go_ret
  all_goals refine ⟨ret_bool ?_, rfl⟩
  all_goals (rw [Bool.eq_iff_iff]; simp; try omega)

def begX (c : UInt8) : Bool := beg c
def digX (c : UInt8) : Bool := dig c

theorem goesOn_any (c : UInt8) (w : World) :
    Calls Tryd.prog 48 #[.int .u8 c.toNat] w fun e w' => e = .returned (.bool (onn c)) ∧ w' = w := by
  have hb : ∀ w, Calls Tryd.prog 46 #[.int .u8 c.toNat] w fun e w' => e = .returned (.bool (begX c)) ∧ w' = w := fun w => begins_any c w
  have hd : ∀ w, Calls Tryd.prog 49 #[.int .u8 c.toNat] w fun e w' => e = .returned (.bool (digX c)) ∧ w' = w := fun w => isDigit_any c w
  have Hb := hide (hb)
  have Hd := hide (hd)
  clear hb hd
  have key : ∀ b d : Bool, begX c = b → digX c = d → onn c = (b || d) := by intro b d h1 h2; rw [← h1, ← h2]; rfl
  have Key := hide (key)
  clear key
  cases h1 : begX c <;> cases h2 : digX c
  all_goals
    have hk := Key.out _ _ h1 h2
    have HK := hide (hk)
    clear hk
    go_enter Tryd.func48, Tryd.ntmps48
    go_wp2_with (first
      | (go_at_call 46; refine (Hb.out _).mono ?_; rintro e w' ⟨rfl, rfl⟩)
      | (go_at_call 49; refine (Hd.out _).mono ?_; rintro e w' ⟨rfl, rfl⟩))
    all_goals go_ret
    all_goals exact ⟨ret_bool (by rw [HK.out]; rfl), rfl⟩

theorem blank1_any (c : UInt8) (w : World) :
    Calls Tryd.prog 44 #[.int .u8 c.toNat] w fun e w' => e = .returned (.bool (wh c)) ∧ w' = w := by
  go_enter Tryd.func44, Tryd.ntmps44
  go_wp2
  all_goals go_ret
  all_goals refine ⟨ret_bool ?_, rfl⟩
  all_goals (rw [Bool.eq_iff_iff]; simp_all; try omega)

theorem blank2_any (c : UInt8) (w : World) :
    Calls Tryd.prog 45 #[.int .u8 c.toNat] w fun e w' => e = .returned (.bool (nn c)) ∧ w' = w := by
  go_enter Tryd.func45, Tryd.ntmps45
  go_wp2
  all_goals go_ret
  all_goals refine ⟨ret_bool ?_, rfl⟩
  all_goals (rw [Bool.eq_iff_iff]; simp_all; try omega)

theorem words1_any (c : UInt8) (w : World) :
    Calls Tryd.prog 59 #[.int .u8 c.toNat] w fun e w' => e = .returned (.bool (plain c)) ∧ w' = w := by
  go_enter Tryd.func59, Tryd.ntmps59
  go_wp2
  all_goals go_ret
  all_goals refine ⟨ret_bool ?_, rfl⟩
  all_goals (rw [Bool.eq_iff_iff]; simp_all; try omega)

theorem indexByte_sgn (c : UInt8) : decide (0 ≤ Lib.indexByte [123, 125, 40, 41, 58, 91, 93] c) = sgn c := by
  have h : ∀ n : Fin 256, decide (0 ≤ Lib.indexByte [123, 125, 40, 41, 58, 91, 93] (UInt8.ofNat n)) = sgn (UInt8.ofNat n) := by decide +kernel
  have h1 := h ⟨c.toNat, c.toNat_lt⟩
  simpa using h1

set_option maxRecDepth 100000 in
theorem indexByte_any (s : ByteArray) (c : UInt8) (w : World) :
    Calls Tryd.prog 66 #[.string s, .int .u8 c.toNat] w fun e w' => e = .returned (.int .i64 (Lib.indexByte s.data.toList c)) ∧ w' = w := by
  go_enter Tryd.func66, Tryd.ntmps66
  go_wp2
  rw [run_callFunc_extern Tryd.func76 (by kernel_rfl) (by kernel_rfl) (by kernel_rfl) (e := Extern.BytealgIndexByte.indexByte) (by kernel_rfl), Lib.run_indexByteString]
  simp only [Result.andThen]
  rw [Oper.upon_value]
  go_wp2
  go_ret
  exact ⟨ret_int (by congr 1), rfl⟩

theorem isSign_any (c : UInt8) (w : World) :
    Calls Tryd.prog 52 #[.int .u8 c.toNat] w fun e w' => e = .returned (.bool (sgn c)) ∧ w' = w := by
  go_enter Tryd.func52, Tryd.ntmps52
  go_wp2_with (first
    | (go_at_call 62; go_in)
    | (go_at_call 66; refine (indexByte_any _ c _).mono ?_; rintro e w' ⟨rfl, rfl⟩))
  all_goals go_ret
  all_goals refine ⟨ret_bool ?_, rfl⟩
  all_goals (rw [← indexByte_sgn c]; try rfl)

end Go.Proofs.YthbnhnnafkkpkaaDoor
