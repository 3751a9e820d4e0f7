/- The reference's TokensOf, isTok, isWord: short forms. -/
import Derived.Test.YtkkjchfhgjfclaaGreatDoorQuerytellsupto41
import Derived.Test.YtkkjchfhgjfclaaGreatDoorQuerytellsupto38
namespace Go.Proofs.YtkkjchfhgjfclaaGreatDoor
open Go.RowKit

theorem tokens_is (w : World) (s : ByteArray) (T : List Tok) (h : lexRead s.data.toList = .ok T) (hT : T.length ≤ 9000000000000) :
    Calls Tryz.prog 24 #[.string s] w fun e w' => ∃ ao cap, e = .returned (.tuple #[.slice ao T.length cap, .int .i64 0]) ∧ TokSl w' (.slice ao T.length cap) T ∧ Same w w' := by
  refine (tokensOf_any w s).mono ?_
  rintro e w' (⟨T', v, h1, rfl, h2, h3⟩ | ⟨n, h1, _, rfl, h3⟩)
  · rw [h] at h1
    cases h1
    obtain ⟨ao, cap, rfl⟩ := own_slice h2
    exact ⟨ao, cap, rfl, own_toks h2 hT, h3⟩
  · rw [h] at h1; cases h1
theorem tokens_no (w : World) (s : ByteArray) (n : Int) (h : lexRead s.data.toList = .error n) :
    Calls Tryz.prog 24 #[.string s] w fun e w' => e = .returned (.tuple #[.slice none 0 0, .int .i64 n]) ∧ Same w w' ∧ n ≠ 0 := by
  refine (tokensOf_any w s).mono ?_
  rintro e w' (⟨T', v, h1, rfl, h2, h3⟩ | ⟨n', h1, h2, rfl, h3⟩)
  · rw [h] at h1; cases h1
  · rw [h] at h1
    cases h1
    exact ⟨rfl, h3, h2⟩

theorem isTok_i (w : World) (v : Value) (T : List Tok) (h : TokSl w v T) (x : Int) (i : Nat) (hx : x = (i : Int)) (c : UInt8) (q : Bool) (hq : isS c (T.drop i) = q) :
    Calls Tryz.prog 52 #[v, .int .i64 x, .string ⟨#[c]⟩] w fun e w' => e = .returned (.bool q) ∧ w' = w := by subst hx; exact isTok_is w v T h i c q hq
theorem isWord_i (w : World) (v : Value) (T : List Tok) (h : TokSl w v T) (x : Int) (i : Nat) (hx : x = (i : Int)) (q : Bool) (hq : isN (T.drop i) = q) :
    Calls Tryz.prog 53 #[v, .int .i64 x] w fun e w' => e = .returned (.bool q) ∧ w' = w := by subst hx; exact isWord_is w v T h i q hq

end Go.Proofs.YtkkjchfhgjfclaaGreatDoor
