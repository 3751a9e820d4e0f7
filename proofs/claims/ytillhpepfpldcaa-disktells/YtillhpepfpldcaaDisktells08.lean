import Derived.Test.YtillhpepfpldcaaDisktells01
import Derived.Test.YtillhpepfpldcaaDisktells02
import Derived.Test.YtillhpepfpldcaaDisktells03
import Derived.Test.YtillhpepfpldcaaDisktells07
import Derived.Lib.ItoaNum
/- The reference: CheckBatch. -/
namespace Go.Proofs.Ytillhpepfpldcaa
open Go.RowKit

def rngE (e : EventT) : Bool := btw e.ty 0 4 && (btw e.id 1 999 && (btw e.field 0 5 && btw e.n (-999999999) 999999999))
theorem range_ref (e : EventT) : rangeE e = rngE e := by
  unfold rangeE rngE isIx isIdT btw
  rw [Bool.eq_iff_iff]
  simp
  omega
theorem wrongEs_take (l : List EventT) : ∀ i (hi : i < l.length), (∀ j (hj : j < l.length), j < i → wrongE l[j] = 0) → wrongE l[i] ≠ 0 → wrongEs l = wrongE l[i] := by
  induction l with
  | nil => intro i hi; simp at hi
  | cons x r ih =>
    intro i hi h hw
    rw [wrongEs]
    cases i with
    | zero => rw [if_pos (by simpa using hw)]; rfl
    | succ i =>
      have h0 := h 0 (by simp) (by omega)
      simp only [List.getElem_cons_zero] at h0
      rw [if_neg (by simp [h0])]
      simpa using ih i (by simpa using hi) (fun j hj hji => by have := h (j + 1) (by simpa using hj) (by omega); simpa using this) (by simpa using hw)
theorem wrongEs_all (l : List EventT) (h : ∀ j (hj : j < l.length), wrongE l[j] = 0) : wrongEs l = 0 := by
  induction l with
  | nil => rfl
  | cons x r ih =>
    have h0 := h 0 (by simp)
    simp only [List.getElem_cons_zero] at h0
    rw [wrongEs, if_neg (by simp [h0])]
    exact ih (fun j hj => by have := h (j + 1) (by simpa using hj); simpa using this)

theorem rInt_btw (n : Int) (w : World) :
    Calls Try.prog 38 #[.int .i64 n] w fun e w' => e = .returned (.bool (btw n (-999999999) 999999999)) ∧ w' = w := isInt_any n w

set_option maxHeartbeats 3200000 in
theorem rCheckBatch_any (P : Nat → Prop) (b : BatchT) (v : Value) (w : World) (h : EvSl P w v b.events) :
    Calls Try.prog 10 #[baV b.number v] w fun r w' => r = .returned (.int .i64 (checkBa b)) ∧ Same w w' := by
  obtain ⟨num, l⟩ := b
  simp only at h ⊢
  obtain ⟨ao, cap, rfl⟩ := h.form
  obtain ⟨_, hl, hcap⟩ := h.len
  cases hb : btw num 1 65535 with
  | false =>
    have HF := hide (show checkBa ⟨num, l⟩ = 3 by unfold checkBa; rw [if_pos]; unfold btw at hb; simp at hb; simp only; omega)
    have HB := hide hb
    clear hb
    go_enter Try.func10, Try.ntmps10
    go_wp2_with fail
    refine (btw_any _ _ _ _).mono ?_
    rintro e w' ⟨rfl, rfl⟩
    rw [HB.out]
    go_wp2_with fail
    go_ret
    exact ⟨ret_int HF.out.symm, (by repeat' (first | assumption | exact Kept.refl _ _ | refine Kept.drewN ?_ _ | refine Kept.drew ?_ | refine Kept.alloc ?_ _ | refine Kept.setB ?_ _ _))⟩
  | true =>
    have h1 : ¬ (num < 1 ∨ 65535 < num) := by unfold btw at hb; simp at hb; omega
    have HB := hide hb
    clear hb
    by_cases h4 : l.length = 0
    · have HF := hide (show checkBa ⟨num, l⟩ = 1 by unfold checkBa; rw [if_neg h1, if_pos h4])
      have h4' : ((l.length : Int) == 0) = true := by simp; exact List.length_eq_zero_iff.1 h4
      clear h1 h4
      go_enter Try.func10, Try.ntmps10
      go_wp2_with fail
      refine (btw_any _ _ _ _).mono ?_
      rintro e w' ⟨rfl, rfl⟩
      rw [HB.out]
      go_wp2_with fail
      go_ret
      exact ⟨ret_int HF.out.symm, (by repeat' (first | assumption | exact Kept.refl _ _ | refine Kept.drewN ?_ _ | refine Kept.drew ?_ | refine Kept.alloc ?_ _ | refine Kept.setB ?_ _ _))⟩
    · have h4' : ((l.length : Int) == 0) = false := by rw [beq_eq_false_iff_ne]; omega
      by_cases h5 : 8 < l.length
      · have HF := hide (show checkBa ⟨num, l⟩ = 2 by unfold checkBa; rw [if_neg h1, if_neg h4, if_pos h5])
        clear h1 h4
        go_enter Try.func10, Try.ntmps10
        go_wp2_with fail
        refine (btw_any _ _ _ _).mono ?_
        rintro e w' ⟨rfl, rfl⟩
        rw [HB.out]
        go_wp2_with fail
        go_ret
        exact ⟨ret_int HF.out.symm, (by repeat' (first | assumption | exact Kept.refl _ _ | refine Kept.drewN ?_ _ | refine Kept.drew ?_ | refine Kept.alloc ?_ _ | refine Kept.setB ?_ _ _))⟩
      · have HF := hide (show checkBa ⟨num, l⟩ = wrongEs l by unfold checkBa; rw [if_neg h1, if_neg h4, if_neg h5])
        clear h1 h4
        have hg0 := heap_alloc_new w (.cells #[.int .i64 num, .slice ao l.length cap] 24)
        have hz0 : w.heap.size < (w.alloc (.cells #[.int .i64 num, .slice ao l.length cap] 24)).heap.size := by simp
        have HS := hide h
        clear h
        go_enter Try.func10, Try.ntmps10
        go_wp2_with fail
        refine (btw_any _ _ _ _).mono ?_
        rintro e w0 ⟨rfl, hw0⟩
        rw [HB.out]
        have hK0 : Same w w0 := by rw [hw0]; exact (Kept.refl _ w).alloc _
        rw [← hw0] at hg0 hz0
        clear hw0
        obtain ⟨c0, c1⟩ := blk2 hg0
        go_wp2_with fail
        clear c0 c1
        go_loopg [3] l.length (fun g iv wr => ∃ i : Nat, i + g = l.length ∧ iv = .int .i64 i ∧ Same w wr ∧ Hid (wr.heap[w.heap.size]? = some (.cells #[.int .i64 num, .slice ao l.length cap] 24 (0, 0))) ∧ Hid (∀ j (hj : j < l.length), j < i → wrongE l[j] = 0))
        case atStart => exact ⟨0, by omega, rfl, hK0, hg0, fun j _ hj => by omega⟩
        case round =>
          obtain ⟨i, hi, rfl, hK, HG, HP⟩ := hrel
          clear hK0 hg0 hz0
          obtain ⟨c0, c1⟩ := blk2 HG.out
          by_cases hlt : i < l.length
          · obtain ⟨b, off, hao, _, e0, e1, e2, e3, e4, e5⟩ := (HS.out.same hK).at i hlt
            subst hao
            obtain ⟨x, hx⟩ : ∃ x, x = l[i] := ⟨_, rfl⟩
            rw [← hx] at e0 e1 e2 e3 e4 e5
            have HX := hide hx
            clear hx
            have HC := hide (fun wx => checkEvent_any x wx)
            have HW := hide (show wrongE x = if shapeE x ≠ 0 then shapeE x else if rngE x = false then 3 else if 40 < x.text.length then 2 else 0 by unfold wrongE; rw [range_ref])
            have HT := hide (show wrongE x ≠ 0 → checkBa ⟨num, l⟩ = wrongE x by intro hw; rw [HF.out, HX.out]; exact wrongEs_take l i hlt HP.out (by rw [← HX.out]; exact hw))
            have hsz : (⟨x.text.toArray⟩ : ByteArray).size = x.text.length := by simp [ByteArray.size]
            by_cases h0 : shapeE x = 0
            · have h0' : (shapeE x != 0) = false := by simp [h0]
              have HR := hide (show rngE x = (btw x.ty 0 4 && (btw x.id 1 999 && (btw x.field 0 5 && btw x.n (-999999999) 999999999))) from rfl)
              have H0 := hide h0
              clear h0
              cases hb1 : btw x.ty 0 4 with
              | false =>
                have HB1 := hide hb1
                clear hb1
                have hw : wrongE x = 3 := by rw [HW.out, if_neg (by simp [H0.out]), if_pos (by rw [HR.out, HB1.out]; rfl)]
                have HE := hide (show checkBa ⟨num, l⟩ = 3 by rw [HT.out (by rw [hw]; decide), hw])
                clear hw HW HT HR
                obtain ⟨xk, xty, xid, xf, xn, xt⟩ := x
                simp only at e0 e1 e2 e3 e4 e5 hsz HB1
                go_wp2_with fail
                refine (HC.out _).mono ?_
                rintro r w1 ⟨rfl, hK1⟩
                have hg1 := new_kept (w := wr) hK1 (fun f => f)
                obtain ⟨z0, z1, z2, z3, z4, z5, _⟩ := cells6 hg1
                have hK2 : Same w w1 := hK.trans hK1.unA (fun _ _ f => f)
                have HG1 := hide (blk_kept HG.out hK1.unA (fun f => f))
                clear hK1
                go_wp2_with fail
                refine (btw_any _ _ _ _).mono ?_
                rintro e w' ⟨rfl, hw'⟩
                subst hw'
                rw [HB1.out]
                go_wp2_with fail
                go_ret
                exact ⟨ret_int HE.out.symm, by first | exact hK2 | exact (by repeat' (first | assumption | exact Kept.refl _ _ | refine Kept.drewN ?_ _ | refine Kept.drew ?_ | refine Kept.alloc ?_ _ | refine Kept.setB ?_ _ _))⟩
              | true =>
                have HB1 := hide hb1
                clear hb1
                cases hb2 : btw x.id 1 999 with
                | false =>
                  have HB2 := hide hb2
                  clear hb2
                  have hw : wrongE x = 3 := by rw [HW.out, if_neg (by simp [H0.out]), if_pos (by rw [HR.out, HB1.out, HB2.out]; rfl)]
                  have HE := hide (show checkBa ⟨num, l⟩ = 3 by rw [HT.out (by rw [hw]; decide), hw])
                  clear hw HW HT HR
                  obtain ⟨xk, xty, xid, xf, xn, xt⟩ := x
                  simp only at e0 e1 e2 e3 e4 e5 hsz HB1 HB2
                  go_wp2_with fail
                  refine (HC.out _).mono ?_
                  rintro r w1 ⟨rfl, hK1⟩
                  have hg1 := new_kept (w := wr) hK1 (fun f => f)
                  obtain ⟨z0, z1, z2, z3, z4, z5, _⟩ := cells6 hg1
                  have hK2 : Same w w1 := hK.trans hK1.unA (fun _ _ f => f)
                  have HG1 := hide (blk_kept HG.out hK1.unA (fun f => f))
                  clear hK1
                  go_wp2_with fail
                  refine (btw_any _ _ _ _).mono ?_
                  rintro e w' ⟨rfl, hw'⟩
                  subst hw'
                  rw [HB1.out]
                  go_wp2_with fail
                  refine (btw_any _ _ _ _).mono ?_
                  rintro e w' ⟨rfl, hw'⟩
                  subst hw'
                  rw [HB2.out]
                  go_wp2_with fail
                  go_ret
                  exact ⟨ret_int HE.out.symm, by first | exact hK2 | exact (by repeat' (first | assumption | exact Kept.refl _ _ | refine Kept.drewN ?_ _ | refine Kept.drew ?_ | refine Kept.alloc ?_ _ | refine Kept.setB ?_ _ _))⟩
                | true =>
                  have HB2 := hide hb2
                  clear hb2
                  cases hb3 : btw x.field 0 5 with
                  | false =>
                    have HB3 := hide hb3
                    clear hb3
                    have hw : wrongE x = 3 := by rw [HW.out, if_neg (by simp [H0.out]), if_pos (by rw [HR.out, HB1.out, HB2.out, HB3.out]; rfl)]
                    have HE := hide (show checkBa ⟨num, l⟩ = 3 by rw [HT.out (by rw [hw]; decide), hw])
                    clear hw HW HT HR
                    obtain ⟨xk, xty, xid, xf, xn, xt⟩ := x
                    simp only at e0 e1 e2 e3 e4 e5 hsz HB1 HB2 HB3
                    go_wp2_with fail
                    refine (HC.out _).mono ?_
                    rintro r w1 ⟨rfl, hK1⟩
                    have hg1 := new_kept (w := wr) hK1 (fun f => f)
                    obtain ⟨z0, z1, z2, z3, z4, z5, _⟩ := cells6 hg1
                    have hK2 : Same w w1 := hK.trans hK1.unA (fun _ _ f => f)
                    have HG1 := hide (blk_kept HG.out hK1.unA (fun f => f))
                    clear hK1
                    go_wp2_with fail
                    refine (btw_any _ _ _ _).mono ?_
                    rintro e w' ⟨rfl, hw'⟩
                    subst hw'
                    rw [HB1.out]
                    go_wp2_with fail
                    refine (btw_any _ _ _ _).mono ?_
                    rintro e w' ⟨rfl, hw'⟩
                    subst hw'
                    rw [HB2.out]
                    go_wp2_with fail
                    refine (btw_any _ _ _ _).mono ?_
                    rintro e w' ⟨rfl, hw'⟩
                    subst hw'
                    rw [HB3.out]
                    go_wp2_with fail
                    go_ret
                    exact ⟨ret_int HE.out.symm, by first | exact hK2 | exact (by repeat' (first | assumption | exact Kept.refl _ _ | refine Kept.drewN ?_ _ | refine Kept.drew ?_ | refine Kept.alloc ?_ _ | refine Kept.setB ?_ _ _))⟩
                  | true =>
                    have HB3 := hide hb3
                    clear hb3
                    cases hb4 : btw x.n (-999999999) 999999999 with
                    | false =>
                      have HB4 := hide hb4
                      clear hb4
                      have hw : wrongE x = 3 := by rw [HW.out, if_neg (by simp [H0.out]), if_pos (by rw [HR.out, HB1.out, HB2.out, HB3.out, HB4.out]; rfl)]
                      have HE := hide (show checkBa ⟨num, l⟩ = 3 by rw [HT.out (by rw [hw]; decide), hw])
                      clear hw HW HT HR
                      obtain ⟨xk, xty, xid, xf, xn, xt⟩ := x
                      simp only at e0 e1 e2 e3 e4 e5 hsz HB1 HB2 HB3 HB4
                      go_wp2_with fail
                      refine (HC.out _).mono ?_
                      rintro r w1 ⟨rfl, hK1⟩
                      have hg1 := new_kept (w := wr) hK1 (fun f => f)
                      obtain ⟨z0, z1, z2, z3, z4, z5, _⟩ := cells6 hg1
                      have hK2 : Same w w1 := hK.trans hK1.unA (fun _ _ f => f)
                      have HG1 := hide (blk_kept HG.out hK1.unA (fun f => f))
                      clear hK1
                      go_wp2_with fail
                      refine (btw_any _ _ _ _).mono ?_
                      rintro e w' ⟨rfl, hw'⟩
                      subst hw'
                      rw [HB1.out]
                      go_wp2_with fail
                      refine (btw_any _ _ _ _).mono ?_
                      rintro e w' ⟨rfl, hw'⟩
                      subst hw'
                      rw [HB2.out]
                      go_wp2_with fail
                      refine (btw_any _ _ _ _).mono ?_
                      rintro e w' ⟨rfl, hw'⟩
                      subst hw'
                      rw [HB3.out]
                      go_wp2_with fail
                      refine (rInt_btw _ _).mono ?_
                      rintro e w' ⟨rfl, hw'⟩
                      subst hw'
                      rw [HB4.out]
                      go_wp2_with fail
                      go_ret
                      exact ⟨ret_int HE.out.symm, by first | exact hK2 | exact (by repeat' (first | assumption | exact Kept.refl _ _ | refine Kept.drewN ?_ _ | refine Kept.drew ?_ | refine Kept.alloc ?_ _ | refine Kept.setB ?_ _ _))⟩
                    | true =>
                      have HB4 := hide hb4
                      clear hb4
                      by_cases htx : 40 < x.text.length
                      · have hw : wrongE x = 2 := by rw [HW.out, if_neg (by simp [H0.out]), if_neg (by rw [HR.out, HB1.out, HB2.out, HB3.out, HB4.out]; decide), if_pos htx]
                        have HE := hide (show checkBa ⟨num, l⟩ = 2 by rw [HT.out (by rw [hw]; decide), hw])
                        clear hw HW HT HR
                        obtain ⟨xk, xty, xid, xf, xn, xt⟩ := x
                        simp only at e0 e1 e2 e3 e4 e5 hsz HB1 HB2 HB3 HB4
                        go_wp2_with fail
                        refine (HC.out _).mono ?_
                        rintro r w1 ⟨rfl, hK1⟩
                        have hg1 := new_kept (w := wr) hK1 (fun f => f)
                        obtain ⟨z0, z1, z2, z3, z4, z5, _⟩ := cells6 hg1
                        have hK2 : Same w w1 := hK.trans hK1.unA (fun _ _ f => f)
                        have HG1 := hide (blk_kept HG.out hK1.unA (fun f => f))
                        clear hK1
                        go_wp2_with fail
                        refine (btw_any _ _ _ _).mono ?_
                        rintro e w' ⟨rfl, hw'⟩
                        subst hw'
                        rw [HB1.out]
                        go_wp2_with fail
                        refine (btw_any _ _ _ _).mono ?_
                        rintro e w' ⟨rfl, hw'⟩
                        subst hw'
                        rw [HB2.out]
                        go_wp2_with fail
                        refine (btw_any _ _ _ _).mono ?_
                        rintro e w' ⟨rfl, hw'⟩
                        subst hw'
                        rw [HB3.out]
                        go_wp2_with fail
                        refine (rInt_btw _ _).mono ?_
                        rintro e w' ⟨rfl, hw'⟩
                        subst hw'
                        rw [HB4.out]
                        go_wp2_with fail
                        go_ret
                        exact ⟨ret_int HE.out.symm, by first | exact hK2 | exact (by repeat' (first | assumption | exact Kept.refl _ _ | refine Kept.drewN ?_ _ | refine Kept.drew ?_ | refine Kept.alloc ?_ _ | refine Kept.setB ?_ _ _))⟩
                      · have HW0 := hide (show wrongE x = 0 by rw [HW.out, if_neg (by simp [H0.out]), if_neg (by rw [HR.out, HB1.out, HB2.out, HB3.out, HB4.out]; decide), if_neg htx])
                        clear HW HT HR
                        obtain ⟨xk, xty, xid, xf, xn, xt⟩ := x
                        simp only at e0 e1 e2 e3 e4 e5 hsz HB1 HB2 HB3 HB4
                        go_wp2_with fail
                        refine (HC.out _).mono ?_
                        rintro r w1 ⟨rfl, hK1⟩
                        have hg1 := new_kept (w := wr) hK1 (fun f => f)
                        obtain ⟨z0, z1, z2, z3, z4, z5, _⟩ := cells6 hg1
                        have hK2 : Same w w1 := hK.trans hK1.unA (fun _ _ f => f)
                        have HG1 := hide (blk_kept HG.out hK1.unA (fun f => f))
                        clear hK1
                        go_wp2_with fail
                        refine (btw_any _ _ _ _).mono ?_
                        rintro e w' ⟨rfl, hw'⟩
                        subst hw'
                        rw [HB1.out]
                        go_wp2_with fail
                        refine (btw_any _ _ _ _).mono ?_
                        rintro e w' ⟨rfl, hw'⟩
                        subst hw'
                        rw [HB2.out]
                        go_wp2_with fail
                        refine (btw_any _ _ _ _).mono ?_
                        rintro e w' ⟨rfl, hw'⟩
                        subst hw'
                        rw [HB3.out]
                        go_wp2_with fail
                        refine (rInt_btw _ _).mono ?_
                        rintro e w' ⟨rfl, hw'⟩
                        subst hw'
                        rw [HB4.out]
                        go_wp2_with fail
                        go_roundg (gk - 1)
                        case measure => omega
                        case rel =>
                          refine ⟨i + 1, by omega, by go_num, hK2, HG1, fun j hj hji => ?_⟩
                          rcases Nat.lt_or_ge j i with h1 | h1
                          · exact HP.out j hj h1
                          · obtain rfl : j = i := by omega
                            rw [← HX.out]; exact HW0.out
            · have h0' : (shapeE x != 0) = true := by simp [h0]
              have HE := hide (show checkBa ⟨num, l⟩ = shapeE x by have e : wrongE x = shapeE x := by rw [HW.out, if_pos h0]
                                                                   rw [HT.out (by rw [e]; exact h0), e])
              clear h0 HW HT
              obtain ⟨xk, xty, xid, xf, xn, xt⟩ := x
              simp only at e0 e1 e2 e3 e4 e5 hsz
              go_wp2_with fail
              refine (HC.out _).mono ?_
              rintro r w1 ⟨rfl, hK1⟩
              go_wp2_with fail
              go_ret
              exact ⟨ret_int HE.out.symm, hK.trans hK1.unA (fun _ _ f => f)⟩
          · have HE := hide (show checkBa ⟨num, l⟩ = 0 by rw [HF.out]; exact wrongEs_all l (fun j hj => HP.out j hj (by omega)))
            go_wp2_with fail
            go_ret
            exact ⟨ret_int HE.out.symm, hK⟩

end Go.Proofs.Ytillhpepfpldcaa

/- Tokens, in plain Lean: what Read, Check and Print of chapter 1 answer. No program is named here. -/
namespace Go.Proofs.Ytillhpepfpldcaa

/-- A token: its kind, its text, its number. -/
structure Tok where
  k : Int
  s : List UInt8
  n : Int

abbrev dig (c : UInt8) : Bool := decide (48 ≤ c.toNat) && decide (c.toNat ≤ 57)
abbrev beg (c : UInt8) : Bool := (decide (97 ≤ c.toNat) && decide (c.toNat ≤ 122)) || (decide (65 ≤ c.toNat) && decide (c.toNat ≤ 90)) || decide (c.toNat = 95)
abbrev onn (c : UInt8) : Bool := beg c || dig c
abbrev wh (c : UInt8) : Bool := decide (c.toNat = 9) || decide (c.toNat = 10) || decide (c.toNat = 13) || decide (c.toNat = 32) || decide (c.toNat = 44)
abbrev sgn (c : UInt8) : Bool := [123, 125, 40, 41, 58, 91, 93].contains c

/-- how many bytes stand there that are nothing (true: within a remark) -/
def skipN : Bool → List UInt8 → Nat
  | _, [] => 0
  | false, c :: r => if wh c then skipN false r + 1 else if c.toNat = 35 then skipN true r + 1 else 0
  | true, c :: r => if c.toNat = 10 then skipN false r + 1 else skipN true r + 1

/-- what a text tells, behind its first sign, and how many bytes it takes (true: behind a backslash) -/
def wordsL : Bool → List UInt8 → Option (List UInt8 × Nat)
  | _, [] => none
  | true, d :: r => if d.toNat = 34 ∨ d.toNat = 92 then (wordsL false r).map (fun x => (d :: x.1, x.2 + 1)) else if d.toNat = 110 then (wordsL false r).map (fun x => (10 :: x.1, x.2 + 1)) else none
  | false, c :: r => if c.toNat = 34 then some ([], 1) else if c.toNat = 10 then none else if c.toNat = 92 then (wordsL true r).map (fun x => (x.1, x.2 + 1)) else (wordsL false r).map (fun x => (c :: x.1, x.2 + 1))

def valD (l : List UInt8) : Int := l.foldl (fun a c => 10 * a + ((c.toNat : Int) - 48)) 0

def isNum (minus : Bool) (ds : List UInt8) : Bool :=
  !(ds.isEmpty || decide (9 < ds.length)) && (decide ((ds.head?.getD 0).toNat ≠ 48) || (decide (ds = [48]) && !minus))

def numL (l : List UInt8) : Except Int (Tok × Nat) :=
  let minus : Bool := decide ((l.head?.getD 0).toNat = 45)
  let ds := (if minus then l.tail else l).takeWhile dig
  if isNum minus ds then .ok (⟨2, [], if minus then -(valD ds) else valD ds⟩, ds.length + if minus then 1 else 0) else .error 1

/-- the token that stands at a list's head, and how many bytes it takes -/
def tokL (l : List UInt8) : Except Int (Tok × Nat) :=
  match l with
  | [] => .error 1
  | c :: r =>
    if beg c then .ok (⟨1, l.takeWhile onn, 0⟩, (l.takeWhile onn).length)
    else if decide (c.toNat = 45) || dig c then numL l
    else if c.toNat = 34 then match wordsL false r with | none => .error 1 | some x => .ok (⟨3, x.1, 0⟩, x.2 + 1)
    else if sgn c then .ok (⟨4, [c], 0⟩, 1)
    else .error 1

def nameOk (s : List UInt8) : Bool := s.all onn && (!s.isEmpty && beg (s.head?.getD 0))

/-- what is wrong with a token -/
def wrongT (t : Tok) : Int :=
  if t.k = 1 then (if t.n ≠ 0 then 1 else if 12 < t.s.length then 2 else if nameOk t.s then 0 else 1)
  else if t.k = 2 then (if t.s ≠ [] then 1 else if t.n < -999999999 ∨ 999999999 < t.n then 3 else 0)
  else if t.k = 3 then (if t.n ≠ 0 then 1 else if 40 < t.s.length then 2 else 0)
  else if t.k = 4 then (if t.n ≠ 0 ∨ t.s.length ≠ 1 ∨ sgn (t.s.head?.getD 0) = false then 1 else 0)
  else 7

/-- tokens one by one, m of them there already -/
def readF : Nat → List UInt8 → Nat → Except Int (List Tok)
  | 0, _, _ => .ok []
  | f + 1, l, m =>
    match l.drop (skipN false l) with
    | [] => .ok []
    | c :: r =>
      match tokL (c :: r) with
      | .error e => .error e
      | .ok (t, n) => if wrongT t ≠ 0 then .error (wrongT t) else if m = 300 then .error 2 else (readF f ((c :: r).drop n) (m + 1)).map (t :: ·)

def lexRead (l : List UInt8) : Except Int (List Tok) := if 2000 < l.length then .error 2 else readF (l.length + 1) l 0

def checkF : List Tok → Int
  | [] => 0
  | t :: r => if wrongT t ≠ 0 then wrongT t else checkF r
def lexCheck (l : List Tok) : Int := if 300 < l.length then 2 else checkF l

def quoteC (c : UInt8) : List UInt8 := if c.toNat = 34 ∨ c.toNat = 92 then [92, c] else if c.toNat = 10 then [92, 110] else [c]
def quoteL (s : List UInt8) : List UInt8 := 34 :: (s.flatMap quoteC ++ [34])
def writtenT (t : Tok) : List UInt8 := if t.k = 2 then Lib.itoa t.n else if t.k = 3 then quoteL t.s else t.s
def printF : List Tok → List UInt8
  | [] => []
  | [t] => writtenT t
  | t :: r => writtenT t ++ 32 :: printF r

end Go.Proofs.Ytillhpepfpldcaa
