import Derived.Test.YtkkjchfhgjfclaaDoorLextells13
/- Walks of the document's own functions: Digits. -/
namespace Go.Proofs.YtkkjchfhgjfclaaDoor
open Go.RowKit

theorem digit_conv (u : Nat) (hu : u < 10) (c : UInt8) (hc : c = UInt8.ofNat (48 + u)) (X : World) (g : Nat) (h : X.cell? ⟨g, 0, none⟩ = some (.int .u8 (48 + (u : Int)))) :
    (convert 43 9 (.slice (some ⟨g, 0, none⟩) 1 1)).run Tryd.prog X = .ok (.string ⟨#[c]⟩) X := by
  refine one_string X g c ?_
  rw [hc, dd_digit hu]
  exact h

set_option maxHeartbeats 1600000 in
theorem digits_one (u : Nat) (hu : u < 10) (w : World) :
    Calls Tryd.prog 30 #[.int .i64 u] w fun e w' => ∃ b : ByteArray, e = .returned (.string b) ∧ b.data.toList = Lib.decDigits u ∧ Same w w' := by
  obtain ⟨c, hc⟩ : ∃ c, c = UInt8.ofNat (48 + u) := ⟨_, rfl⟩
  have hconv := fun X g => digit_conv u hu c hc X g
  have HC := hide hc
  clear hc
  have hlt : (u : Int) < 10 := by omega
  go_enter Tryd.func30, Tryd.ntmps30
  go_wp2_with fail
  go_ret
  refine ⟨_, rfl, by rw [Lib.decDigits, dif_pos hu, ← HC.out], (by repeat' (first | assumption | exact Kept.refl _ _ | refine Kept.drewN ?_ _ | refine Kept.drew ?_ | refine Kept.alloc ?_ _ | refine Kept.setB ?_ _ _))⟩

set_option maxRecDepth 20000 in
set_option maxHeartbeats 400000 in
theorem digits_pos (u : Nat) : u ≤ 999999999 → ∀ (w : World),
    Calls Tryd.prog 30 #[.int .i64 u] w fun e w' => ∃ b : ByteArray, e = .returned (.string b) ∧ b.data.toList = Lib.decDigits u ∧ Same w w' := by
  induction u using Nat.strongRecOn with
  | _ u ih =>
    intro hu w
    by_cases h10 : u < 10
    · exact digits_one u h10 w
    · have i1 := fun w => ih (u / 10) (by omega) (by omega) w
      have i2 := fun w => digits_one (u % 10) (by omega) w
      rw [show ((u / 10 : Nat) : Int) = (u : Int) / 10 from rfl] at i1
      rw [show ((u % 10 : Nat) : Int) = (u : Int) % 10 from rfl] at i2
      have I1 := hide i1
      have I2 := hide i2
      clear i1 i2
      clear ih
      have HD := hide (show Lib.decDigits u = Lib.decDigits (u / 10) ++ Lib.decDigits (u % 10) by
        rw [Lib.decDigits, dif_neg h10]
        congr 1
        rw [Lib.decDigits, dif_pos (by omega)])
      have L1 := dd_len (u / 10) (by omega)
      have L2 := dd_len (u % 10) (by omega)
      go_enter Tryd.func30, Tryd.ntmps30
      go_wp2_with fail
      refine (I1.out _).mono ?_
      rintro e w1 ⟨b1, rfl, hb1, hK1⟩
      have hz1 := size_toList b1
      rw [hb1] at hz1
      have HB1 := hide hb1
      clear hb1
      go_wp2_with fail
      refine (I2.out _).mono ?_
      rintro e w2 ⟨b2, rfl, hb2, hK2⟩
      have hz2 := size_toList b2
      rw [hb2] at hz2
      have HB2 := hide hb2
      clear hb2
      have s1 : b1.size ≤ 9 := by omega
      have s2 : b2.size ≤ 9 := by omega
      clear hz1 hz2 L1 L2
      go_wp2_with fail
      go_ret
      exact ⟨_, rfl, by rw [app_bytes, HB1.out, HB2.out, HD.out], hK1.trans hK2 (fun _ _ f => f.elim)⟩

set_option maxRecDepth 20000 in
set_option maxHeartbeats 400000 in
theorem digits_any (n : Int) (h0 : -999999999 ≤ n) (h1 : n ≤ 999999999) (w : World) :
    Calls Tryd.prog 30 #[.int .i64 n] w fun e w' => ∃ b : ByteArray, e = .returned (.string b) ∧ b.data.toList = Lib.itoa n ∧ Same w w' := by
  by_cases hneg : n < 0
  · have HI := hide (show Lib.itoa n = 45 :: Lib.decDigits n.natAbs by unfold Lib.itoa; rw [if_pos hneg])
    by_cases h10 : -10 < n
    · have i1 := fun w => digits_pos n.natAbs (by omega) w
      rw [show ((n.natAbs : Nat) : Int) = -n from by omega] at i1
      have I1 := hide i1
      have L1 := dd_len n.natAbs (by omega)
      clear i1
      go_enter Tryd.func30, Tryd.ntmps30
      go_wp2_with fail
      refine (I1.out _).mono ?_
      rintro e w1 ⟨b1, rfl, hb1, hK1⟩
      have hz1 := size_toList b1
      rw [hb1] at hz1
      have HB1 := hide hb1
      clear hb1
      have s1 : b1.size ≤ 9 := by omega
      clear hz1 L1
      go_wp2_with fail
      go_ret
      exact ⟨_, rfl, by rw [app_bytes, HB1.out, HI.out]; rfl, hK1⟩
    · obtain ⟨m, hm⟩ : ∃ m : Nat, m = n.natAbs := ⟨_, rfl⟩
      have hn : n = -(m : Int) := by omega
      have e1 : -(n.tdiv 10) = ((m / 10 : Nat) : Int) := by rw [hn, Int.neg_tdiv, Int.neg_neg]; exact (Int.ofNat_tdiv m 10).symm
      have e2 : -(n.tmod 10) = ((m % 10 : Nat) : Int) := by rw [hn, Int.neg_tmod, Int.neg_neg]; exact (Int.ofNat_tmod m 10).symm
      have i1 := fun w => digits_pos (m / 10) (by omega) w
      have i2 := fun w => digits_pos (m % 10) (by omega) w
      rw [← e1] at i1
      rw [← e2] at i2
      have I1 := hide i1
      have I2 := hide i2
      have HD := hide (show Lib.decDigits m = Lib.decDigits (m / 10) ++ Lib.decDigits (m % 10) by
        rw [Lib.decDigits, dif_neg (by omega)]
        congr 1
        rw [Lib.decDigits, dif_pos (by omega)])
      have L1 := dd_len (m / 10) (by omega)
      have L2 := dd_len (m % 10) (by omega)
      have q1 : 0 ≤ -(n.tdiv 10) := by omega
      have q2 : -(n.tdiv 10) ≤ 999999999 := by omega
      have q3 : 0 ≤ -(n.tmod 10) := by omega
      have q4 : -(n.tmod 10) ≤ 999999999 := by omega
      have HM := hide hm
      clear i1 i2 hm hn e1 e2
      go_enter Tryd.func30, Tryd.ntmps30
      go_wp2_with fail
      refine (I1.out _).mono ?_
      rintro e w1 ⟨b1, rfl, hb1, hK1⟩
      have hz1 := size_toList b1
      rw [hb1] at hz1
      have HB1 := hide hb1
      clear hb1
      have s1 : b1.size ≤ 9 := by omega
      clear hz1 L1
      go_wp2_with fail
      refine (I2.out _).mono ?_
      rintro e w2 ⟨b2, rfl, hb2, hK2⟩
      have hz2 := size_toList b2
      rw [hb2] at hz2
      have HB2 := hide hb2
      clear hb2
      have s2 : b2.size ≤ 9 := by omega
      clear hz2 L2
      go_wp2_with fail
      go_ret
      exact ⟨_, rfl, by rw [app_bytes, app_bytes, HB1.out, HB2.out, HI.out, ← HM.out, HD.out]; rfl, hK1.trans hK2 (fun _ _ f => f.elim)⟩
  · have i := digits_pos n.toNat (by omega) w
    rw [show ((n.toNat : Nat) : Int) = n from by omega] at i
    refine i.mono ?_
    rintro e w' ⟨b, rfl, hb, hK⟩
    exact ⟨b, rfl, by rw [hb]; unfold Lib.itoa; rw [if_neg hneg], hK⟩

end Go.Proofs.YtkkjchfhgjfclaaDoor

/- The reference's IsInt. -/
namespace Go.Proofs.YtkkjchfhgjfclaaDoor
open Go.RowKit

theorem isInt_any (n : Int) (w : World) :
    Calls Tryd.prog 29 #[.int .i64 n] w fun e w' => e = .returned (.bool (decide (-999999999 ≤ n) && decide (n ≤ 999999999))) ∧ w' = w := by
  have H1 := hide (between_is n (-999999999) 999999999 w _ rfl)
  go_enter Tryd.func29, Tryd.ntmps29
  go_wp2_with fail
  refine H1.out.mono ?_
  rintro e w' ⟨rfl, rfl⟩
  go_wp2_with fail
  go_ret
  exact ⟨rfl, rfl⟩

end Go.Proofs.YtkkjchfhgjfclaaDoor

/- Walks of the document's own functions: CheckTokens. -/
namespace Go.Proofs.YtkkjchfhgjfclaaDoor
open Go.RowKit

theorem wrong_kind {t : Tok} (h : t.k < 1 ∨ 4 < t.k) : wrongT t = 7 := by
  unfold wrongT
  rw [if_neg (by omega), if_neg (by omega), if_neg (by omega), if_neg (by omega)]
theorem wrong_1 {t : Tok} (h : t.k = 1) (hn : t.n = 0) : wrongT t = nameE t.s := by
  unfold wrongT nameE
  rw [if_pos h, if_neg (by omega)]

theorem wrong_n1 {s : List UInt8} {n : Int} (hn : n ≠ 0) : wrongT ⟨1, s, n⟩ = 1 := by simp [wrongT, hn]
theorem wrong_n3 {s : List UInt8} {n : Int} (hn : n ≠ 0) : wrongT ⟨3, s, n⟩ = 1 := by simp [wrongT, hn]
theorem wrong_n4 {s : List UInt8} {n : Int} (hn : n ≠ 0) : wrongT ⟨4, s, n⟩ = 1 := by simp [wrongT, hn]
theorem wrong_2s {s : List UInt8} {n : Int} (hn : s ≠ []) : wrongT ⟨2, s, n⟩ = 1 := by simp [wrongT, hn]
theorem wrong_2r {n : Int} (hn : (decide (-999999999 ≤ n) && decide (n ≤ 999999999)) = false) : wrongT ⟨2, [], n⟩ = 3 := by
  have e : wrongT ⟨2, [], n⟩ = if n < -999999999 ∨ 999999999 < n then 3 else 0 := by simp [wrongT]
  rw [e]
  simp at hn
  rw [if_pos (by omega)]
theorem wrong_2k {n : Int} (hn : (decide (-999999999 ≤ n) && decide (n ≤ 999999999)) = true) : wrongT ⟨2, [], n⟩ = 0 := by
  have e : wrongT ⟨2, [], n⟩ = if n < -999999999 ∨ 999999999 < n then 3 else 0 := by simp [wrongT]
  rw [e]
  simp at hn
  rw [if_neg (by omega)]
theorem wrong_3b {s : List UInt8} (hn : 40 < s.length) : wrongT ⟨3, s, 0⟩ = 2 := by simp [wrongT, hn]
theorem wrong_3k {s : List UInt8} (hn : ¬ 40 < s.length) : wrongT ⟨3, s, 0⟩ = 0 := by simp [wrongT]; omega
theorem wrong_4 {s : List UInt8} : wrongT ⟨4, s, 0⟩ = if oneSign s then 0 else 1 := by
  have e : wrongT ⟨4, s, 0⟩ = if s.length ≠ 1 ∨ sgn (s.head?.getD 0) = false then 1 else 0 := by simp [wrongT]
  rw [e]
  unfold oneSign
  by_cases h1 : s.length = 1
  · cases h2 : sgn (s.head?.getD 0) <;> simp [h1]
  · simp [h1]

theorem sign_is (s : ByteArray) (w : World) (t : Bool) (ht : oneSign s.data.toList = t) :
    Calls Tryd.prog 26 #[.string s] w fun e w' => e = .returned (.bool t) ∧ w' = w := by
  rw [← ht]; exact rSign_any s w
theorem int_is (n : Int) (w : World) (t : Bool) (ht : (decide (-999999999 ≤ n) && decide (n ≤ 999999999)) = t) :
    Calls Tryd.prog 29 #[.int .i64 n] w fun e w' => e = .returned (.bool t) ∧ w' = w := by
  rw [← ht]; exact isInt_any n w
theorem name_is (s : ByteArray) (w : World) (t : Int) (ht : nameE s.data.toList = t) :
    Calls Tryd.prog 28 #[.string s] w fun e w' => e = .returned (.int .i64 t) ∧ w' = w := by
  rw [← ht]; exact checkName_any s w

set_option maxRecDepth 20000 in
set_option maxHeartbeats 3200000 in
theorem rCheck_any (w : World) (v : Value) (l : List Tok) (h : TokSl w v l) :
    Calls Tryd.prog 12 #[v] w fun e w' => e = .returned (.int .i64 (lexCheck l)) ∧ Same w w' := by
  obtain ⟨ao, cap, rfl, hl, hc⟩ := id h
  clear hc
  by_cases hbig : 300 < l.length
  · have HF := hide (show lexCheck l = 2 by unfold lexCheck; rw [if_pos hbig])
    go_enter Tryd.func12, Tryd.ntmps12
    go_wp2_with fail
    go_ret
    exact ⟨ret_int HF.out.symm, Kept.refl _ _⟩
  · have HF := hide (show lexCheck l = checkF l by unfold lexCheck; rw [if_neg hbig])
    have hl3 : l.length ≤ 300 := by omega
    clear hl hbig
    go_enter Tryd.func12, Tryd.ntmps12
    go_wp2_with fail
    go_loopg [3] l.length (fun g i wr => ∃ k : Nat, k + g = l.length ∧ i = .int .i64 k ∧ Same w wr ∧ Hid (checkF l = checkF (l.drop k)))
    case atStart => exact ⟨0, by omega, rfl, Kept.refl _ _, rfl⟩
    case round =>
      obtain ⟨k, hk, rfl, hK, HE⟩ := hrel
      have hwz := hK.size
      by_cases hlt : k < l.length
      · obtain ⟨b, off, rfl, c0, c1, c2⟩ := (h.same hK).at k hlt
        have HS := hide (checkF_step l k hlt)
        obtain ⟨tk, ts, tn, et⟩ : ∃ (tk : Int) (ts : ByteArray) (tn : Int), l[k] = ⟨tk, ts.data.toList, tn⟩ := ⟨l[k].k, ⟨l[k].s.toArray⟩, l[k].n, by simp⟩
        rw [et] at HS c0 c1 c2
        simp only [Array.toArray_toList] at c0 c1 c2
        clear et
        by_cases hkind : tk < 1 ∨ 4 < tk
        · have hbt : (decide ((1 : Int) ≤ tk) && decide (tk ≤ 4)) = false := by simp; omega
          have HB := hide (fun w => between_is tk 1 4 w _ hbt)
          have HW := hide (wrong_kind (t := ⟨tk, ts.data.toList, tn⟩) hkind)
          clear hbt hkind
          go_wp2_with fail
          refine (HB.out _).mono ?_
          rintro e w1 ⟨rfl, rfl⟩
          go_wp2_with fail
          go_ret
          exact ⟨ret_int (by rw [HF.out, HE.out, HS.out, HW.out]; rfl), (by repeat' (first | assumption | exact Kept.refl _ _ | refine Kept.drewN ?_ _ | refine Kept.drew ?_ | refine Kept.alloc ?_ _ | refine Kept.setB ?_ _ _))⟩
        · rcases (show tk = 1 ∨ tk = 2 ∨ tk = 3 ∨ tk = 4 from by omega) with rfl | rfl | rfl | rfl
          · have HB := hide (fun w => between_is 1 1 4 w true (by decide))
            clear hkind
            by_cases hn : tn = 0
            · subst hn
              obtain ⟨m, hm⟩ : ∃ m, nameE ts.data.toList = m := ⟨_, rfl⟩
              have HM := hide (fun w => name_is ts w m hm)
              have HW0 := hide (show wrongT ⟨1, ts.data.toList, 0⟩ = m by rw [← hm]; exact wrong_1 rfl rfl)
              clear hm
              by_cases hm0 : m = 0
              · subst hm0
                have HW := HW0
                go_wp2_with fail
                refine (HB.out _).mono ?_
                rintro e w1 ⟨rfl, rfl⟩
                go_wp2_with fail
                refine (HM.out _).mono ?_
                rintro e w1 ⟨rfl, rfl⟩
                go_wp2_with fail
                go_roundg (gk - 1)
                case measure => omega
                case rel => exact ⟨k + 1, by omega, by go_num, (by repeat' (first | assumption | exact Kept.refl _ _ | refine Kept.drewN ?_ _ | refine Kept.drew ?_ | refine Kept.alloc ?_ _ | refine Kept.setB ?_ _ _)), by show checkF l = _; rw [HE.out, HS.out, HW.out]; rfl⟩
              · have hm1 : (m != 0) = true := by simp [hm0]
                have HN := hide hm0
                clear hm0
                go_wp2_with fail
                refine (HB.out _).mono ?_
                rintro e w1 ⟨rfl, rfl⟩
                go_wp2_with fail
                refine (HM.out _).mono ?_
                rintro e w1 ⟨rfl, rfl⟩
                go_wp2_with fail
                go_ret
                exact ⟨ret_int (by rw [HF.out, HE.out, HS.out, HW0.out, if_pos HN.out]), (by repeat' (first | assumption | exact Kept.refl _ _ | refine Kept.drewN ?_ _ | refine Kept.drew ?_ | refine Kept.alloc ?_ _ | refine Kept.setB ?_ _ _))⟩
            · have HW := hide (wrong_n1 (s := ts.data.toList) hn)
              have hn1 : (tn != 0) = true := by simp [hn]
              clear hn
              go_wp2_with fail
              refine (HB.out _).mono ?_
              rintro e w1 ⟨rfl, rfl⟩
              go_wp2_with fail
              go_ret
              exact ⟨ret_int (by rw [HF.out, HE.out, HS.out, HW.out]; rfl), (by repeat' (first | assumption | exact Kept.refl _ _ | refine Kept.drewN ?_ _ | refine Kept.drew ?_ | refine Kept.alloc ?_ _ | refine Kept.setB ?_ _ _))⟩
          · have HB := hide (fun w => between_is 2 1 4 w true (by decide))
            clear hkind
            cases he : ts.toList.isEmpty with
            | false =>
              have HW := hide (wrong_2s (s := ts.data.toList) (n := tn) (by intro e; rw [ByteArray.toList_eq, e] at he; cases he))
              go_wp2_with fail
              refine (HB.out _).mono ?_
              rintro e w1 ⟨rfl, rfl⟩
              go_wp2_with fail
              go_ret
              exact ⟨ret_int (by rw [HF.out, HE.out, HS.out, HW.out]; rfl), (by repeat' (first | assumption | exact Kept.refl _ _ | refine Kept.drewN ?_ _ | refine Kept.drew ?_ | refine Kept.alloc ?_ _ | refine Kept.setB ?_ _ _))⟩
            | true =>
              have hts : ts.data.toList = [] := by rw [ByteArray.toList_eq] at he; exact List.isEmpty_iff.1 he
              rw [hts] at HS
              clear hts
              obtain ⟨t, ht⟩ : ∃ t, (decide (-999999999 ≤ tn) && decide (tn ≤ 999999999)) = t := ⟨_, rfl⟩
              have HI := hide (fun w => int_is tn w t ht)
              cases t
              · have HW := hide (wrong_2r ht)
                clear ht
                go_wp2_with fail
                refine (HB.out _).mono ?_
                rintro e w1 ⟨rfl, rfl⟩
                go_wp2_with fail
                refine (HI.out _).mono ?_
                rintro e w1 ⟨rfl, rfl⟩
                go_wp2_with fail
                go_ret
                exact ⟨ret_int (by rw [HF.out, HE.out, HS.out, HW.out]; rfl), (by repeat' (first | assumption | exact Kept.refl _ _ | refine Kept.drewN ?_ _ | refine Kept.drew ?_ | refine Kept.alloc ?_ _ | refine Kept.setB ?_ _ _))⟩
              · have HW := hide (wrong_2k ht)
                clear ht
                go_wp2_with fail
                refine (HB.out _).mono ?_
                rintro e w1 ⟨rfl, rfl⟩
                go_wp2_with fail
                refine (HI.out _).mono ?_
                rintro e w1 ⟨rfl, rfl⟩
                go_wp2_with fail
                go_roundg (gk - 1)
                case measure => omega
                case rel => exact ⟨k + 1, by omega, by go_num, (by repeat' (first | assumption | exact Kept.refl _ _ | refine Kept.drewN ?_ _ | refine Kept.drew ?_ | refine Kept.alloc ?_ _ | refine Kept.setB ?_ _ _)), by show checkF l = _; rw [HE.out, HS.out, HW.out]; rfl⟩
          · have HB := hide (fun w => between_is 3 1 4 w true (by decide))
            clear hkind
            by_cases hn : tn = 0
            · subst hn
              have hz := size_toList ts
              by_cases h40 : 40 < ts.size
              · have HW := hide (wrong_3b (s := ts.data.toList) (by omega))
                clear hz
                go_wp2_with fail
                refine (HB.out _).mono ?_
                rintro e w1 ⟨rfl, rfl⟩
                go_wp2_with fail
                go_ret
                exact ⟨ret_int (by rw [HF.out, HE.out, HS.out, HW.out]; rfl), (by repeat' (first | assumption | exact Kept.refl _ _ | refine Kept.drewN ?_ _ | refine Kept.drew ?_ | refine Kept.alloc ?_ _ | refine Kept.setB ?_ _ _))⟩
              · have HW := hide (wrong_3k (s := ts.data.toList) (by omega))
                clear hz
                go_wp2_with fail
                refine (HB.out _).mono ?_
                rintro e w1 ⟨rfl, rfl⟩
                go_wp2_with fail
                go_roundg (gk - 1)
                case measure => omega
                case rel => exact ⟨k + 1, by omega, by go_num, (by repeat' (first | assumption | exact Kept.refl _ _ | refine Kept.drewN ?_ _ | refine Kept.drew ?_ | refine Kept.alloc ?_ _ | refine Kept.setB ?_ _ _)), by show checkF l = _; rw [HE.out, HS.out, HW.out]; rfl⟩
            · have HW := hide (wrong_n3 (s := ts.data.toList) hn)
              have hn1 : (tn != 0) = true := by simp [hn]
              clear hn
              go_wp2_with fail
              refine (HB.out _).mono ?_
              rintro e w1 ⟨rfl, rfl⟩
              go_wp2_with fail
              go_ret
              exact ⟨ret_int (by rw [HF.out, HE.out, HS.out, HW.out]; rfl), (by repeat' (first | assumption | exact Kept.refl _ _ | refine Kept.drewN ?_ _ | refine Kept.drew ?_ | refine Kept.alloc ?_ _ | refine Kept.setB ?_ _ _))⟩
          · have HB := hide (fun w => between_is 4 1 4 w true (by decide))
            clear hkind
            by_cases hn : tn = 0
            · subst hn
              obtain ⟨t, ht⟩ : ∃ t, oneSign ts.data.toList = t := ⟨_, rfl⟩
              have HI := hide (fun w => sign_is ts w t ht)
              have HW := hide (show wrongT ⟨4, ts.data.toList, 0⟩ = if t then 0 else 1 by rw [wrong_4, ht])
              clear ht
              cases t
              · go_wp2_with fail
                refine (HB.out _).mono ?_
                rintro e w1 ⟨rfl, rfl⟩
                go_wp2_with fail
                refine (HI.out _).mono ?_
                rintro e w1 ⟨rfl, rfl⟩
                go_wp2_with fail
                go_ret
                exact ⟨ret_int (by rw [HF.out, HE.out, HS.out, HW.out]; rfl), (by repeat' (first | assumption | exact Kept.refl _ _ | refine Kept.drewN ?_ _ | refine Kept.drew ?_ | refine Kept.alloc ?_ _ | refine Kept.setB ?_ _ _))⟩
              · go_wp2_with fail
                refine (HB.out _).mono ?_
                rintro e w1 ⟨rfl, rfl⟩
                go_wp2_with fail
                refine (HI.out _).mono ?_
                rintro e w1 ⟨rfl, rfl⟩
                go_wp2_with fail
                go_roundg (gk - 1)
                case measure => omega
                case rel => exact ⟨k + 1, by omega, by go_num, (by repeat' (first | assumption | exact Kept.refl _ _ | refine Kept.drewN ?_ _ | refine Kept.drew ?_ | refine Kept.alloc ?_ _ | refine Kept.setB ?_ _ _)), by show checkF l = _; rw [HE.out, HS.out, HW.out]; rfl⟩
            · have HW := hide (wrong_n4 (s := ts.data.toList) hn)
              have hn1 : (tn != 0) = true := by simp [hn]
              clear hn
              go_wp2_with fail
              refine (HB.out _).mono ?_
              rintro e w1 ⟨rfl, rfl⟩
              go_wp2_with fail
              go_ret
              exact ⟨ret_int (by rw [HF.out, HE.out, HS.out, HW.out]; rfl), (by repeat' (first | assumption | exact Kept.refl _ _ | refine Kept.drewN ?_ _ | refine Kept.drew ?_ | refine Kept.alloc ?_ _ | refine Kept.setB ?_ _ _))⟩
      · go_wp2_with fail
        go_ret
        exact ⟨ret_int (by rw [HF.out, HE.out, List.drop_eq_nil_of_le (by omega)]; rfl), hK⟩

end Go.Proofs.YtkkjchfhgjfclaaDoor
