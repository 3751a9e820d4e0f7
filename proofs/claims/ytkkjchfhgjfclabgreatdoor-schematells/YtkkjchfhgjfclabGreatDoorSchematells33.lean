import Derived.Test.YtkkjchfhgjfclabGreatDoorSchematells02
import Derived.Test.YtkkjchfhgjfclabGreatDoorSchematells30
import Derived.Test.YtkkjchfhgjfclabGreatDoorSchematells03
import Derived.Test.YtkkjchfhgjfclabGreatDoorSchematells15
import Derived.Test.YtkkjchfhgjfclabGreatDoorSchematells26
/- How far a text has been read, in plain Lean: for the document's own reader. -/
namespace Go.Proofs.YtkkjchfhgjfclabGreatDoor

/-- T is read, k is next -/
def tRel (s : ByteArray) (k : Nat) (T : List Tok) : Prop :=
  lexRead s.data.toList = (readF (s.size + 1) (s.data.toList.drop k) T.length).map (T ++ ·)

theorem list_size (s : ByteArray) : s.data.toList.length = s.size := by simp

theorem tRel.start (s : ByteArray) (hs : s.size ≤ 2000) : tRel s 0 [] := by
  unfold tRel lexRead
  rw [if_neg (by rw [list_size]; omega), list_size]
  simp only [List.drop_zero, List.length_nil]
  cases readF (s.size + 1) s.data.toList 0 <;> simp [Except.map]

theorem tRel.move {s : ByteArray} {k n : Nat} {T : List Tok} (h : tRel s k T) (hk : k + n ≤ s.size) (hsk : skipN false (s.data.toList.drop k) = n + skipN false (s.data.toList.drop (k + n))) : tRel s (k + n) T := by
  unfold tRel at *
  rw [h]
  have e : s.data.toList.drop k = (s.data.toList.drop k).take n ++ s.data.toList.drop (k + n) := by
    rw [← List.drop_drop, List.take_append_drop]
  have hl : ((s.data.toList.drop k).take n).length = n := by rw [List.length_take, List.length_drop, list_size]; omega
  have e2 := readF_ahead (f := s.size) (p := (s.data.toList.drop k).take n) (l := s.data.toList.drop (k + n)) (m := T.length) (by rw [← e, hl]; exact hsk)
  rw [← e] at e2
  rw [e2]

theorem tRel.blank {s : ByteArray} {k : Nat} {T : List Tok} (h : tRel s k T) (hk : k < s.size) (hc : wh s[k] = true) : tRel s (k + 1) T := by
  refine h.move (by omega) ?_
  rw [drop_at hk, skipN, if_pos hc]; omega

theorem tRel.hash {s : ByteArray} {k : Nat} {T : List Tok} (h : tRel s k T) (hk : k < s.size) (hc : s[k].toNat = 35) : tRel s (k + run nn s k) T := by
  refine h.move (run_le nn s k (by omega)) ?_
  have := skip_hash s[k] (s.data.toList.drop (k + 1)) hc
  rw [← drop_at hk, List.drop_drop] at this
  exact this

theorem tRel.at {s : ByteArray} {k : Nat} {T : List Tok} (h : tRel s k T) (hk : k < s.size) (h1 : wh s[k] = false) (h2 : s[k].toNat ≠ 35) :
    lexRead s.data.toList = (match tokL (s.data.toList.drop k) with
      | .error e => .error e
      | .ok (t, n) => if wrongT t ≠ 0 then .error (wrongT t) else if T.length = 300 then .error 2 else (readF s.size (s.data.toList.drop (k + n)) (T.length + 1)).map (t :: ·) : Except Int (List Tok)).map (T ++ ·) := by
  unfold tRel at h
  rw [h, readF, drop_at hk, skip_stop _ _ h1 h2, List.drop_zero]
  simp only
  rw [← drop_at hk]
  cases ht : tokL (s.data.toList.drop k) with
  | error e => rfl
  | ok y =>
    obtain ⟨t, n⟩ := y
    simp only
    rw [List.drop_drop]

theorem tRel.bad {s : ByteArray} {k : Nat} {T : List Tok} (h : tRel s k T) (hk : k < s.size) (h1 : wh s[k] = false) (h2 : s[k].toNat ≠ 35) (ht : tokL (s.data.toList.drop k) = .error 1) : lexRead s.data.toList = .error 1 := by
  rw [h.at hk h1 h2, ht]; rfl
theorem tRel.wrong {s : ByteArray} {k : Nat} {T : List Tok} {t : Tok} {n : Nat} (h : tRel s k T) (hk : k < s.size) (h1 : wh s[k] = false) (h2 : s[k].toNat ≠ 35) (ht : tokL (s.data.toList.drop k) = .ok (t, n)) (hw : wrongT t ≠ 0) :
    lexRead s.data.toList = .error (wrongT t) := by
  rw [h.at hk h1 h2, ht]
  simp only
  rw [if_pos hw]; rfl
theorem tRel.full {s : ByteArray} {k : Nat} {T : List Tok} {t : Tok} {n : Nat} (h : tRel s k T) (hk : k < s.size) (h1 : wh s[k] = false) (h2 : s[k].toNat ≠ 35) (ht : tokL (s.data.toList.drop k) = .ok (t, n)) (hw : wrongT t = 0) (hT : 300 ≤ T.length) (hT2 : T.length ≤ 300) :
    lexRead s.data.toList = .error 2 := by
  rw [h.at hk h1 h2, ht]
  simp only
  rw [if_neg (by simp [hw]), if_pos (by omega)]; rfl
theorem tRel.step {s : ByteArray} {k : Nat} {T : List Tok} {t : Tok} {n : Nat} (h : tRel s k T) (hk : k < s.size) (h1 : wh s[k] = false) (h2 : s[k].toNat ≠ 35) (ht : tokL (s.data.toList.drop k) = .ok (t, n)) (hw : wrongT t = 0) (hT : T.length < 300) :
    tRel s (k + n) (T ++ [t]) := by
  have hp := tok_pos ht
  have he := h.at hk h1 h2
  rw [ht] at he
  simp only at he
  rw [if_neg (by simp [hw]), if_neg (by omega)] at he
  unfold tRel
  rw [he, List.length_append]
  have hl : (s.data.toList.drop (k + n)).length < s.size := by rw [List.length_drop, list_size]; omega
  rw [readF_any (g := s.size + 1) hl (by omega)]
  simp only [List.length_cons, List.length_nil, Nat.zero_add]
  cases readF (s.size + 1) (s.data.toList.drop (k + n)) (T.length + 1) <;> simp [Except.map]
theorem tRel.ended {s : ByteArray} {k : Nat} {T : List Tok} (h : tRel s k T) (hk : s.size ≤ k) : lexRead s.data.toList = .ok T := by
  unfold tRel at h
  rw [h, drop_end hk]
  simp [readF, skipN, Except.map]

end Go.Proofs.YtkkjchfhgjfclabGreatDoor

/- Walks of the document's own functions: IntOf. -/
namespace Go.Proofs.YtkkjchfhgjfclabGreatDoor
open Go.RowKit

theorem valD_snoc (l : List UInt8) (c : UInt8) : valD (l ++ [c]) = 10 * valD l + ((c.toNat : Int) - 48) := by
  unfold valD
  rw [List.foldl_append]; rfl

theorem dig_iff {c : UInt8} (h : dig c = true) : 48 ≤ c.toNat ∧ c.toNat ≤ 57 := by simpa [dig] using h

theorem valD_le9 (l : List UInt8) (hl : l.length ≤ 9) (h : ∀ c ∈ l, dig c = true) : 0 ≤ valD l ∧ valD l ≤ 999999999 := valD_bound l (List.all_eq_true.2 h) hl
theorem valD_le8 (l : List UInt8) (hl : l.length ≤ 8) (h : ∀ c ∈ l, dig c = true) : 0 ≤ valD l ∧ valD l ≤ 99999999 := by
  have h0 := valD_le9 l (by omega) h
  have h1 := valD_le9 (l ++ [48]) (by simp; omega) (by
    intro c hc
    rcases List.mem_append.1 hc with h2 | h2
    · exact h c h2
    · rw [List.mem_singleton] at h2; subst h2; decide)
  rw [valD_snoc, show ((48 : UInt8).toNat : Int) = 48 from rfl] at h1
  omega

/-- a number's digits tell a number within bounds -/
theorem numL_right {l : List UInt8} {t : Tok} {n : Nat} (h : numL l = .ok (t, n)) : wrongT t = 0 := by
  obtain ⟨m, hm⟩ : ∃ m, decide ((l.head?.getD 0).toNat = 45) = m := ⟨_, rfl⟩
  rw [numL_of l m hm] at h
  cases hq : isNum m ((if m then l.tail else l).takeWhile dig) with
  | false => rw [hq] at h; cases h
  | true =>
    rw [hq, if_pos rfl] at h
    injection h with h
    have h2 := congrArg Prod.fst h
    simp only at h2
    rw [← h2]
    have hlen : ((if m then l.tail else l).takeWhile dig).length ≤ 9 := by
      unfold isNum at hq
      simp at hq
      omega
    have hb := valD_le9 _ hlen (fun c hc => List.all_eq_true.1 List.all_takeWhile c hc)
    generalize valD ((if m then l.tail else l).takeWhile dig) = z at *
    have e : wrongT ⟨2, [], if m then -z else z⟩ = if (if m then -z else z) < -999999999 ∨ 999999999 < (if m then -z else z) then 3 else 0 := by simp [wrongT]
    rw [e]
    cases m <;> simp <;> omega

def intV (m : Bool) (ds : List UInt8) : Int := if isNum m ds then (if m then -(valD ds) else valD ds) else 0

set_option maxRecDepth 20000 in
set_option maxHeartbeats 3200000 in
theorem intOf_neg (w : World) (s : ByteArray) (ds : List UInt8) (hl : s.data.toList = 45 :: ds) (hall : ∀ c ∈ ds, dig c = true) (hs : s.size ≤ 2000) :
    Calls Tryz.prog 80 #[.string s] w fun e w' => e = .returned (.tuple #[.int .i64 (intV true ds), .bool (isNum true ds)]) ∧ ∃ n, w' = w.drewN n := by
  have hz := size_toList s
  rw [hl, List.length_cons] at hz
  have hp : 0 < s.size := by omega
  have he : s.toList.isEmpty = false := by rw [ByteArray.toList_eq, hl]; rfl
  have h0 : s[0] = 45 := by
    have hd := drop_at hp
    rw [List.drop_zero, hl] at hd
    exact (List.cons.inj hd).1.symm
  have hx : (s.extract 1 s.size).data.toList = ds := by
    simp only [ByteArray.data_extract, Array.toList_extract, List.extract_eq_take_drop, hl]
    rw [List.drop_succ_cons, List.drop_zero, List.take_of_length_le (by omega)]
  have h45 : ((s[0].toNat : Int) == 45) = true := by rw [h0]; rfl
  have HX := hide hx
  have HALL := hide hall
  clear hx h0 hall hl hz
  go_enter Tryz.func80, Tryz.ntmps80
  go_wp2_with fail
  go_quiet (fail)
  obtain ⟨D, hD⟩ : ∃ D, s.extract 1 s.size = D := ⟨_, rfl⟩
  rw [hD]
  rw [hD] at HX
  clear hD
  have hDz : D.size = ds.length := by rw [← size_toList, HX.out]
  have HDZ := hide hDz
  have hDa : D.size ≤ ds.length := by omega
  have hDb : ds.length ≤ D.size := by omega
  obtain ⟨t, ht⟩ : ∃ t, (decide ((1 : Int) ≤ (ds.length : Int)) && decide ((ds.length : Int) ≤ 9)) = t := ⟨_, rfl⟩
  have hbt := fun w => between_is (ds.length : Int) 1 9 w t ht
  rw [← hDz] at hbt
  have HBT := hide hbt
  clear hbt hDz
  cases t
  · have HN := hide (show isNum true ds = false by
      simp at ht
      unfold isNum
      cases ds with
      | nil => rfl
      | cons c r =>
        have h9 : decide (9 < (c :: r).length) = true := decide_eq_true (by have := ht (by simp; omega); omega)
        rw [h9]; simp)
    clear ht
    go_wp2_with fail
    refine (HBT.out _).mono ?_
    rintro e w1 ⟨rfl, rfl⟩
    go_wp2_with fail
    go_ret2
    exact ⟨by unfold intV; rw [HN.out]; rfl, nq, rfl⟩
  · have hlen : 1 ≤ ds.length ∧ ds.length ≤ 9 := by simp at ht; omega
    obtain ⟨l1, l9⟩ := hlen
    clear ht
    have hpD : 0 < D.size := by omega
    have hhd : ds = D[0] :: ds.drop 1 := by
      have := drop_at hpD
      rw [HX.out, List.drop_zero] at this
      exact this
    have hnum : isNum true ds = (decide (D[0].toNat ≠ 48) || (decide (ds = [48]) && !true)) := by
      unfold isNum
      have e1 : ds.isEmpty = false := by rw [hhd]; rfl
      have e2 : decide (9 < ds.length) = false := decide_eq_false (by omega)
      have e3 : ds.head?.getD 0 = D[0] := by rw [hhd]; rfl
      rw [e1, e2, e3]; rfl
    by_cases h48 : D[0].toNat = 48
    · have t48 : ((D[0].toNat : Int) == 48) = true := by rw [h48]; rfl
      by_cases hl1 : 1 < ds.length
      · have HN := hide (show isNum true ds = false by
          rw [hnum, h48]
          have : decide (ds = [48]) = false := decide_eq_false (by intro e; rw [e] at hl1; exact absurd hl1 (by decide))
          rw [this]; rfl)
        have hlD : 1 < D.size := by omega
        clear hnum hhd h48
        go_wp2_with fail
        refine (HBT.out _).mono ?_
        rintro e w1 ⟨rfl, rfl⟩
        go_wp2_with fail
        go_ret2
        exact ⟨by unfold intV; rw [HN.out]; rfl, nq, rfl⟩
      · have hds : ds = [48] := by
          rw [hhd, List.drop_eq_nil_of_le (by omega), show D[0] = 48 from UInt8.toNat_inj.1 h48]
        have hlD : D.size ≤ 1 := by omega
        have HN := hide (show isNum true ds = false by rw [hnum, h48, hds]; rfl)
        clear hnum hhd h48 hds
        go_wp2_with fail
        refine (HBT.out _).mono ?_
        rintro e w1 ⟨rfl, rfl⟩
        go_wp2_with fail
        go_ret2
        exact ⟨by unfold intV; rw [HN.out]; rfl, nq, rfl⟩
    · have t48 : ((D[0].toNat : Int) == 48) = false := by simp; omega
      have HN := hide (show isNum true ds = true by rw [hnum]; simp [h48])
      clear hnum hhd h48
      go_wp2_with fail
      refine (HBT.out _).mono ?_
      rintro e w1 ⟨rfl, rfl⟩
      go_wp2_with fail
      go_loopg [6, 7] ds.length (fun g n i wr => wr = w.drewN nq ∧ ∃ (k : Nat) (z : Int), k + g = ds.length ∧ i = .int .i64 k ∧ n = .int .i64 z ∧ Hid (valD (ds.take k) = z))
      case atStart => exact ⟨rfl, 0, 0, by omega, rfl, rfl, rfl⟩
      case round =>
        obtain ⟨rfl, k, z, hk, rfl, rfl, HV⟩ := hrel
        by_cases hlt : k < ds.length
        · have hltD : k < D.size := by omega
          have ek : ds.take (k + 1) = ds.take k ++ [D[k]] := by
            have := take_at hltD
            rw [HX.out] at this
            exact this
          have hdk : dig D[k] = true := HALL.out _ (List.take_subset (k + 1) ds (by rw [ek]; simp))
          have HV2 := hide (show valD (ds.take (k + 1)) = 10 * z + ((D[k].toNat : Int) - 48) by rw [ek, valD_snoc, HV.out])
          have hz8 := valD_le8 (ds.take k) (by rw [List.length_take]; omega) (fun c hc => HALL.out c (List.take_subset k ds hc))
          rw [HV.out] at hz8
          obtain ⟨z0, z1⟩ := hz8
          have hd1 := dig_iff hdk
          have q0 : (48 : Int) ≤ (D[k].toNat : Int) := by omega
          have q1 : (D[k].toNat : Int) ≤ 57 := by omega
          have hbt : (decide ((48 : Int) ≤ (D[k].toNat : Int)) && decide ((D[k].toNat : Int) ≤ 57)) = true := by simp; omega
          have HBK := hide (fun w => between_is (D[k].toNat : Int) 48 57 w _ hbt)
          clear ek hdk hd1 hbt
          go_wp2_with fail
          refine (HBK.out _).mono ?_
          rintro e w2 ⟨rfl, rfl⟩
          go_wp2_with fail
          go_roundg (gk - 1)
          case measure => omega
          case rel => exact ⟨rfl, k + 1, 10 * z + (D[k].toNat : Int) - 48, by omega, by go_num, rfl, by rw [Hid, HV2.out]; omega⟩
        · have hz9 := valD_le9 ds (by omega) HALL.out
          have hzz : valD ds = z := by rw [← HV.out, List.take_of_length_le (by omega)]
          rw [hzz] at hz9
          obtain ⟨z0, z1⟩ := hz9
          have HZ := hide hzz
          clear hzz
          go_wp2_with fail
          go_ret2
          exact ⟨by unfold intV; rw [HN.out, HZ.out]; rfl, nq, rfl⟩

set_option maxRecDepth 20000 in
set_option maxHeartbeats 3200000 in
theorem intOf_pos (w : World) (s : ByteArray) (ds : List UInt8) (hl : s.data.toList = ds) (hne : ds ≠ []) (hall : ∀ c ∈ ds, dig c = true) (hs : s.size ≤ 2000) :
    Calls Tryz.prog 80 #[.string s] w fun e w' => e = .returned (.tuple #[.int .i64 (intV false ds), .bool (isNum false ds)]) ∧ w' = w := by
  have hz := size_toList s
  rw [hl] at hz
  have hp : 0 < s.size := by have := List.length_pos_iff.2 hne; omega
  have he : s.toList.isEmpty = false := by
    rw [ByteArray.toList_eq, hl]
    cases ds with
    | nil => exact absurd rfl hne
    | cons c r => rfl
  have h45 : ((s[0].toNat : Int) == 45) = false := by
    have hd := drop_at hp
    rw [List.drop_zero, hl] at hd
    have := dig_iff (hall s[0] (by rw [hd]; simp))
    simp; omega
  have HX := hide hl
  have HALL := hide hall
  clear hall hl hz
  go_enter Tryz.func80, Tryz.ntmps80
  go_wp2_with fail
  have hDz : s.size = ds.length := by rw [← size_toList, HX.out]
  have HDZ := hide hDz
  have hDa : s.size ≤ ds.length := by omega
  have hDb : ds.length ≤ s.size := by omega
  obtain ⟨t, ht⟩ : ∃ t, (decide ((1 : Int) ≤ (ds.length : Int)) && decide ((ds.length : Int) ≤ 9)) = t := ⟨_, rfl⟩
  have hbt := fun w => between_is (ds.length : Int) 1 9 w t ht
  rw [← hDz] at hbt
  have HBT := hide hbt
  clear hbt hDz
  cases t
  · have HN := hide (show isNum false ds = false by
      simp at ht
      unfold isNum
      cases ds with
      | nil => rfl
      | cons c r =>
        have h9 : decide (9 < (c :: r).length) = true := decide_eq_true (by have := ht (by simp; omega); omega)
        rw [h9]; simp)
    clear ht
    go_wp2_with fail
    refine (HBT.out _).mono ?_
    rintro e w1 ⟨rfl, rfl⟩
    go_wp2_with fail
    go_ret2
    exact ⟨by unfold intV; rw [HN.out]; rfl, rfl⟩
  · have hlen : 1 ≤ ds.length ∧ ds.length ≤ 9 := by simp at ht; omega
    obtain ⟨l1, l9⟩ := hlen
    clear ht
    have hpD : 0 < s.size := by omega
    have hhd : ds = s[0] :: ds.drop 1 := by
      have := drop_at hpD
      rw [HX.out, List.drop_zero] at this
      exact this
    have hnum : isNum false ds = (decide (s[0].toNat ≠ 48) || (decide (ds = [48]) && !false)) := by
      unfold isNum
      have e1 : ds.isEmpty = false := by rw [hhd]; rfl
      have e2 : decide (9 < ds.length) = false := decide_eq_false (by omega)
      have e3 : ds.head?.getD 0 = s[0] := by rw [hhd]; rfl
      rw [e1, e2, e3]; rfl
    by_cases h48 : s[0].toNat = 48
    · have t48 : ((s[0].toNat : Int) == 48) = true := by rw [h48]; rfl
      by_cases hl1 : 1 < ds.length
      · have HN := hide (show isNum false ds = false by
          rw [hnum, h48]
          have : decide (ds = [48]) = false := decide_eq_false (by intro e; rw [e] at hl1; exact absurd hl1 (by decide))
          rw [this]; rfl)
        have hlD : 1 < s.size := by omega
        clear hnum hhd h48
        go_wp2_with fail
        refine (HBT.out _).mono ?_
        rintro e w1 ⟨rfl, rfl⟩
        go_wp2_with fail
        go_ret2
        exact ⟨by unfold intV; rw [HN.out]; rfl, rfl⟩
      · have hds : ds = [48] := by
          rw [hhd, List.drop_eq_nil_of_le (by omega), show s[0] = 48 from UInt8.toNat_inj.1 h48]
        have hlD : s.size ≤ 1 := by omega
        have HN := hide (show isNum false ds = true by rw [hnum, h48, hds]; rfl)
        clear hnum hhd h48 hds
        go_wp2_with fail
        refine (HBT.out _).mono ?_
        rintro e w1 ⟨rfl, rfl⟩
        go_wp2_with fail
        go_loopg [6, 7] ds.length (fun g n i wr => wr = w1 ∧ ∃ (k : Nat) (z : Int), k + g = ds.length ∧ i = .int .i64 k ∧ n = .int .i64 z ∧ Hid (valD (ds.take k) = z))
        case atStart => exact ⟨rfl, 0, 0, by omega, rfl, rfl, rfl⟩
        case round =>
          obtain ⟨rfl, k, z, hk, rfl, rfl, HV⟩ := hrel
          by_cases hlt : k < ds.length
          · have hltD : k < s.size := by omega
            have ek : ds.take (k + 1) = ds.take k ++ [s[k]] := by
              have := take_at hltD
              rw [HX.out] at this
              exact this
            have hdk : dig s[k] = true := HALL.out _ (List.take_subset (k + 1) ds (by rw [ek]; simp))
            have HV2 := hide (show valD (ds.take (k + 1)) = 10 * z + ((s[k].toNat : Int) - 48) by rw [ek, valD_snoc, HV.out])
            have hz8 := valD_le8 (ds.take k) (by rw [List.length_take]; omega) (fun c hc => HALL.out c (List.take_subset k ds hc))
            rw [HV.out] at hz8
            obtain ⟨z0, z1⟩ := hz8
            have hd1 := dig_iff hdk
            have q0 : (48 : Int) ≤ (s[k].toNat : Int) := by omega
            have q1 : (s[k].toNat : Int) ≤ 57 := by omega
            have hbt : (decide ((48 : Int) ≤ (s[k].toNat : Int)) && decide ((s[k].toNat : Int) ≤ 57)) = true := by simp; omega
            have HBK := hide (fun w => between_is (s[k].toNat : Int) 48 57 w _ hbt)
            clear ek hdk hd1 hbt
            go_wp2_with fail
            refine (HBK.out _).mono ?_
            rintro e w2 ⟨rfl, rfl⟩
            go_wp2_with fail
            go_roundg (gk - 1)
            case measure => omega
            case rel => exact ⟨rfl, k + 1, 10 * z + (s[k].toNat : Int) - 48, by omega, by go_num, rfl, by rw [Hid, HV2.out]; omega⟩
          · have hz9 := valD_le9 ds (by omega) HALL.out
            have hzz : valD ds = z := by rw [← HV.out, List.take_of_length_le (by omega)]
            rw [hzz] at hz9
            obtain ⟨z0, z1⟩ := hz9
            have HZ := hide hzz
            clear hzz
            go_wp2_with fail
            go_ret2
            exact ⟨by unfold intV; rw [HN.out, HZ.out]; rfl, rfl⟩
    · have t48 : ((s[0].toNat : Int) == 48) = false := by simp; omega
      have HN := hide (show isNum false ds = true by rw [hnum]; simp [h48])
      clear hnum hhd h48
      go_wp2_with fail
      refine (HBT.out _).mono ?_
      rintro e w1 ⟨rfl, rfl⟩
      go_wp2_with fail
      go_loopg [6, 7] ds.length (fun g n i wr => wr = w1 ∧ ∃ (k : Nat) (z : Int), k + g = ds.length ∧ i = .int .i64 k ∧ n = .int .i64 z ∧ Hid (valD (ds.take k) = z))
      case atStart => exact ⟨rfl, 0, 0, by omega, rfl, rfl, rfl⟩
      case round =>
        obtain ⟨rfl, k, z, hk, rfl, rfl, HV⟩ := hrel
        by_cases hlt : k < ds.length
        · have hltD : k < s.size := by omega
          have ek : ds.take (k + 1) = ds.take k ++ [s[k]] := by
            have := take_at hltD
            rw [HX.out] at this
            exact this
          have hdk : dig s[k] = true := HALL.out _ (List.take_subset (k + 1) ds (by rw [ek]; simp))
          have HV2 := hide (show valD (ds.take (k + 1)) = 10 * z + ((s[k].toNat : Int) - 48) by rw [ek, valD_snoc, HV.out])
          have hz8 := valD_le8 (ds.take k) (by rw [List.length_take]; omega) (fun c hc => HALL.out c (List.take_subset k ds hc))
          rw [HV.out] at hz8
          obtain ⟨z0, z1⟩ := hz8
          have hd1 := dig_iff hdk
          have q0 : (48 : Int) ≤ (s[k].toNat : Int) := by omega
          have q1 : (s[k].toNat : Int) ≤ 57 := by omega
          have hbt : (decide ((48 : Int) ≤ (s[k].toNat : Int)) && decide ((s[k].toNat : Int) ≤ 57)) = true := by simp; omega
          have HBK := hide (fun w => between_is (s[k].toNat : Int) 48 57 w _ hbt)
          clear ek hdk hd1 hbt
          go_wp2_with fail
          refine (HBK.out _).mono ?_
          rintro e w2 ⟨rfl, rfl⟩
          go_wp2_with fail
          go_roundg (gk - 1)
          case measure => omega
          case rel => exact ⟨rfl, k + 1, 10 * z + (s[k].toNat : Int) - 48, by omega, by go_num, rfl, by rw [Hid, HV2.out]; omega⟩
        · have hz9 := valD_le9 ds (by omega) HALL.out
          have hzz : valD ds = z := by rw [← HV.out, List.take_of_length_le (by omega)]
          rw [hzz] at hz9
          obtain ⟨z0, z1⟩ := hz9
          have HZ := hide hzz
          clear hzz
          go_wp2_with fail
          go_ret2
          exact ⟨by unfold intV; rw [HN.out, HZ.out]; rfl, rfl⟩

end Go.Proofs.YtkkjchfhgjfclabGreatDoor
