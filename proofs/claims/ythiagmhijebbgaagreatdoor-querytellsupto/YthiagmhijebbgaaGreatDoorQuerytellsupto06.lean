/- Walks of the reader: escaped, isNumber, number. -/
import Derived.Test.YthiagmhijebbgaaGreatDoorQuerytellsupto04
import Derived.Test.YthiagmhijebbgaaGreatDoorQuerytellsupto05
namespace Go.Proofs.YthiagmhijebbgaaGreatDoor
open Go.RowKit

theorem escaped_any (w : World) (b k : Nat) (s : ByteArray) (v : Value) (h : Rdr w b s k v) (hk : k < s.size) (hs : s.size ≤ 2000) (c : Int) (hc : (s[k].toNat : Int) = c)
    (d : Int) (hd : c = 34 ∧ d = 34 ∨ c = 92 ∧ d = 92 ∨ c = 110 ∧ d = 10) :
    Calls Tryz.prog 105 #[.pointer (some ⟨b, 0, none⟩)] w fun e w' =>
      e = .returned (.int .u8 d) ∧ Rdr w' b s (k + 1) v ∧ Kept (· = b) w w' := by
  have hn := hide (next_any w b k s v h hk hs)
  rw [hc] at hn
  clear hc
  rcases hd with ⟨rfl, rfl⟩ | ⟨rfl, rfl⟩ | ⟨rfl, rfl⟩
  all_goals
    go_enter Tryz.func105, Tryz.ntmps105
    go_wp2_with ((go_at_call 104; refine hn.out.mono ?_; rintro e w1 ⟨rfl, hR1, hK1⟩))
    go_ret
    exact ⟨rfl, hR1, hK1⟩

theorem escaped_bad (w : World) (b k : Nat) (s : ByteArray) (v : Value) (h : Rdr w b s k v) (hs : s.size ≤ 2000) (hk : k ≤ s.size)
    (hd : ∀ hk : k < s.size, s[k].toNat ≠ 34 ∧ s[k].toNat ≠ 92 ∧ s[k].toNat ≠ 110) :
    Calls Tryz.prog 105 #[.pointer (some ⟨b, 0, none⟩)] w fun e w' => e = fault 1 ∧ Kept (· = b) w w' := by
  by_cases hlt : k < s.size
  · have hn := hide (next_any w b k s v h hlt hs)
    obtain ⟨c, hc⟩ : ∃ c : Int, (s[k].toNat : Int) = c := ⟨_, rfl⟩
    have hd' := hd hlt
    have h34 : (c == 34) = false := by simp; omega
    have h92 : (c == 92) = false := by simp; omega
    have h110 : (c == 110) = false := by simp; omega
    rw [hc] at hn
    clear hc hd hd'
    go_enter Tryz.func105, Tryz.ntmps105
    go_wp2_with ((go_at_call 104; refine hn.out.mono ?_; rintro e w1 ⟨rfl, hR1, hK1⟩))
    exact ⟨rfl, rfl, hK1⟩
  · have hn := hide (next_end w b k s v h (by omega))
    clear hd
    go_enter Tryz.func105, Tryz.ntmps105
    go_wp2_with ((go_at_call 104; refine hn.out.mono ?_; rintro e w1 ⟨rfl, hK1⟩))
    exact ⟨rfl, rfl, hK1⟩

theorem get0 (c : UInt8) (r : List UInt8) (h : 0 < (⟨(c :: r).toArray⟩ : ByteArray).size) : (⟨(c :: r).toArray⟩ : ByteArray)[0] = c := rfl

theorem isNumber_any (m : Bool) (l : List UInt8) (w : World) :
    Calls Tryz.prog 101 #[.bool m, .string ⟨l.toArray⟩] w fun e w' => e = .returned (.bool (isNum m l)) ∧ w' = w := by
  cases m
  all_goals
    cases l with
    | nil =>
      go_enter Tryz.func101, Tryz.ntmps101
      go_wp2
      go_ret
      exact ⟨rfl, rfl⟩
    | cons c r =>
      go_enter Tryz.func101, Tryz.ntmps101
      go_wp2
      all_goals go_ret
      all_goals refine ⟨ret_bool ?_, rfl⟩
      all_goals unfold isNum
      all_goals simp only [List.head?_cons, Option.getD_some, List.isEmpty_cons, List.length_cons, Bool.false_or]
      all_goals simp [get0] at *
      all_goals (try omega)
      all_goals (have hcc : ((c.toNat : Int) = 48 ∧ c.toNat = 48) ∨ (¬ (c.toNat : Int) = 48 ∧ ¬ c.toNat = 48) := by omega)
      all_goals (have hll : r.length ≤ 8 := by omega)
      all_goals (rcases hcc with ⟨_, _⟩ | ⟨_, _⟩ <;> simp_all)

theorem Rdr.keep {w w' : World} {b k : Nat} {s : ByteArray} {v : Value} (h : Rdr w b s k v) {X : Nat → Prop} (hk : Kept X w w') (hX : ¬ X b) : Rdr w' b s k v := by
  have hb : b < w.heap.size := by
    rcases Nat.lt_or_ge b w.heap.size with h' | h'
    · exact h'
    · unfold Rdr at h; simp [Array.getElem?_eq_none h'] at h
  unfold Rdr at *
  rw [hk.block b hb hX]; exact h

theorem same_freeze {a w : World} {p : Addr} {n : Nat} (h : Same a w) (hp : a.heap.size ≤ p.block) : Same a (w.freeze p n) := by
  unfold World.freeze
  split
  · exact h
  · refine ⟨h.os, h.tape, h.output, by simpa using h.size, fun k hk hx => ?_⟩
    rw [← h.block k hk hx]
    simp only [Array.getElem?_modify]
    rw [if_neg (by omega)]

theorem same_bytesWorld (w : World) (e : TypeId) (t : ByteArray) : Same w (Lib.bytesWorld w e t) := by
  unfold Lib.bytesWorld
  exact same_freeze ((Kept.refl _ w).drew.alloc _) (Nat.le_refl _)

/-- Behind the minus, if there is one: the digits, and what they are. -/
theorem digits_len (l : List UInt8) (m : Bool) (h : isNum m l = true) : l ≠ [] ∧ l.length ≤ 9 := by
  unfold isNum at h
  simp at h
  exact ⟨h.1.1, h.1.2⟩

theorem takeWhile_all (p : UInt8 → Bool) (l : List UInt8) : (l.takeWhile p).all p = true := by
  induction l with
  | nil => rfl
  | cons c r ih =>
    rw [List.takeWhile_cons]
    split
    · rename_i h; simp only [List.all_cons, h, ih, Bool.and_self]
    · rfl

theorem valD_bound (l : List UInt8) (h : l.all dig = true) (h9 : l.length ≤ 9) : 0 ≤ valD l ∧ valD l ≤ 999999999 := by
  have key : ∀ (l : List UInt8) (a : Int), l.all dig = true → 0 ≤ a → 0 ≤ l.foldl (fun a c => 10 * a + ((c.toNat : Int) - 48)) a ∧ l.foldl (fun a c => 10 * a + ((c.toNat : Int) - 48)) a + 1 ≤ (a + 1) * 10 ^ l.length := by
    intro l
    induction l with
    | nil => intro a _ ha; simp; omega
    | cons c r ih =>
      intro a h ha
      simp only [List.all_cons, Bool.and_eq_true] at h
      have hc := h.1
      simp at hc
      obtain ⟨h1, h2⟩ := ih (10 * a + ((c.toNat : Int) - 48)) h.2 (by omega)
      refine ⟨h1, Int.le_trans h2 ?_⟩
      rw [List.length_cons, Int.pow_succ]
      have e : (a + 1) * (10 ^ r.length * 10) = ((a + 1) * 10) * 10 ^ r.length := by rw [Int.mul_comm (10 ^ r.length) 10, ← Int.mul_assoc]
      rw [e]
      exact Int.mul_le_mul_of_nonneg_right (by omega) (by exact Int.pow_nonneg (by omega))
  obtain ⟨h1, h2⟩ := key l 0 h (Int.le_refl _)
  refine ⟨h1, ?_⟩
  have h3 : (10 : Int) ^ l.length ≤ 10 ^ 9 := by
    have := Nat.pow_le_pow_right (n := 10) (by omega) h9
    exact_mod_cast this
  have h4 : (10 : Int) ^ 9 = 1000000000 := by decide
  unfold valD
  omega

set_option maxHeartbeats 800000 in
theorem number_ok (w : World) (b k : Nat) (s : ByteArray) (v : Value) (h : Rdr w b s k v) (hk : k < s.size) (hs : s.size ≤ 2000) (m : Bool) (hm : ((s[k].toNat : Int) == 45) = m) (k1 : Nat) (hk1 : k1 = if m then k + 1 else k)
    (hn : isNum m ((s.data.toList.drop k1).takeWhile dig) = true) :
    Calls Tryz.prog 86 #[.pointer (some ⟨b, 0, none⟩)] w fun e w' =>
      e = .returned (.int .i64 (if m then -(valD ((s.data.toList.drop k1).takeWhile dig)) else valD ((s.data.toList.drop k1).takeWhile dig))) ∧ Rdr w' b s (k1 + run dig s k1) v ∧ Kept (· = b) w w' := by
  have c0 := h.c0
  have c1 := h.c1
  have f1 := h.f 1
  obtain ⟨hne, hlen⟩ := digits_len _ m hn
  have hall := takeWhile_all dig (s.data.toList.drop k1)
  have hatoi := atoi_of _ hall hne
  have hb := valD_bound _ hall hlen
  obtain ⟨ds, hds⟩ : ∃ ds, ds = (s.data.toList.drop k1).takeWhile dig := ⟨_, rfl⟩
  rw [← hds] at hn hne hlen hall hatoi hb ⊢
  have HN := hide hn
  have HA := hide hatoi
  have HD := hide hds
  clear hn hne hall hatoi hds
  cases m
  · simp only [Bool.false_eq_true, if_false] at hk1 ⊢
    subst hk1
    go_enter Tryz.func86, Tryz.ntmps86
    go_wp2_with fail
    go_quiet (fail)
    go_wp2_with fail
    refine (pass_any 85 dig enters49 isDigit_any _ b k1 s v (by exact h) (by omega) hs).mono ?_
    rintro e w1 ⟨rfl, hR1, hK1⟩
    rw [← HD.out]
    go_wp2_with fail
    refine (isNumber_any _ _ _).mono ?_
    rintro e w2 ⟨rfl, rfl⟩
    rw [HN.out]
    go_wp2_with fail
    refine (Tryz.strconv_Atoi _ _ (by rw [show (⟨ds.toArray⟩ : ByteArray).size = ds.length from by simp [ByteArray.size]]; omega) HA.out _).mono ?_
    rintro e w3 ⟨rfl, tt, rfl⟩
    have hK2 : Same w2 (Lib.bytesWorld w2 5 tt) := same_bytesWorld _ _ _
    have hR2 := hR1.keep hK2 (fun f => f)
    generalize Lib.bytesWorld w2 5 tt = w3 at *
    go_wp2
    go_ret
    refine ⟨rfl, hR2, (Kept.trans ?_ hK1 (fun _ _ h => h)).trans hK2 (fun _ _ f => f.elim)⟩
    exact (by repeat' (first | assumption | exact Kept.refl _ _ | refine Kept.drewN ?_ _ | refine Kept.drew ?_ | refine Kept.alloc ?_ _ | refine Kept.setB ?_ _ _))
  · simp only [if_true] at hk1 ⊢
    subst hk1
    go_enter Tryz.func86, Tryz.ntmps86
    go_wp2_with fail
    go_quiet (fail)
    go_wp2_with fail
    refine (pass_any 85 dig enters49 isDigit_any _ b (k + 1) s v (by exact h.set (k + 1)) (by omega) hs).mono ?_
    rintro e w1 ⟨rfl, hR1, hK1⟩
    rw [← HD.out]
    go_wp2_with fail
    refine (isNumber_any _ _ _).mono ?_
    rintro e w2 ⟨rfl, rfl⟩
    rw [HN.out]
    go_wp2_with fail
    refine (Tryz.strconv_Atoi _ _ (by rw [show (⟨ds.toArray⟩ : ByteArray).size = ds.length from by simp [ByteArray.size]]; omega) HA.out _).mono ?_
    rintro e w3 ⟨rfl, tt, rfl⟩
    have hK2 : Same w2 (Lib.bytesWorld w2 5 tt) := same_bytesWorld _ _ _
    have hR2 := hR1.keep hK2 (fun f => f)
    generalize Lib.bytesWorld w2 5 tt = w3 at *
    go_wp2
    go_ret
    refine ⟨rfl, hR2, (Kept.trans ?_ hK1 (fun _ _ h => h)).trans hK2 (fun _ _ f => f.elim)⟩
    exact (by repeat' (first | assumption | exact Kept.refl _ _ | refine Kept.drewN ?_ _ | refine Kept.drew ?_ | refine Kept.alloc ?_ _ | refine Kept.setB ?_ _ _))

theorem number_bad (w : World) (b k : Nat) (s : ByteArray) (v : Value) (h : Rdr w b s k v) (hk : k < s.size) (hs : s.size ≤ 2000) (m : Bool) (hm : ((s[k].toNat : Int) == 45) = m) (k1 : Nat) (hk1 : k1 = if m then k + 1 else k)
    (hn : isNum m ((s.data.toList.drop k1).takeWhile dig) = false) :
    Calls Tryz.prog 86 #[.pointer (some ⟨b, 0, none⟩)] w fun e w' => e = fault 1 ∧ Kept (· = b) w w' := by
  have c0 := h.c0
  have c1 := h.c1
  have f1 := h.f 1
  obtain ⟨ds, hds⟩ : ∃ ds, ds = (s.data.toList.drop k1).takeWhile dig := ⟨_, rfl⟩
  rw [← hds] at hn
  have HN := hide hn
  have HD := hide hds
  clear hn hds
  cases m
  · simp only [Bool.false_eq_true, if_false] at hk1
    subst hk1
    go_enter Tryz.func86, Tryz.ntmps86
    go_wp2_with fail
    go_quiet (fail)
    go_wp2_with fail
    refine (pass_any 85 dig enters49 isDigit_any _ b k1 s v (by exact h) (by omega) hs).mono ?_
    rintro e w1 ⟨rfl, hR1, hK1⟩
    rw [← HD.out]
    go_wp2_with fail
    refine (isNumber_any _ _ _).mono ?_
    rintro e w2 ⟨rfl, rfl⟩
    rw [HN.out]
    go_wp2_with fail
    refine ⟨rfl, rfl, Kept.trans ?_ hK1 (fun _ _ h => h)⟩
    exact (by repeat' (first | assumption | exact Kept.refl _ _ | refine Kept.drewN ?_ _ | refine Kept.drew ?_ | refine Kept.alloc ?_ _ | refine Kept.setB ?_ _ _))
  · simp only [if_true] at hk1
    subst hk1
    go_enter Tryz.func86, Tryz.ntmps86
    go_wp2_with fail
    go_quiet (fail)
    go_wp2_with fail
    refine (pass_any 85 dig enters49 isDigit_any _ b (k + 1) s v (by exact h.set (k + 1)) (by omega) hs).mono ?_
    rintro e w1 ⟨rfl, hR1, hK1⟩
    rw [← HD.out]
    go_wp2_with fail
    refine (isNumber_any _ _ _).mono ?_
    rintro e w2 ⟨rfl, rfl⟩
    rw [HN.out]
    go_wp2_with fail
    refine ⟨rfl, rfl, Kept.trans ?_ hK1 (fun _ _ h => h)⟩
    exact (by repeat' (first | assumption | exact Kept.refl _ _ | refine Kept.drewN ?_ _ | refine Kept.drew ?_ | refine Kept.alloc ?_ _ | refine Kept.setB ?_ _ _))

end Go.Proofs.YthiagmhijebbgaaGreatDoor
