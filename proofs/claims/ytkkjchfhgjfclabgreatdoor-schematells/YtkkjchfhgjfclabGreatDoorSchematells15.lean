import Derived.Test.YtkkjchfhgjfclabGreatDoorSchematells01
import Derived.Test.YtkkjchfhgjfclabGreatDoorSchematells14
import Derived.Test.YtkkjchfhgjfclabGreatDoorSchematells08
import Derived.Test.YtkkjchfhgjfclabGreatDoorSchematells13
import Derived.Test.YtkkjchfhgjfclabGreatDoorChecked
import Derived.Test.YtkkjchfhgjfclabGreatDoorSchematells07
/- Digits, in plain Lean. -/
namespace Go.Proofs.YtkkjchfhgjfclabGreatDoor


theorem get0 (c : UInt8) (r : List UInt8) (h : 0 < (⟨(c :: r).toArray⟩ : ByteArray).size) : (⟨(c :: r).toArray⟩ : ByteArray)[0] = c := rfl

theorem digits_len (l : List UInt8) (m : Bool) (h : isNum m l = true) : l ≠ [] ∧ l.length ≤ 9 := by
  unfold isNum at h
  simp at h
  exact ⟨h.1.1, h.1.2⟩

theorem takeWhile_all (p : UInt8 → Bool) (l : List UInt8) : (l.takeWhile p).all p = true := by
  induction l with
  | nil => rfl
  | cons c r ih =>
    rw [List.takeWhile_cons]
    split
    · rename_i h; simp only [List.all_cons, h, ih, Bool.and_self]
    · rfl

theorem valD_bound (l : List UInt8) (h : l.all dig = true) (h9 : l.length ≤ 9) : 0 ≤ valD l ∧ valD l ≤ 999999999 := by
  have key : ∀ (l : List UInt8) (a : Int), l.all dig = true → 0 ≤ a → 0 ≤ l.foldl (fun a c => 10 * a + ((c.toNat : Int) - 48)) a ∧ l.foldl (fun a c => 10 * a + ((c.toNat : Int) - 48)) a + 1 ≤ (a + 1) * 10 ^ l.length := by
    intro l
    induction l with
    | nil => intro a _ ha; simp; omega
    | cons c r ih =>
      intro a h ha
      simp only [List.all_cons, Bool.and_eq_true] at h
      have hc := h.1
      simp at hc
      obtain ⟨h1, h2⟩ := ih (10 * a + ((c.toNat : Int) - 48)) h.2 (by omega)
      refine ⟨h1, Int.le_trans h2 ?_⟩
      rw [List.length_cons, Int.pow_succ]
      have e : (a + 1) * (10 ^ r.length * 10) = ((a + 1) * 10) * 10 ^ r.length := by rw [Int.mul_comm (10 ^ r.length) 10, ← Int.mul_assoc]
      rw [e]
      exact Int.mul_le_mul_of_nonneg_right (by omega) (by exact Int.pow_nonneg (by omega))
  obtain ⟨h1, h2⟩ := key l 0 h (Int.le_refl _)
  refine ⟨h1, ?_⟩
  have h3 : (10 : Int) ^ l.length ≤ 10 ^ 9 := by
    have := Nat.pow_le_pow_right (n := 10) (by omega) h9
    exact_mod_cast this
  have h4 : (10 : Int) ^ 9 = 1000000000 := by decide
  unfold valD
  omega

end Go.Proofs.YtkkjchfhgjfclabGreatDoor

/- parse.Text: Number. -/
namespace Go.Proofs.YtkkjchfhgjfclabGreatDoor
open Go.RowKit

theorem same_bytesWorld (w : World) (e : TypeId) (t : ByteArray) : Same w (Lib.bytesWorld w e t) := by
  unfold Lib.bytesWorld
  exact same_freeze ((Kept.refl _ w).drew.alloc _) (Nat.le_refl _)

theorem enters_dig (args : Array Value) (w : World) : (callFunc 116 args).run Tryz.prog w = .ok (.enter 116 args) w := by kernel_rfl

theorem tIsNumber (m : Bool) (l : List UInt8) (w : World) :
    Calls Tryz.prog 137 #[.bool m, .string ⟨l.toArray⟩] w fun e w' => e = .returned (.bool (isNum m l)) ∧ w' = w := by
  cases m
  all_goals
    cases l with
    | nil =>
      go_enter Tryz.func137, Tryz.ntmps137
      go_wp2
      go_ret
      exact ⟨rfl, rfl⟩
    | cons c r =>
      go_enter Tryz.func137, Tryz.ntmps137
      go_wp2
      all_goals go_ret
      all_goals refine ⟨ret_bool ?_, rfl⟩
      all_goals unfold isNum
      all_goals simp only [List.head?_cons, Option.getD_some, List.isEmpty_cons, List.length_cons, Bool.false_or]
      all_goals simp [get0] at *
      all_goals (try omega)
      all_goals (have hcc : ((c.toNat : Int) = 48 ∧ c.toNat = 48) ∨ (¬ (c.toNat : Int) = 48 ∧ ¬ c.toNat = 48) := by omega)
      all_goals (have hll : r.length ≤ 8 := by omega)
      all_goals (rcases hcc with ⟨_, _⟩ | ⟨_, _⟩ <;> simp_all)

/-- is there a minus, and what is left behind it -/
def minusL (l : List UInt8) : Bool := [45].isPrefixOf l
/-- the digits of a number -/
def digsL (l : List UInt8) : List UInt8 := (cutL [45] l).takeWhile dig
def leftL (l : List UInt8) : List UInt8 := (cutL [45] l).dropWhile dig
def signed (m : Bool) (n : Int) : Int := if m then -n else n

set_option maxHeartbeats 800000 in
theorem tNumber (w : World) (b : Nat) (l : List UInt8) (h : Txt w b l) (hl : l.length ≤ 1000000000000) :
    Calls Tryz.prog 117 #[.pointer (some ⟨b, 0, none⟩)] w fun e w' =>
      (isNum (minusL l) (digsL l) = true ∧ e = .returned (.int .i64 (signed (minusL l) (valD (digsL l)))) ∧ Txt w' b (leftL l) ∧ Kept (· = b) w w')
      ∨ (isNum (minusL l) (digsL l) = false ∧ e = fault 1 ∧ Kept (· = b) w w') := by
  have HS := hide (tSkip w b l [45] h)
  obtain ⟨m, hm⟩ : ∃ m, m = minusL l := ⟨_, rfl⟩
  obtain ⟨l1, hl1⟩ : ∃ l1, l1 = cutL [45] l := ⟨_, rfl⟩
  have hlen : l1.length ≤ 1000000000000 := by rw [hl1, cutL]; split <;> (try rw [List.length_drop]) <;> omega
  obtain ⟨ds, hds⟩ : ∃ ds, ds = l1.takeWhile dig := ⟨_, rfl⟩
  have hall : ds.all dig = true := by rw [hds]; exact takeWhile_all dig l1
  rw [show digsL l = ds by rw [hds, hl1]; rfl, show leftL l = l1.dropWhile dig by rw [hl1]; rfl, ← hm]
  rw [show [45].isPrefixOf l = m from hm.symm, ← hl1] at HS
  have HD := hide hds
  clear hm hl1 hds
  cases hn : isNum m ds with
  | true =>
    obtain ⟨hne, hl9⟩ := digits_len _ m hn
    have HA := hide (atoi_of _ hall hne)
    have hb := valD_bound _ hall hl9
    have HN := hide hn
    clear hn hne hall
    go_enter Tryz.func117, Tryz.ntmps117
    go_wp2_with fail
    refine HS.out.mono ?_
    rintro e w1 ⟨rfl, h1, hK1⟩
    go_wp2_with fail
    refine (tPass 116 dig enters_dig isDigit_any _ b l1 h1 hlen).mono ?_
    rintro e w2 ⟨rfl, h2, hK2⟩
    rw [← HD.out]
    go_wp2_with fail
    refine (tIsNumber _ _ _).mono ?_
    rintro e w3 ⟨rfl, rfl⟩
    rw [HN.out]
    go_wp2_with fail
    refine (Tryz.strconv_Atoi _ _ (by rw [bytes_size]; omega) HA.out _).mono ?_
    rintro e w4 ⟨rfl, tt, rfl⟩
    have hK3 : Same w3 (Lib.bytesWorld w3 5 tt) := same_bytesWorld _ _ _
    have h3 := h2.keep hK3 (fun f => f)
    generalize Lib.bytesWorld w3 5 tt = w4 at *
    have hK4 : Kept (· = b) w w4 := (hK1.trans hK2 (fun _ _ h => h)).trans hK3 (fun _ _ f => f.elim)
    clear hK1 hK2 hK3
    cases m
    all_goals
      go_wp2
      go_ret
      exact .inl ⟨trivial, rfl, h3, hK4⟩
  | false =>
    have HN := hide hn
    clear hn hall
    go_enter Tryz.func117, Tryz.ntmps117
    go_wp2_with fail
    refine HS.out.mono ?_
    rintro e w1 ⟨rfl, h1, hK1⟩
    go_wp2_with fail
    refine (tPass 116 dig enters_dig isDigit_any _ b l1 h1 hlen).mono ?_
    rintro e w2 ⟨rfl, h2, hK2⟩
    rw [← HD.out]
    go_wp2_with fail
    refine (tIsNumber _ _ _).mono ?_
    rintro e w3 ⟨rfl, rfl⟩
    rw [HN.out]
    go_wp2_with fail
    exact ⟨rfl, .inr ⟨trivial, rfl, hK1.trans hK2 (fun _ _ h => h)⟩⟩

end Go.Proofs.YtkkjchfhgjfclabGreatDoor

/- What lex's reader leans on, in plain Lean: what is passed, texts. -/
namespace Go.Proofs.YtkkjchfhgjfclabGreatDoor
open Go.RowKit

theorem sk_white (l : List UInt8) : l.drop (skipN false l) = (l.dropWhile wh).drop (skipN false (l.dropWhile wh)) := by
  conv => lhs; rw [skip_white]
  rw [← List.drop_drop, drop_takeWhile]
theorem sk_note (l : List UInt8) : l.drop (skipN true l) = (l.dropWhile nn).drop (skipN false (l.dropWhile nn)) := by
  conv => lhs; rw [skip_note]
  rw [← List.drop_drop, drop_takeWhile]
theorem sk_hash (l : List UInt8) (h : [35].isPrefixOf l = true) : l.drop (skipN false l) = ((cutL [35] l).dropWhile nn).drop (skipN false ((cutL [35] l).dropWhile nn)) ∧ (cutL [35] l).length + 1 = l.length := by
  cases l with
  | nil => simp at h
  | cons c r =>
    have hc : 35 = c := by simpa using h
    subst hc
    have e : cutL [35] (35 :: r) = r := by rw [cutL, if_pos h]; rfl
    rw [e]
    refine ⟨?_, rfl⟩
    rw [← sk_note, skipN, if_neg (by decide), if_pos (by decide)]
    rfl
theorem dropWhile_head (p : UInt8 → Bool) (l : List UInt8) (c : UInt8) (r : List UInt8) (h : l.dropWhile p = c :: r) : p c = false := by
  rw [← drop_takeWhile] at h
  exact stop_at p l c r h
theorem sk_stop (l : List UInt8) (h : [35].isPrefixOf (l.dropWhile wh) = false) : l.drop (skipN false l) = l.dropWhile wh ∧ cutL [35] (l.dropWhile wh) = l.dropWhile wh := by
  rw [sk_white]
  refine ⟨?_, by rw [cutL, if_neg (by rw [h]; decide)]⟩
  cases hd : l.dropWhile wh with
  | nil => rfl
  | cons c r =>
    have h1 := dropWhile_head wh l c r hd
    rw [hd] at h
    have h2 : c.toNat ≠ 35 := by
      intro e
      have : 35 = c := UInt8.toNat.inj (by rw [e]; rfl)
      simp [this] at h
    rw [skip_stop c r h1 h2]; rfl
theorem dropWhile_len (p : UInt8 → Bool) (l : List UInt8) : (l.dropWhile p).length ≤ l.length := by
  rw [← drop_takeWhile]; simp

/-- the byte that is told behind a backslash -/
def toldX (l : List UInt8) : Option (UInt8 × List UInt8) :=
  match l with
  | [] => none
  | d :: r => if d.toNat = 34 ∨ d.toNat = 92 then some (d, r) else if d.toNat = 110 then some (10, r) else none

theorem toldX_len (r : List UInt8) (d : UInt8) (r' : List UInt8) (h : toldX r = some (d, r')) : r'.length ≤ r.length := by
  cases r with
  | nil => simp [toldX] at h
  | cons c r =>
    rw [toldX] at h
    split at h
    · cases h; simp
    · split at h
      · cases h; simp
      · cases h

theorem quot_words (f : Nat) : ∀ r : List UInt8, r.length + 1 ≤ f → quotF nn toldX f r = (wordsL false r).map fun x => (x.1, r.drop x.2) := by
  induction f using Nat.strongRecOn with
  | _ f ih =>
    intro r hf
    cases f with
    | zero => omega
    | succ f =>
      cases r with
      | nil => simp [quotF, wordsL]
      | cons c r =>
        simp only [List.length_cons] at hf
        rw [quotF, wordsL]
        by_cases h34 : c.toNat = 34
        · rw [if_pos h34, if_pos h34]; rfl
        · rw [if_neg h34, if_neg h34]
          by_cases h92 : c.toNat = 92
          · rw [if_pos h92, if_neg (by omega), if_pos h92]
            cases r with
            | nil => simp [toldX, wordsL]
            | cons d r =>
              simp only [List.length_cons] at hf
              rw [wordsL, toldX]
              have hr := ih f (by omega) r (by omega)
              by_cases hd : d.toNat = 34 ∨ d.toNat = 92
              · rw [if_pos hd, if_pos hd]
                simp only [hr]
                cases wordsL false r <;> simp
              · rw [if_neg hd, if_neg hd]
                by_cases h110 : d.toNat = 110
                · rw [if_pos h110, if_pos h110]
                  simp only [hr]
                  cases wordsL false r <;> simp
                · rw [if_neg h110, if_neg h110]; rfl
          · rw [if_neg h92]
            by_cases h10 : c.toNat = 10
            · rw [if_neg (by simp [nn, h10]), if_pos h10]; rfl
            · rw [if_pos (by simp [nn, h10]), if_neg h10, if_neg h92, ih f (by omega) r (by omega)]
              cases wordsL false r <;> simp

theorem quotL_words (c : UInt8) (r : List UInt8) (h : c.toNat = 34) : quotL nn toldX (c :: r) = (wordsL false r).map fun x => (x.1, r.drop x.2) := by
  obtain rfl : c = 34 := UInt8.toNat.inj (by rw [h]; rfl)
  unfold quotL
  rw [if_pos (by simp)]
  exact quot_words _ r (by simp)

theorem words_le (l : List UInt8) : ∀ (b : Bool) (x : List UInt8) (n : Nat), wordsL b l = some (x, n) → 0 < n ∧ n ≤ l.length := by
  induction l with
  | nil => intro b x n h; cases b <;> simp [wordsL] at h
  | cons c r ih =>
    intro b x n h
    have go : ∀ (b : Bool) (f : List UInt8 → List UInt8), (wordsL b r).map (fun y => (f y.1, y.2 + 1)) = some (x, n) → 0 < n ∧ n ≤ (c :: r).length := by
      intro b f h
      cases hw : wordsL b r with
      | none => rw [hw] at h; cases h
      | some y =>
        rw [hw] at h
        simp at h
        have := ih b y.1 y.2 hw
        simp; omega
    cases b with
    | true =>
      rw [wordsL] at h
      split at h
      · exact go false (fun y => c :: y) h
      · split at h
        · exact go false (fun y => 10 :: y) h
        · cases h
    | false =>
      rw [wordsL] at h
      split at h
      · simp at h; simp; omega
      · split at h
        · cases h
        · split at h
          · exact go true (fun y => y) h
          · exact go false (fun y => c :: y) h

/-- a number at a text's head -/
theorem num_forms (c : UInt8) (r : List UInt8) :
    numL (c :: r) = (if isNum (minusL (c :: r)) (digsL (c :: r)) then .ok (⟨2, [], signed (minusL (c :: r)) (valD (digsL (c :: r)))⟩, (digsL (c :: r)).length + if minusL (c :: r) then 1 else 0) else .error 1)
    ∧ leftL (c :: r) = (c :: r).drop ((digsL (c :: r)).length + if minusL (c :: r) then 1 else 0) := by
  by_cases h : c.toNat = 45
  · obtain rfl : c = 45 := UInt8.toNat.inj (by rw [h]; rfl)
    have hm : minusL (45 :: r) = true := by simp [minusL]
    have hc : cutL [45] (45 :: r) = r := by rw [cutL, if_pos (by simp)]; rfl
    have hd : digsL (45 :: r) = r.takeWhile dig := by rw [digsL, hc]
    rw [leftL, hc, hm, hd]
    refine ⟨rfl, ?_⟩
    rw [if_pos rfl, ← drop_takeWhile]; rfl
  · have hm : minusL (c :: r) = false := by
      cases hx : minusL (c :: r) with
      | false => rfl
      | true =>
        unfold minusL at hx
        have e : 45 = c := by simpa using hx
        exact absurd (by rw [← e]; rfl) h
    have hm2 : decide (((c :: r).head?.getD 0).toNat = 45) = false := by simp [h]
    have hc : cutL [45] (c :: r) = c :: r := by rw [cutL, if_neg]; unfold minusL at hm; rw [hm]; decide
    have hd : digsL (c :: r) = (c :: r).takeWhile dig := by rw [digsL, hc]
    rw [leftL, hc, hm, hd]
    refine ⟨?_, ?_⟩
    · rw [numL]
      simp only [hm2]
      rfl
    · rw [if_neg (by decide), ← drop_takeWhile]; rfl

theorem digs_pos (c : UInt8) (r : List UInt8) (h : isNum (minusL (c :: r)) (digsL (c :: r)) = true) : 0 < (digsL (c :: r)).length := List.length_pos_iff.2 (digits_len _ _ h).1

end Go.Proofs.YtkkjchfhgjfclabGreatDoor

/- Walks of lex's reader: passBlank, escaped. -/
namespace Go.Proofs.YtkkjchfhgjfclabGreatDoor
open Go.RowKit

theorem blank1_any (c : UInt8) (w : World) :
    Calls Tryz.prog 109 #[.int .u8 c.toNat] w fun e w' => e = .returned (.bool (wh c)) ∧ w' = w := by
  go_enter Tryz.func109, Tryz.ntmps109
  go_wp2
  all_goals go_ret
  all_goals refine ⟨ret_bool ?_, rfl⟩
  all_goals (rw [Bool.eq_iff_iff]; simp_all; try omega)

theorem blank2_any (c : UInt8) (w : World) :
    Calls Tryz.prog 111 #[.int .u8 c.toNat] w fun e w' => e = .returned (.bool (nn c)) ∧ w' = w := by
  go_enter Tryz.func111, Tryz.ntmps111
  go_wp2
  all_goals go_ret
  all_goals refine ⟨ret_bool ?_, rfl⟩
  all_goals (rw [Bool.eq_iff_iff]; simp_all; try omega)

theorem token1_any (c : UInt8) (w : World) :
    Calls Tryz.prog 118 #[.int .u8 c.toNat] w fun e w' => e = .returned (.bool (nn c)) ∧ w' = w := by
  go_enter Tryz.func118, Tryz.ntmps118
  go_wp2
  all_goals go_ret
  all_goals refine ⟨ret_bool ?_, rfl⟩
  all_goals (rw [Bool.eq_iff_iff]; simp_all; try omega)

theorem enters_b1 (args : Array Value) (w : World) : (callFunc 109 args).run Tryz.prog w = .ok (.enter 109 args) w := by kernel_rfl
theorem enters_b2 (args : Array Value) (w : World) : (callFunc 111 args).run Tryz.prog w = .ok (.enter 111 args) w := by kernel_rfl
theorem enters_t1 (args : Array Value) (w : World) : (callFunc 118 args).run Tryz.prog w = .ok (.enter 118 args) w := by kernel_rfl
theorem enters_on (args : Array Value) (w : World) : (callFunc 115 args).run Tryz.prog w = .ok (.enter 115 args) w := by kernel_rfl
theorem enters_es (args : Array Value) (w : World) : (callFunc 120 args).run Tryz.prog w = .ok (.enter 120 args) w := by kernel_rfl

/-- A reader lies in block rb: its text in block b, its tokens. -/
def Rd (w : World) (rb b : Nat) (v : Value) : Prop := w.heap[rb]? = some (.cells #[.pointer (some ⟨b, 0, none⟩), v] 88 (0, 0))

theorem Rd.c0 {w : World} {rb b : Nat} {v : Value} (h : Rd w rb b v) : w.cell? ⟨rb, 0, none⟩ = some (.pointer (some ⟨b, 0, none⟩)) := by
  unfold Rd at h; simp [World.cell?, h]
theorem Rd.c1 {w : World} {rb b : Nat} {v : Value} (h : Rd w rb b v) : w.cell? ⟨rb, 1, none⟩ = some v := by
  unfold Rd at h; simp [World.cell?, h]
theorem Rd.f {w : World} {rb b : Nat} {v : Value} (h : Rd w rb b v) (o : Nat) : w.frozen? ⟨rb, o, none⟩ = false := by
  unfold Rd at h; simp [World.frozen?, h]
theorem Rd.lt {w : World} {rb b : Nat} {v : Value} (h : Rd w rb b v) : rb < w.heap.size := World.block_lt_of_cell? w _ h.c0
theorem Rd.keep {w w' : World} {rb b : Nat} {v : Value} (h : Rd w rb b v) {X : Nat → Prop} (hk : Kept X w w') (hX : ¬ X rb) : Rd w' rb b v := by
  have hb := h.lt
  unfold Rd at *
  rw [hk.block rb hb hX]; exact h
theorem Rd.al {w : World} {rb b : Nat} {v : Value} (h : Rd w rb b v) (o : Obj) : Rd (w.alloc o) rb b v := h.keep (X := fun _ => False) ((Kept.refl _ w).alloc o) (fun f => f)
theorem Rd.setT {w : World} {rb b : Nat} {v : Value} (h : Rd w rb b v) (x : Value) : Rd (w.setCell ⟨rb, 1, none⟩ x) rb b x := by
  unfold Rd at *
  simp [World.setCell, Array.getElem?_modify, h]

set_option maxHeartbeats 800000 in
theorem passBlank_any (w : World) (rb b : Nat) (l : List UInt8) (v : Value) (hr : Rd w rb b v) (hne : rb ≠ b) (h : Txt w b l) (hl : l.length ≤ 1000000000000) :
    Calls Tryz.prog 84 #[.pointer (some ⟨rb, 0, none⟩)] w fun e w' =>
      e = .returned (.tuple #[]) ∧ Txt w' b (l.drop (skipN false l)) ∧ Kept (· = b) w w' := by
  go_enter Tryz.func84, Tryz.ntmps84
  go_wp2_with fail
  go_loopg [] l.length (fun g wr => ∃ r : List UInt8, r.length ≤ g ∧ r.length ≤ 1000000000000 ∧ Txt wr b r ∧ Kept (· = b) w wr ∧ Hid (l.drop (skipN false l) = r.drop (skipN false r)))
  case atStart => exact ⟨l, Nat.le_refl _, hl, h, Kept.refl _ _, hide rfl⟩
  case round =>
    obtain ⟨r, hg, hrl, hT, hK, HE⟩ := hrel
    have c0 := (hr.keep hK hne).c0
    go_wp2_with fail
    refine (tPass 109 wh enters_b1 blank1_any _ b r hT hrl).mono ?_
    rintro e w1 ⟨rfl, hT1, hK1⟩
    have hK2 : Kept (· = b) w w1 := hK.trans hK1 (fun _ _ h => h)
    clear hK1 hK hT c0
    have c0 := (hr.keep hK2 hne).c0
    have hlen := dropWhile_len wh r
    have HSk := hide (tSkip w1 b _ [35] hT1)
    go_wp2_with fail
    refine HSk.out.mono ?_
    rintro e w2 ⟨rfl, hT2, hK3⟩
    have hK4 : Kept (· = b) w w2 := hK2.trans hK3 (fun _ _ h => h)
    clear hK2 hK3 HSk hT1 c0
    have c0 := (hr.keep hK4 hne).c0
    cases hp : [35].isPrefixOf (r.dropWhile wh) with
    | true =>
      obtain ⟨e1, e2⟩ := sk_hash _ hp
      have HE2 := hide (HE.out.trans ((sk_white r).trans e1))
      have hlen2 : (cutL [35] (r.dropWhile wh)).length ≤ 1000000000000 := by omega
      have hlen3 : (cutL [35] (r.dropWhile wh)).length + 1 ≤ r.length := by omega
      clear e1 e2 HE hp
      generalize cutL [35] (r.dropWhile wh) = m at *
      go_wp2_with fail
      refine (tPass 111 nn enters_b2 blank2_any _ b m hT2 hlen2).mono ?_
      rintro e w3 ⟨rfl, hT3, hK5⟩
      have hlen4 := dropWhile_len nn m
      go_wp2_with fail
      go_roundg (m.dropWhile nn).length
      case measure => omega
      case rel => exact ⟨m.dropWhile nn, Nat.le_refl _, by omega, hT3, hK4.trans hK5 (fun _ _ h => h), HE2⟩
    | false =>
      obtain ⟨e1, e2⟩ := sk_stop _ hp
      rw [e2] at hT2
      have HE2 := hide (HE.out.trans e1)
      clear e1 e2 HE hp
      go_wp2_with fail
      first | go_end0 | refine bodyPost_ret (results_none rfl _ _ _) rfl ?_
      exact ⟨rfl, by rw [HE2.out]; exact hT2, hK4⟩

theorem escaped_any (w : World) (rb b : Nat) (l : List UInt8) (v : Value) (hr : Rd w rb b v) (h : Txt w b l) :
    Calls Tryz.prog 120 #[.pointer (some ⟨rb, 0, none⟩)] w fun e w' =>
      (∃ d r', toldX l = some (d, r') ∧ e = .returned (.int .u8 d.toNat) ∧ Txt w' b r' ∧ Kept (· = b) w w') ∨ (toldX l = none ∧ e = fault 1 ∧ Kept (· = b) w w') := by
  have c0 := hr.c0
  cases l with
  | nil =>
    have HN := hide (tNext_end w b h)
    go_enter Tryz.func120, Tryz.ntmps120
    go_wp2_with fail
    refine HN.out.mono ?_
    rintro e w1 ⟨rfl, rfl⟩
    go_wp2_with fail
    exact ⟨rfl, .inr ⟨rfl, rfl, Kept.refl _ _⟩⟩
  | cons c r =>
    have HN := hide (tNext w b c r h)
    by_cases h34 : c.toNat = 34
    · have HT := hide (show toldX (c :: r) = some (c, r) by rw [toldX, if_pos (.inl h34)])
      have t1 : ((c.toNat : Int) == 34) = true := by simp; omega
      clear h34
      go_enter Tryz.func120, Tryz.ntmps120
      go_wp2_with fail
      refine HN.out.mono ?_
      rintro e w1 ⟨rfl, h1, hK⟩
      go_wp2_with fail
      go_ret
      exact .inl ⟨c, r, HT.out, rfl, h1, hK⟩
    · have t1 : ((c.toNat : Int) == 34) = false := by simp; omega
      by_cases h92 : c.toNat = 92
      · have HT := hide (show toldX (c :: r) = some (c, r) by rw [toldX, if_pos (.inr h92)])
        have t2 : ((c.toNat : Int) == 92) = true := by simp; omega
        clear h34 h92
        go_enter Tryz.func120, Tryz.ntmps120
        go_wp2_with fail
        refine HN.out.mono ?_
        rintro e w1 ⟨rfl, h1, hK⟩
        go_wp2_with fail
        go_ret
        exact .inl ⟨c, r, HT.out, rfl, h1, hK⟩
      · have t2 : ((c.toNat : Int) == 92) = false := by simp; omega
        by_cases h110 : c.toNat = 110
        · have HT := hide (show toldX (c :: r) = some (10, r) by rw [toldX, if_neg (by omega), if_pos h110])
          have t3 : ((c.toNat : Int) == 110) = true := by simp; omega
          clear h34 h92 h110
          go_enter Tryz.func120, Tryz.ntmps120
          go_wp2_with fail
          refine HN.out.mono ?_
          rintro e w1 ⟨rfl, h1, hK⟩
          go_wp2_with fail
          go_ret
          exact .inl ⟨10, r, HT.out, rfl, h1, hK⟩
        · have HT := hide (show toldX (c :: r) = none by rw [toldX, if_neg (by omega), if_neg h110])
          have t3 : ((c.toNat : Int) == 110) = false := by simp; omega
          clear h34 h92 h110
          go_enter Tryz.func120, Tryz.ntmps120
          go_wp2_with fail
          refine HN.out.mono ?_
          rintro e w1 ⟨rfl, h1, hK⟩
          go_wp2_with fail
          exact ⟨rfl, .inr ⟨HT.out, rfl, hK⟩⟩

end Go.Proofs.YtkkjchfhgjfclabGreatDoor

/- strings.Clone. -/
namespace Go.Proofs.YtkkjchfhgjfclabGreatDoor
open Go.RowKit

theorem clone_any (s : ByteArray) (w : World) (hlim : s.size ≤ 281474976710656) :
    Calls Tryz.prog 114 #[.string s] w fun e w' => e = .returned (.string s) ∧ Same w w' := by
  go_enter Tryz.func114, Tryz.ntmps114
  go_wp2_with ((go_at_call 136; refine (Tryz.stringslite_Clone _ _ hlim).mono ?_; rintro e w1 ⟨rfl, hb⟩))
  go_ret
  exact ⟨rfl, Kept.of_below hb⟩

end Go.Proofs.YtkkjchfhgjfclabGreatDoor
