import Derived.Test.YtkkjchfhgjfclaaDoorLexback03
import Derived.Test.YtkkjchfhgjfclaaDoorLexback04
import Derived.Test.YtkkjchfhgjfclaaDoorChecked
import Derived.Test.YtkkjchfhgjfclaaDoorLexback01
import Derived.Lib.Bytealg
import Derived.Test.YtkkjchfhgjfclaaDoorLexback02
/- What lex's reader leans on, in plain Lean: what is passed, texts. -/
namespace Go.Proofs.YtkkjchfhgjfclaaDoor
open Go.RowKit

theorem sk_white (l : List UInt8) : l.drop (skipN false l) = (l.dropWhile wh).drop (skipN false (l.dropWhile wh)) := by
  conv => lhs; rw [skip_white]
  rw [← List.drop_drop, drop_takeWhile]
theorem sk_note (l : List UInt8) : l.drop (skipN true l) = (l.dropWhile nn).drop (skipN false (l.dropWhile nn)) := by
  conv => lhs; rw [skip_note]
  rw [← List.drop_drop, drop_takeWhile]
theorem sk_hash (l : List UInt8) (h : [35].isPrefixOf l = true) : l.drop (skipN false l) = ((cutL [35] l).dropWhile nn).drop (skipN false ((cutL [35] l).dropWhile nn)) ∧ (cutL [35] l).length + 1 = l.length := by
  cases l with
  | nil => simp at h
  | cons c r =>
    have hc : 35 = c := by simpa using h
    subst hc
    have e : cutL [35] (35 :: r) = r := by rw [cutL, if_pos h]; rfl
    rw [e]
    refine ⟨?_, rfl⟩
    rw [← sk_note, skipN, if_neg (by decide), if_pos (by decide)]
    rfl
theorem dropWhile_head (p : UInt8 → Bool) (l : List UInt8) (c : UInt8) (r : List UInt8) (h : l.dropWhile p = c :: r) : p c = false := by
  rw [← drop_takeWhile] at h
  exact stop_at p l c r h
theorem sk_stop (l : List UInt8) (h : [35].isPrefixOf (l.dropWhile wh) = false) : l.drop (skipN false l) = l.dropWhile wh ∧ cutL [35] (l.dropWhile wh) = l.dropWhile wh := by
  rw [sk_white]
  refine ⟨?_, by rw [cutL, if_neg (by rw [h]; decide)]⟩
  cases hd : l.dropWhile wh with
  | nil => rfl
  | cons c r =>
    have h1 := dropWhile_head wh l c r hd
    rw [hd] at h
    have h2 : c.toNat ≠ 35 := by
      intro e
      have : 35 = c := UInt8.toNat.inj (by rw [e]; rfl)
      simp [this] at h
    rw [skip_stop c r h1 h2]; rfl
theorem dropWhile_len (p : UInt8 → Bool) (l : List UInt8) : (l.dropWhile p).length ≤ l.length := by
  rw [← drop_takeWhile]; simp

/-- the byte that is told behind a backslash -/
def toldX (l : List UInt8) : Option (UInt8 × List UInt8) :=
  match l with
  | [] => none
  | d :: r => if d.toNat = 34 ∨ d.toNat = 92 then some (d, r) else if d.toNat = 110 then some (10, r) else none

theorem toldX_len (r : List UInt8) (d : UInt8) (r' : List UInt8) (h : toldX r = some (d, r')) : r'.length ≤ r.length := by
  cases r with
  | nil => simp [toldX] at h
  | cons c r =>
    rw [toldX] at h
    split at h
    · cases h; simp
    · split at h
      · cases h; simp
      · cases h

theorem quot_words (f : Nat) : ∀ r : List UInt8, r.length + 1 ≤ f → quotF nn toldX f r = (wordsL false r).map fun x => (x.1, r.drop x.2) := by
  induction f using Nat.strongRecOn with
  | _ f ih =>
    intro r hf
    cases f with
    | zero => omega
    | succ f =>
      cases r with
      | nil => simp [quotF, wordsL]
      | cons c r =>
        simp only [List.length_cons] at hf
        rw [quotF, wordsL]
        by_cases h34 : c.toNat = 34
        · rw [if_pos h34, if_pos h34]; rfl
        · rw [if_neg h34, if_neg h34]
          by_cases h92 : c.toNat = 92
          · rw [if_pos h92, if_neg (by omega), if_pos h92]
            cases r with
            | nil => simp [toldX, wordsL]
            | cons d r =>
              simp only [List.length_cons] at hf
              rw [wordsL, toldX]
              have hr := ih f (by omega) r (by omega)
              by_cases hd : d.toNat = 34 ∨ d.toNat = 92
              · rw [if_pos hd, if_pos hd]
                simp only [hr]
                cases wordsL false r <;> simp
              · rw [if_neg hd, if_neg hd]
                by_cases h110 : d.toNat = 110
                · rw [if_pos h110, if_pos h110]
                  simp only [hr]
                  cases wordsL false r <;> simp
                · rw [if_neg h110, if_neg h110]; rfl
          · rw [if_neg h92]
            by_cases h10 : c.toNat = 10
            · rw [if_neg (by simp [nn, h10]), if_pos h10]; rfl
            · rw [if_pos (by simp [nn, h10]), if_neg h10, if_neg h92, ih f (by omega) r (by omega)]
              cases wordsL false r <;> simp

theorem quotL_words (c : UInt8) (r : List UInt8) (h : c.toNat = 34) : quotL nn toldX (c :: r) = (wordsL false r).map fun x => (x.1, r.drop x.2) := by
  obtain rfl : c = 34 := UInt8.toNat.inj (by rw [h]; rfl)
  unfold quotL
  rw [if_pos (by simp)]
  exact quot_words _ r (by simp)

theorem words_le (l : List UInt8) : ∀ (b : Bool) (x : List UInt8) (n : Nat), wordsL b l = some (x, n) → 0 < n ∧ n ≤ l.length := by
  induction l with
  | nil => intro b x n h; cases b <;> simp [wordsL] at h
  | cons c r ih =>
    intro b x n h
    have go : ∀ (b : Bool) (f : List UInt8 → List UInt8), (wordsL b r).map (fun y => (f y.1, y.2 + 1)) = some (x, n) → 0 < n ∧ n ≤ (c :: r).length := by
      intro b f h
      cases hw : wordsL b r with
      | none => rw [hw] at h; cases h
      | some y =>
        rw [hw] at h
        simp at h
        have := ih b y.1 y.2 hw
        simp; omega
    cases b with
    | true =>
      rw [wordsL] at h
      split at h
      · exact go false (fun y => c :: y) h
      · split at h
        · exact go false (fun y => 10 :: y) h
        · cases h
    | false =>
      rw [wordsL] at h
      split at h
      · simp at h; simp; omega
      · split at h
        · cases h
        · split at h
          · exact go true (fun y => y) h
          · exact go false (fun y => c :: y) h

/-- a number at a text's head -/
theorem num_forms (c : UInt8) (r : List UInt8) :
    numL (c :: r) = (if isNum (minusL (c :: r)) (digsL (c :: r)) then .ok (⟨2, [], signed (minusL (c :: r)) (valD (digsL (c :: r)))⟩, (digsL (c :: r)).length + if minusL (c :: r) then 1 else 0) else .error 1)
    ∧ leftL (c :: r) = (c :: r).drop ((digsL (c :: r)).length + if minusL (c :: r) then 1 else 0) := by
  by_cases h : c.toNat = 45
  · obtain rfl : c = 45 := UInt8.toNat.inj (by rw [h]; rfl)
    have hm : minusL (45 :: r) = true := by simp [minusL]
    have hc : cutL [45] (45 :: r) = r := by rw [cutL, if_pos (by simp)]; rfl
    have hd : digsL (45 :: r) = r.takeWhile dig := by rw [digsL, hc]
    rw [leftL, hc, hm, hd]
    refine ⟨rfl, ?_⟩
    rw [if_pos rfl, ← drop_takeWhile]; rfl
  · have hm : minusL (c :: r) = false := by
      cases hx : minusL (c :: r) with
      | false => rfl
      | true =>
        unfold minusL at hx
        have e : 45 = c := by simpa using hx
        exact absurd (by rw [← e]; rfl) h
    have hm2 : decide (((c :: r).head?.getD 0).toNat = 45) = false := by simp [h]
    have hc : cutL [45] (c :: r) = c :: r := by rw [cutL, if_neg]; unfold minusL at hm; rw [hm]; decide
    have hd : digsL (c :: r) = (c :: r).takeWhile dig := by rw [digsL, hc]
    rw [leftL, hc, hm, hd]
    refine ⟨?_, ?_⟩
    · rw [numL]
      simp only [hm2]
      rfl
    · rw [if_neg (by decide), ← drop_takeWhile]; rfl

theorem digs_pos (c : UInt8) (r : List UInt8) (h : isNum (minusL (c :: r)) (digsL (c :: r)) = true) : 0 < (digsL (c :: r)).length := List.length_pos_iff.2 (digits_len _ _ h).1

end Go.Proofs.YtkkjchfhgjfclaaDoor

/- Walks of lex's functions on bytes: those that Check meets. -/
namespace Go.Proofs.YtkkjchfhgjfclaaDoor
open Go.RowKit

theorem begins_any (c : UInt8) (w : World) :
    Calls Tryd.prog 49 #[.int .u8 c.toNat] w fun e w' => e = .returned (.bool (beg c)) ∧ w' = w := by
  go_enter Tryd.func49, Tryd.ntmps49
  go_wp2
  all_goals go_ret
  all_goals refine ⟨ret_bool ?_, rfl⟩
  all_goals (rw [Bool.eq_iff_iff]; simp; try omega)

def begX (c : UInt8) : Bool := beg c
def digX (c : UInt8) : Bool := dig c

theorem goesOn_any (c : UInt8) (w : World) :
    Calls Tryd.prog 51 #[.int .u8 c.toNat] w fun e w' => e = .returned (.bool (onn c)) ∧ w' = w := by
  have hb : ∀ w, Calls Tryd.prog 49 #[.int .u8 c.toNat] w fun e w' => e = .returned (.bool (begX c)) ∧ w' = w := fun w => begins_any c w
  have hd : ∀ w, Calls Tryd.prog 52 #[.int .u8 c.toNat] w fun e w' => e = .returned (.bool (digX c)) ∧ w' = w := fun w => isDigit_any c w
  have Hb := hide (hb)
  have Hd := hide (hd)
  clear hb hd
  have key : ∀ b d : Bool, begX c = b → digX c = d → onn c = (b || d) := by intro b d h1 h2; rw [← h1, ← h2]; rfl
  have Key := hide (key)
  clear key
  cases h1 : begX c <;> cases h2 : digX c
  all_goals
    have hk := Key.out _ _ h1 h2
    have HK := hide (hk)
    clear hk
    go_enter Tryd.func51, Tryd.ntmps51
    go_wp2_with (first
      | (go_at_call 49; refine (Hb.out _).mono ?_; rintro e w' ⟨rfl, rfl⟩)
      | (go_at_call 52; refine (Hd.out _).mono ?_; rintro e w' ⟨rfl, rfl⟩))
    all_goals go_ret
    all_goals exact ⟨ret_bool (by rw [HK.out]; rfl), rfl⟩

theorem indexByte_sgn (c : UInt8) : decide (0 ≤ Lib.indexByte [123, 125, 40, 41, 58, 91, 93] c) = sgn c := by
  have h : ∀ n : Fin 256, decide (0 ≤ Lib.indexByte [123, 125, 40, 41, 58, 91, 93] (UInt8.ofNat n)) = sgn (UInt8.ofNat n) := by decide +kernel
  have h1 := h ⟨c.toNat, c.toNat_lt⟩
  simpa using h1

set_option maxRecDepth 100000 in
theorem indexByte_any (s : ByteArray) (c : UInt8) (w : World) :
    Calls Tryd.prog 73 #[.string s, .int .u8 c.toNat] w fun e w' => e = .returned (.int .i64 (Lib.indexByte s.data.toList c)) ∧ w' = w := by
  go_enter Tryd.func73, Tryd.ntmps73
  go_wp2
  rw [run_callFunc_extern Tryd.func84 (by kernel_rfl) (by kernel_rfl) (by kernel_rfl) (e := Extern.BytealgIndexByte.indexByte) (by kernel_rfl), Lib.run_indexByteString]
  simp only [Result.andThen]
  rw [Oper.upon_value]
  go_wp2
  go_ret
  exact ⟨ret_int (by congr 1), rfl⟩

theorem isSign_any (c : UInt8) (w : World) :
    Calls Tryd.prog 57 #[.int .u8 c.toNat] w fun e w' => e = .returned (.bool (sgn c)) ∧ w' = w := by
  go_enter Tryd.func57, Tryd.ntmps57
  go_wp2_with (first
    | (go_at_call 68; go_in)
    | (go_at_call 73; refine (indexByte_any _ c _).mono ?_; rintro e w' ⟨rfl, rfl⟩))
  all_goals go_ret
  all_goals refine ⟨ret_bool ?_, rfl⟩
  all_goals (rw [← indexByte_sgn c]; try rfl)

theorem size_toList (s : ByteArray) : s.data.toList.length = s.size := by rw [Array.length_toList]; rfl
theorem take_at {s : ByteArray} {k : Nat} (h : k < s.size) : s.data.toList.take (k + 1) = s.data.toList.take k ++ [s[k]] := by
  rw [List.take_succ_eq_append_getElem (by rw [size_toList]; exact h)]; rfl


end Go.Proofs.YtkkjchfhgjfclaaDoor

/- Walks of lex's reader: passBlank, escaped. -/
namespace Go.Proofs.YtkkjchfhgjfclaaDoor
open Go.RowKit

theorem blank1_any (c : UInt8) (w : World) :
    Calls Tryd.prog 45 #[.int .u8 c.toNat] w fun e w' => e = .returned (.bool (wh c)) ∧ w' = w := by
  go_enter Tryd.func45, Tryd.ntmps45
  go_wp2
  all_goals go_ret
  all_goals refine ⟨ret_bool ?_, rfl⟩
  all_goals (rw [Bool.eq_iff_iff]; simp_all; try omega)

theorem blank2_any (c : UInt8) (w : World) :
    Calls Tryd.prog 47 #[.int .u8 c.toNat] w fun e w' => e = .returned (.bool (nn c)) ∧ w' = w := by
  go_enter Tryd.func47, Tryd.ntmps47
  go_wp2
  all_goals go_ret
  all_goals refine ⟨ret_bool ?_, rfl⟩
  all_goals (rw [Bool.eq_iff_iff]; simp_all; try omega)

theorem token1_any (c : UInt8) (w : World) :
    Calls Tryd.prog 54 #[.int .u8 c.toNat] w fun e w' => e = .returned (.bool (nn c)) ∧ w' = w := by
  go_enter Tryd.func54, Tryd.ntmps54
  go_wp2
  all_goals go_ret
  all_goals refine ⟨ret_bool ?_, rfl⟩
  all_goals (rw [Bool.eq_iff_iff]; simp_all; try omega)

theorem enters_b1 (args : Array Value) (w : World) : (callFunc 45 args).run Tryd.prog w = .ok (.enter 45 args) w := by kernel_rfl
theorem enters_b2 (args : Array Value) (w : World) : (callFunc 47 args).run Tryd.prog w = .ok (.enter 47 args) w := by kernel_rfl
theorem enters_t1 (args : Array Value) (w : World) : (callFunc 54 args).run Tryd.prog w = .ok (.enter 54 args) w := by kernel_rfl
theorem enters_on (args : Array Value) (w : World) : (callFunc 51 args).run Tryd.prog w = .ok (.enter 51 args) w := by kernel_rfl
theorem enters_es (args : Array Value) (w : World) : (callFunc 56 args).run Tryd.prog w = .ok (.enter 56 args) w := by kernel_rfl

/-- A reader lies in block rb: its text in block b, its tokens. -/
def Rd (w : World) (rb b : Nat) (v : Value) : Prop := w.heap[rb]? = some (.cells #[.pointer (some ⟨b, 0, none⟩), v] 37 (0, 0))

theorem Rd.c0 {w : World} {rb b : Nat} {v : Value} (h : Rd w rb b v) : w.cell? ⟨rb, 0, none⟩ = some (.pointer (some ⟨b, 0, none⟩)) := by
  unfold Rd at h; simp [World.cell?, h]
theorem Rd.c1 {w : World} {rb b : Nat} {v : Value} (h : Rd w rb b v) : w.cell? ⟨rb, 1, none⟩ = some v := by
  unfold Rd at h; simp [World.cell?, h]
theorem Rd.f {w : World} {rb b : Nat} {v : Value} (h : Rd w rb b v) (o : Nat) : w.frozen? ⟨rb, o, none⟩ = false := by
  unfold Rd at h; simp [World.frozen?, h]
theorem Rd.lt {w : World} {rb b : Nat} {v : Value} (h : Rd w rb b v) : rb < w.heap.size := World.block_lt_of_cell? w _ h.c0
theorem Rd.keep {w w' : World} {rb b : Nat} {v : Value} (h : Rd w rb b v) {X : Nat → Prop} (hk : Kept X w w') (hX : ¬ X rb) : Rd w' rb b v := by
  have hb := h.lt
  unfold Rd at *
  rw [hk.block rb hb hX]; exact h
theorem Rd.al {w : World} {rb b : Nat} {v : Value} (h : Rd w rb b v) (o : Obj) : Rd (w.alloc o) rb b v := h.keep (X := fun _ => False) ((Kept.refl _ w).alloc o) (fun f => f)
theorem Rd.setT {w : World} {rb b : Nat} {v : Value} (h : Rd w rb b v) (x : Value) : Rd (w.setCell ⟨rb, 1, none⟩ x) rb b x := by
  unfold Rd at *
  simp [World.setCell, Array.getElem?_modify, h]

set_option maxHeartbeats 800000 in
theorem passBlank_any (w : World) (rb b : Nat) (l : List UInt8) (v : Value) (hr : Rd w rb b v) (hne : rb ≠ b) (h : Txt w b l) (hl : l.length ≤ 1000000000000) :
    Calls Tryd.prog 34 #[.pointer (some ⟨rb, 0, none⟩)] w fun e w' =>
      e = .returned (.tuple #[]) ∧ Txt w' b (l.drop (skipN false l)) ∧ Kept (· = b) w w' := by
  go_enter Tryd.func34, Tryd.ntmps34
  go_wp2_with fail
  go_loopg [] l.length (fun g wr => ∃ r : List UInt8, r.length ≤ g ∧ r.length ≤ 1000000000000 ∧ Txt wr b r ∧ Kept (· = b) w wr ∧ Hid (l.drop (skipN false l) = r.drop (skipN false r)))
  case atStart => exact ⟨l, Nat.le_refl _, hl, h, Kept.refl _ _, hide rfl⟩
  case round =>
    obtain ⟨r, hg, hrl, hT, hK, HE⟩ := hrel
    have c0 := (hr.keep hK hne).c0
    go_wp2_with fail
    refine (tPass 45 wh enters_b1 blank1_any _ b r hT hrl).mono ?_
    rintro e w1 ⟨rfl, hT1, hK1⟩
    have hK2 : Kept (· = b) w w1 := hK.trans hK1 (fun _ _ h => h)
    clear hK1 hK hT c0
    have c0 := (hr.keep hK2 hne).c0
    have hlen := dropWhile_len wh r
    have HSk := hide (tSkip w1 b _ [35] hT1)
    go_wp2_with fail
    refine HSk.out.mono ?_
    rintro e w2 ⟨rfl, hT2, hK3⟩
    have hK4 : Kept (· = b) w w2 := hK2.trans hK3 (fun _ _ h => h)
    clear hK2 hK3 HSk hT1 c0
    have c0 := (hr.keep hK4 hne).c0
    cases hp : [35].isPrefixOf (r.dropWhile wh) with
    | true =>
      obtain ⟨e1, e2⟩ := sk_hash _ hp
      have HE2 := hide (HE.out.trans ((sk_white r).trans e1))
      have hlen2 : (cutL [35] (r.dropWhile wh)).length ≤ 1000000000000 := by omega
      have hlen3 : (cutL [35] (r.dropWhile wh)).length + 1 ≤ r.length := by omega
      clear e1 e2 HE hp
      generalize cutL [35] (r.dropWhile wh) = m at *
      go_wp2_with fail
      refine (tPass 47 nn enters_b2 blank2_any _ b m hT2 hlen2).mono ?_
      rintro e w3 ⟨rfl, hT3, hK5⟩
      have hlen4 := dropWhile_len nn m
      go_wp2_with fail
      go_roundg (m.dropWhile nn).length
      case measure => omega
      case rel => exact ⟨m.dropWhile nn, Nat.le_refl _, by omega, hT3, hK4.trans hK5 (fun _ _ h => h), HE2⟩
    | false =>
      obtain ⟨e1, e2⟩ := sk_stop _ hp
      rw [e2] at hT2
      have HE2 := hide (HE.out.trans e1)
      clear e1 e2 HE hp
      go_wp2_with fail
      first | go_end0 | refine bodyPost_ret (results_none rfl _ _ _) rfl ?_
      exact ⟨rfl, by rw [HE2.out]; exact hT2, hK4⟩

theorem escaped_any (w : World) (rb b : Nat) (l : List UInt8) (v : Value) (hr : Rd w rb b v) (h : Txt w b l) :
    Calls Tryd.prog 56 #[.pointer (some ⟨rb, 0, none⟩)] w fun e w' =>
      (∃ d r', toldX l = some (d, r') ∧ e = .returned (.int .u8 d.toNat) ∧ Txt w' b r' ∧ Kept (· = b) w w') ∨ (toldX l = none ∧ e = fault 1 ∧ Kept (· = b) w w') := by
  have c0 := hr.c0
  cases l with
  | nil =>
    have HN := hide (tNext_end w b h)
    go_enter Tryd.func56, Tryd.ntmps56
    go_wp2_with fail
    refine HN.out.mono ?_
    rintro e w1 ⟨rfl, rfl⟩
    go_wp2_with fail
    exact ⟨rfl, .inr ⟨rfl, rfl, Kept.refl _ _⟩⟩
  | cons c r =>
    have HN := hide (tNext w b c r h)
    by_cases h34 : c.toNat = 34
    · have HT := hide (show toldX (c :: r) = some (c, r) by rw [toldX, if_pos (.inl h34)])
      have t1 : ((c.toNat : Int) == 34) = true := by simp; omega
      clear h34
      go_enter Tryd.func56, Tryd.ntmps56
      go_wp2_with fail
      refine HN.out.mono ?_
      rintro e w1 ⟨rfl, h1, hK⟩
      go_wp2_with fail
      go_ret
      exact .inl ⟨c, r, HT.out, rfl, h1, hK⟩
    · have t1 : ((c.toNat : Int) == 34) = false := by simp; omega
      by_cases h92 : c.toNat = 92
      · have HT := hide (show toldX (c :: r) = some (c, r) by rw [toldX, if_pos (.inr h92)])
        have t2 : ((c.toNat : Int) == 92) = true := by simp; omega
        clear h34 h92
        go_enter Tryd.func56, Tryd.ntmps56
        go_wp2_with fail
        refine HN.out.mono ?_
        rintro e w1 ⟨rfl, h1, hK⟩
        go_wp2_with fail
        go_ret
        exact .inl ⟨c, r, HT.out, rfl, h1, hK⟩
      · have t2 : ((c.toNat : Int) == 92) = false := by simp; omega
        by_cases h110 : c.toNat = 110
        · have HT := hide (show toldX (c :: r) = some (10, r) by rw [toldX, if_neg (by omega), if_pos h110])
          have t3 : ((c.toNat : Int) == 110) = true := by simp; omega
          clear h34 h92 h110
          go_enter Tryd.func56, Tryd.ntmps56
          go_wp2_with fail
          refine HN.out.mono ?_
          rintro e w1 ⟨rfl, h1, hK⟩
          go_wp2_with fail
          go_ret
          exact .inl ⟨10, r, HT.out, rfl, h1, hK⟩
        · have HT := hide (show toldX (c :: r) = none by rw [toldX, if_neg (by omega), if_neg h110])
          have t3 : ((c.toNat : Int) == 110) = false := by simp; omega
          clear h34 h92 h110
          go_enter Tryd.func56, Tryd.ntmps56
          go_wp2_with fail
          refine HN.out.mono ?_
          rintro e w1 ⟨rfl, h1, hK⟩
          go_wp2_with fail
          exact ⟨rfl, .inr ⟨HT.out, rfl, hK⟩⟩

end Go.Proofs.YtkkjchfhgjfclaaDoor

/- A struct of three cells; a row owned. -/
namespace Go.Proofs.YtkkjchfhgjfclaaDoor
open Go.RowKit

theorem cells3 {w : World} {g : Nat} {x y z : Value} {t : TypeId} (h : w.heap[g]? = some (.cells #[x, y, z] t (0, 0))) :
    w.cell? ⟨g, 0, none⟩ = some x ∧ w.cell? ⟨g, 1, none⟩ = some y ∧ w.cell? ⟨g, 2, none⟩ = some z ∧ w.frozen? ⟨g, 0, none⟩ = false ∧ w.frozen? ⟨g, 1, none⟩ = false ∧ w.frozen? ⟨g, 2, none⟩ = false := by
  simp [World.cell?, World.frozen?, h]

theorem set3 {w : World} {g : Nat} {x y z : Value} {t : TypeId} (h : w.heap[g]? = some (.cells #[x, y, z] t (0, 0))) (a b c : Value) :
    (((w.setCell ⟨g, 0, none⟩ a).setCell ⟨g, 1, none⟩ b).setCell ⟨g, 2, none⟩ c).heap[g]? = some (.cells #[a, b, c] t (0, 0)) := by
  simp [World.setCell, Array.getElem?_modify, h]

theorem keep_set3 {X : Nat → Prop} {w w1 : World} (h : Kept X w w1) (x y z : Value) :
    Kept X w (((w1.setCell ⟨w.heap.size, 0, none⟩ x).setCell ⟨w.heap.size, 1, none⟩ y).setCell ⟨w.heap.size, 2, none⟩ z) :=
  ((h.setCell (fun hl => absurd hl (Nat.lt_irrefl _)) _).setCell (fun hl => absurd hl (Nat.lt_irrefl _)) _).setCell (fun hl => absurd hl (Nat.lt_irrefl _)) _

theorem own_base {w : World} {base base' : Nat} {e : TypeId} {size : Nat} {v : Value} {n : Nat} {xs : List Value} (h : w.ownsRow base e size v n xs) (hb : base' ≤ base) : w.ownsRow base' e size v n xs := by
  obtain ⟨h1, h2⟩ := h
  refine ⟨h1, ?_⟩
  rcases h2 with h2 | ⟨g, cap, cur, hv, hg, r⟩
  · exact Or.inl h2
  · exact Or.inr ⟨g, cap, cur, hv, Nat.le_trans hb hg, r⟩

theorem own_slice {w : World} {base : Nat} {e : TypeId} {size : Nat} {v : Value} {n : Nat} {xs : List Value} (h : w.ownsRow base e size v n xs) : ∃ ao cap, v = .slice ao n cap := by
  rcases h.2 with ⟨rfl, rfl⟩ | ⟨g, cap, cur, hv, _⟩
  · exact ⟨none, 0, rfl⟩
  · exact ⟨_, cap, hv⟩

end Go.Proofs.YtkkjchfhgjfclaaDoor

/- strings.Clone. -/
namespace Go.Proofs.YtkkjchfhgjfclaaDoor
open Go.RowKit

theorem clone_any (s : ByteArray) (w : World) (hlim : s.size ≤ 281474976710656) :
    Calls Tryd.prog 50 #[.string s] w fun e w' => e = .returned (.string s) ∧ Same w w' := by
  go_enter Tryd.func50, Tryd.ntmps50
  go_wp2_with ((go_at_call 64; refine (Tryd.stringslite_Clone _ _ hlim).mono ?_; rintro e w1 ⟨rfl, hb⟩))
  go_ret
  exact ⟨rfl, Kept.of_below hb⟩

end Go.Proofs.YtkkjchfhgjfclaaDoor
