/- Walks of lex's reader: token. -/
import Derived.Test.YtkkjchfhgjfclabGreatDoorSchematells15
import Derived.Test.YtkkjchfhgjfclabGreatDoorSchematells09
namespace Go.Proofs.YtkkjchfhgjfclabGreatDoor
open Go.RowKit

abbrev tokV (t : Tok) : Value := .agg #[.int .i64 t.k, .string ⟨t.s.toArray⟩, .int .i64 t.n]

theorem txt_set3 {w : World} {b g : Nat} {l : List UInt8} (h : Txt w b l) (hg : b ≠ g) (x y z : Value) :
    Txt (((w.setCell ⟨g, 0, none⟩ x).setCell ⟨g, 1, none⟩ y).setCell ⟨g, 2, none⟩ z) b l := by
  unfold Txt at *
  rw [Below.heap_setCell _ _ _ _ hg, Below.heap_setCell _ _ _ _ hg, Below.heap_setCell _ _ _ _ hg]
  exact h

set_option maxHeartbeats 1600000 in
theorem token_name (w : World) (rb b : Nat) (c : UInt8) (r : List UInt8) (v : Value) (hr : Rd w rb b v) (h : Txt w b (c :: r)) (hl : (c :: r).length ≤ 1000000000000) (hc : beg c = true) :
    Calls Tryz.prog 86 #[.pointer (some ⟨rb, 0, none⟩)] w fun e w' =>
      e = .returned (tokV ⟨1, (c :: r).takeWhile onn, 0⟩) ∧ Txt w' b ((c :: r).dropWhile onn) ∧ Kept (· = b) w w' := by
  have c0 := hr.c0
  have hrs := hr.lt
  have hbs := h.lt
  have HC := hide hc
  clear hc
  have hlim : (⟨((c :: r).takeWhile onn).toArray⟩ : ByteArray).size ≤ 281474976710656 := by
    rw [bytes_size]
    have := List.IsPrefix.length_le (List.takeWhile_prefix onn (l := c :: r))
    omega
  have HP := hide (fun o => tPass 115 onn enters_on goesOn_any (w.alloc o) b (c :: r) (h.al o) hl)
  generalize (c :: r).takeWhile onn = nm at *
  generalize (c :: r).dropWhile onn = rs at *
  go_enter Tryz.func86, Tryz.ntmps86
  go_wp2_with fail
  refine (tPeek _ b c r (h.al _)).mono ?_
  rintro e w1 ⟨rfl, hw1⟩
  subst hw1
  go_wp2_with fail
  refine (begins_any c _).mono ?_
  rintro e w1 ⟨rfl, hw1⟩
  rw [HC.out]
  subst hw1
  go_wp2_with fail
  refine (HP.out _).mono ?_
  rintro e w2 ⟨rfl, h2, hK2⟩
  go_wp2_with fail
  refine (clone_any _ _ hlim).mono ?_
  rintro e w3 ⟨rfl, hK3⟩
  have hg := new_kept (w := w) (X := (· = b)) (hK2.trans hK3 (fun _ _ f => f.elim)) (fun e => by omega)
  obtain ⟨g0, g1, g2, z0, z1, z2⟩ := cells3 hg
  go_wp2
  obtain ⟨q0, q1, q2, _⟩ := cells3 (set3 hg (.int .i64 1) (.string ⟨nm.toArray⟩) (.int .i64 0))
  refine bodyPost_ret (v := tokV ⟨1, nm, 0⟩) (by simp [results, Tryz.results86, go_sem, q0, q1, q2]) rfl ⟨rfl, ?_, ?_⟩
  · exact txt_set3 (h2.keep hK3 (fun f => f)) (by omega) _ _ _
  · exact keep_set3 (hK2.trans hK3 (fun _ _ f => f.elim)).unA _ _ _

set_option maxHeartbeats 1600000 in
theorem token_num (w : World) (rb b : Nat) (c : UInt8) (r : List UInt8) (v : Value) (hr : Rd w rb b v) (h : Txt w b (c :: r)) (hl : (c :: r).length ≤ 1000000000000) (hb : beg c = false)
    (m : Bool) (hm : ((c.toNat : Int) == 45) = m) (hd : m = false → dig c = true) :
    Calls Tryz.prog 86 #[.pointer (some ⟨rb, 0, none⟩)] w fun e w' =>
      (isNum (minusL (c :: r)) (digsL (c :: r)) = true ∧ e = .returned (tokV ⟨2, [], signed (minusL (c :: r)) (valD (digsL (c :: r)))⟩) ∧ Txt w' b (leftL (c :: r)) ∧ Kept (· = b) w w')
      ∨ (isNum (minusL (c :: r)) (digsL (c :: r)) = false ∧ e = fault 1 ∧ Kept (· = b) w w') := by
  have c0 := hr.c0
  have hrs := hr.lt
  have hbs := h.lt
  have HB := hide hb
  have HN := hide (fun o => tNumber (w.alloc o) b (c :: r) (h.al o) hl)
  generalize isNum (minusL (c :: r)) (digsL (c :: r)) = ok at *
  generalize signed (minusL (c :: r)) (valD (digsL (c :: r))) = val at *
  generalize leftL (c :: r) = rs at *
  have HD0 := hide hd
  clear hb hd
  have fin : Calls Tryz.prog 86 #[.pointer (some ⟨rb, 0, none⟩)] w fun e w' => (ok = true ∧ e = .returned (tokV ⟨2, [], val⟩) ∧ Txt w' b rs ∧ Kept (· = b) w w') ∨ (ok = false ∧ e = fault 1 ∧ Kept (· = b) w w') := by
    cases m
    · have HD := hide (HD0.out rfl)
      go_enter Tryz.func86, Tryz.ntmps86
      go_wp2_with fail
      refine (tPeek _ b c r (h.al _)).mono ?_
      rintro e w1 ⟨rfl, hw1⟩
      subst hw1
      go_wp2_with fail
      refine (begins_any c _).mono ?_
      rintro e w1 ⟨rfl, hw1⟩
      rw [HB.out]
      subst hw1
      go_wp2_with fail
      refine (isDigit_any c _).mono ?_
      rintro e w1 ⟨rfl, hw1⟩
      rw [HD.out]
      subst hw1
      go_wp2_with fail
      refine (HN.out _).mono ?_
      rintro e w2 (⟨hok, rfl, hR2, hK2⟩ | ⟨hok, rfl, hK2⟩)
      · have hg := new_kept (w := w) (X := (· = b)) hK2 (fun e => by omega)
        obtain ⟨g0, g1, g2, z0, z1, z2⟩ := cells3 hg
        go_wp2
        obtain ⟨q0, q1, q2, _⟩ := cells3 (set3 hg (.int .i64 2) (.string ⟨#[]⟩) (.int .i64 val))
        refine bodyPost_ret (v := tokV ⟨2, [], val⟩) (by simp [results, Tryz.results86, go_sem, q0, q1, q2]) rfl (.inl ⟨hok, rfl, ?_, ?_⟩)
        · exact txt_set3 hR2 (by omega) _ _ _
        · exact keep_set3 hK2.unA _ _ _
      · exact ⟨rfl, .inr ⟨hok, rfl, hK2.unA⟩⟩
    · go_enter Tryz.func86, Tryz.ntmps86
      go_wp2_with fail
      refine (tPeek _ b c r (h.al _)).mono ?_
      rintro e w1 ⟨rfl, hw1⟩
      subst hw1
      go_wp2_with fail
      refine (begins_any c _).mono ?_
      rintro e w1 ⟨rfl, hw1⟩
      rw [HB.out]
      subst hw1
      go_wp2_with fail
      refine (HN.out _).mono ?_
      rintro e w2 (⟨hok, rfl, hR2, hK2⟩ | ⟨hok, rfl, hK2⟩)
      · have hg := new_kept (w := w) (X := (· = b)) hK2 (fun e => by omega)
        obtain ⟨g0, g1, g2, z0, z1, z2⟩ := cells3 hg
        go_wp2
        obtain ⟨q0, q1, q2, _⟩ := cells3 (set3 hg (.int .i64 2) (.string ⟨#[]⟩) (.int .i64 val))
        refine bodyPost_ret (v := tokV ⟨2, [], val⟩) (by simp [results, Tryz.results86, go_sem, q0, q1, q2]) rfl (.inl ⟨hok, rfl, ?_, ?_⟩)
        · exact txt_set3 hR2 (by omega) _ _ _
        · exact keep_set3 hK2.unA _ _ _
      · exact ⟨rfl, .inr ⟨hok, rfl, hK2.unA⟩⟩
  exact fin

set_option maxHeartbeats 1600000 in
theorem token_words (w : World) (rb b : Nat) (c : UInt8) (r : List UInt8) (v : Value) (hr : Rd w rb b v) (hne : rb ≠ b) (h : Txt w b (c :: r)) (hl : (c :: r).length ≤ 1000000000000) (hb : beg c = false) (hc : c.toNat = 34) :
    Calls Tryz.prog 86 #[.pointer (some ⟨rb, 0, none⟩)] w fun e w' =>
      (∃ x rs, quotL nn toldX (c :: r) = some (x, rs) ∧ e = .returned (tokV ⟨3, x, 0⟩) ∧ Txt w' b rs ∧ Kept (· = b) w w')
      ∨ (quotL nn toldX (c :: r) = none ∧ e = fault 1 ∧ Kept (· = b) w w') := by
  have c0 := hr.c0
  have hrs := hr.lt
  have hbs := h.lt
  have HB := hide hb
  have HD := hide (show dig c = false by simp; omega)
  have h45 : ((c.toNat : Int) == 45) = false := by simp; omega
  have h34 : ((c.toNat : Int) == 34) = true := by simp; omega
  have hmf : ∀ (fn : Fn) (first cap : Array Value) (w : World), (Instr.makeFunc fn first cap).run Tryz.prog w = .ok (.func fn first cap) w := fun _ _ _ _ => rfl
  have HN := hide (fun o => tQuoted 118 120 nn toldX (.pointer (some ⟨rb, 0, none⟩)) _ (.inl rfl) enters_t1 enters_es token1_any toldX_len (w.alloc o) b (c :: r) (h.al o) hl
    (fun wr r hK hT => escaped_any wr rb b r v ((hr.al o).keep hK hne) hT))
  clear hb hc
  go_enter Tryz.func86, Tryz.ntmps86
  go_wp2_with fail
  refine (tPeek _ b c r (h.al _)).mono ?_
  rintro e w1 ⟨rfl, hw1⟩
  subst hw1
  go_wp2_with fail
  refine (begins_any c _).mono ?_
  rintro e w1 ⟨rfl, hw1⟩
  rw [HB.out]
  subst hw1
  go_wp2_with fail
  refine (isDigit_any c _).mono ?_
  rintro e w1 ⟨rfl, hw1⟩
  rw [HD.out]
  subst hw1
  go_wp2_with fail
  refine (HN.out _).mono ?_
  rintro e w2 (⟨x, rs, hw, rfl, hR2, hK2⟩ | ⟨hw, rfl, hK2⟩)
  · have HW := hide hw
    clear hw HN
    have hg := new_kept (w := w) (X := (· = b)) hK2 (fun e => by omega)
    obtain ⟨g0, g1, g2, z0, z1, z2⟩ := cells3 hg
    go_wp2
    obtain ⟨q0, q1, q2, _⟩ := cells3 (set3 hg (.int .i64 3) (.string ⟨x.toArray⟩) (.int .i64 0))
    refine bodyPost_ret (v := tokV ⟨3, x, 0⟩) (by simp [results, Tryz.results86, go_sem, q0, q1, q2]) rfl (.inl ⟨x, rs, HW.out, rfl, ?_, ?_⟩)
    · exact txt_set3 hR2 (by omega) _ _ _
    · exact keep_set3 hK2.unA _ _ _
  · exact ⟨rfl, .inr ⟨hw, rfl, hK2.unA⟩⟩

set_option maxHeartbeats 1600000 in
theorem token_none (w : World) (rb b : Nat) (c : UInt8) (r : List UInt8) (v : Value) (hr : Rd w rb b v) (h : Txt w b (c :: r)) (hb : beg c = false) (hd : dig c = false)
    (h45 : ((c.toNat : Int) == 45) = false) (h34 : ((c.toNat : Int) == 34) = false) (ht : sgn c = false) :
    Calls Tryz.prog 86 #[.pointer (some ⟨rb, 0, none⟩)] w fun e w' => e = fault 1 ∧ Kept (· = b) w w' := by
  have c0 := hr.c0
  have hrs := hr.lt
  have HB := hide hb
  have HD := hide hd
  have HT := hide ht
  clear hb hd ht
  go_enter Tryz.func86, Tryz.ntmps86
  go_wp2_with fail
  refine (tPeek _ b c r (h.al _)).mono ?_
  rintro e w1 ⟨rfl, hw1⟩
  subst hw1
  go_wp2_with fail
  refine (begins_any c _).mono ?_
  rintro e w1 ⟨rfl, hw1⟩
  rw [HB.out]
  subst hw1
  go_wp2_with fail
  refine (isDigit_any c _).mono ?_
  rintro e w1 ⟨rfl, hw1⟩
  rw [HD.out]
  subst hw1
  go_wp2_with fail
  refine (isSign_any c _).mono ?_
  rintro e w1 ⟨rfl, hw1⟩
  rw [HT.out]
  subst hw1
  go_wp2_with fail
  exact ⟨rfl, rfl, (by repeat' (first | assumption | exact Kept.refl _ _ | refine Kept.drewN ?_ _ | refine Kept.drew ?_ | refine Kept.alloc ?_ _ | refine Kept.setB ?_ _ _))⟩

set_option maxHeartbeats 1600000 in
theorem token_sign (w : World) (rb b : Nat) (c : UInt8) (r : List UInt8) (v : Value) (hr : Rd w rb b v) (h : Txt w b (c :: r)) (hb : beg c = false) (hd : dig c = false)
    (h45 : ((c.toNat : Int) == 45) = false) (h34 : ((c.toNat : Int) == 34) = false) (ht : sgn c = true) :
    Calls Tryz.prog 86 #[.pointer (some ⟨rb, 0, none⟩)] w fun e w' => e = .returned (tokV ⟨4, [c], 0⟩) ∧ Txt w' b r ∧ Kept (· = b) w w' := by
  have c0 := hr.c0
  have hrs := hr.lt
  have hbs := h.lt
  have HB := hide hb
  have HD := hide hd
  have HT := hide ht
  clear hb hd ht
  have HN := hide (fun o => tNext (w.alloc o) b c r (h.al o))
  have hconv := fun X g => one_string X g c
  go_enter Tryz.func86, Tryz.ntmps86
  go_wp2_with fail
  refine (tPeek _ b c r (h.al _)).mono ?_
  rintro e w1 ⟨rfl, hw1⟩
  subst hw1
  go_wp2_with fail
  refine (begins_any c _).mono ?_
  rintro e w1 ⟨rfl, hw1⟩
  rw [HB.out]
  subst hw1
  go_wp2_with fail
  refine (isDigit_any c _).mono ?_
  rintro e w1 ⟨rfl, hw1⟩
  rw [HD.out]
  subst hw1
  go_wp2_with fail
  refine (isSign_any c _).mono ?_
  rintro e w1 ⟨rfl, hw1⟩
  rw [HT.out]
  subst hw1
  go_wp2_with fail
  refine (HN.out _).mono ?_
  rintro e w2 ⟨rfl, h2, hK2⟩
  have hg := new_kept (w := w) (X := (· = b)) hK2 (fun e => by omega)
  have hgs : w.heap.size < w2.heap.size := (Array.getElem?_eq_some_iff.1 hg).1
  obtain ⟨g0, g1, g2, z0, z1, z2⟩ := cells3 hg
  go_wp2_with fail
  have hs3 := set3 hg (.int .i64 4) (.string ⟨#[c]⟩) (.int .i64 0)
  have hT3 := txt_set3 (g := w.heap.size) h2 (by omega) (.int .i64 4) (.string ⟨#[c]⟩) (.int .i64 0)
  have hK3 := keep_set3 hK2.unA (.int .i64 4) (.string ⟨#[c]⟩) (.int .i64 0)
  have hz3 : w.heap.size < (((w2.setCell ⟨w.heap.size, 0, none⟩ (.int .i64 4)).setCell ⟨w.heap.size, 1, none⟩ (.string ⟨#[c]⟩)).setCell ⟨w.heap.size, 2, none⟩ (.int .i64 0)).heap.size := by simpa using hgs
  generalize ((w2.setCell ⟨w.heap.size, 0, none⟩ (.int .i64 4)).setCell ⟨w.heap.size, 1, none⟩ (.string ⟨#[c]⟩)).setCell ⟨w.heap.size, 2, none⟩ (.int .i64 0) = w6 at *
  obtain ⟨q0, q1, q2, _⟩ := cells3 ((Below.heap_alloc w6 (.cells #[.int .u8 c.toNat] 5) w.heap.size hz3).trans hs3)
  exact bodyPost_ret (v := tokV ⟨4, [c], 0⟩) (by simp [results, Tryz.results86, go_sem, q0, q1, q2]) rfl ⟨rfl, hT3.al _, hK3.alloc _⟩

set_option maxHeartbeats 400000 in
theorem token_any (w : World) (rb b : Nat) (c : UInt8) (r : List UInt8) (v : Value) (hr : Rd w rb b v) (hne : rb ≠ b) (h : Txt w b (c :: r)) (hl : (c :: r).length ≤ 1000000000000) :
    Calls Tryz.prog 86 #[.pointer (some ⟨rb, 0, none⟩)] w fun e w' =>
      (∃ t n, tokL (c :: r) = .ok (t, n) ∧ 0 < n ∧ e = .returned (tokV t) ∧ Txt w' b ((c :: r).drop n) ∧ Kept (· = b) w w')
      ∨ (tokL (c :: r) = .error 1 ∧ e = fault 1 ∧ Kept (· = b) w w') := by
  cases hb : beg c with
  | true =>
    refine (token_name w rb b c r v hr h hl hb).mono ?_
    rintro e w' ⟨rfl, hR, hK⟩
    refine .inl ⟨_, _, by rw [tokL, if_pos hb], ?_, rfl, by rw [drop_takeWhile]; exact hR, hK⟩
    rw [List.takeWhile_cons, if_pos (by simp [onn, hb])]; simp
  | false =>
    by_cases hn : c.toNat = 45 ∨ dig c = true
    · obtain ⟨m, hm⟩ : ∃ m, ((c.toNat : Int) == 45) = m := ⟨_, rfl⟩
      have hdm : m = false → dig c = true := by
        intro e; subst e
        simp at hm
        exact hn.resolve_left (by omega)
      have htok : tokL (c :: r) = numL (c :: r) := by
        rw [tokL, if_neg (by simp [hb]), if_pos (by simp only [Bool.or_eq_true, decide_eq_true_eq]; exact hn)]
      obtain ⟨f1, f2⟩ := num_forms c r
      refine (token_num w rb b c r v hr h hl hb m hm hdm).mono ?_
      rintro e w' (⟨hok, rfl, hR, hK⟩ | ⟨hok, rfl, hK⟩)
      · have := digs_pos c r hok
        refine .inl ⟨_, _, by rw [htok, f1, if_pos hok], by omega, rfl, by rw [← f2]; exact hR, hK⟩
      · exact .inr ⟨by rw [htok, f1, if_neg (by rw [hok]; decide)], rfl, hK⟩
    · have h45 : ¬ c.toNat = 45 := fun a => hn (.inl a)
      have hdg : dig c = false := by cases hx : dig c with | false => rfl | true => exact absurd (.inr hx) hn
      have hne2 : ¬ ((decide (c.toNat = 45) || dig c) = true) := by rw [hdg]; simp; omega
      by_cases h34 : c.toNat = 34
      · refine (token_words w rb b c r v hr hne h hl hb h34).mono ?_
        rw [quotL_words c r h34]
        rintro e w' (⟨x, rs, hw, rfl, hR, hK⟩ | ⟨hw, rfl, hK⟩)
        · cases hq : wordsL false r with
          | none => rw [hq] at hw; cases hw
          | some y =>
            rw [hq] at hw
            simp only [Option.map_some, Option.some.injEq, Prod.mk.injEq] at hw
            obtain ⟨rfl, rfl⟩ := hw
            exact .inl ⟨_, y.2 + 1, by rw [tokL, if_neg (by simp [hb]), if_neg hne2, if_pos h34, hq], by omega, rfl, hR, hK⟩
        · cases hq : wordsL false r with
          | none => exact .inr ⟨by rw [tokL, if_neg (by simp [hb]), if_neg hne2, if_pos h34, hq], rfl, hK⟩
          | some y => rw [hq] at hw; cases hw
      · cases hg : sgn c with
        | true =>
          refine (token_sign w rb b c r v hr h hb hdg (by simp; omega) (by simp; omega) hg).mono ?_
          rintro e w' ⟨rfl, hR, hK⟩
          exact .inl ⟨_, 1, by rw [tokL, if_neg (by simp [hb]), if_neg hne2, if_neg h34, if_pos hg], by omega, rfl, hR, hK⟩
        | false =>
          refine (token_none w rb b c r v hr h hb hdg (by simp; omega) (by simp; omega) hg).mono ?_
          rintro e w' ⟨rfl, hK⟩
          exact .inr ⟨by rw [tokL, if_neg (by simp [hb]), if_neg hne2, if_neg h34, if_neg (by rw [hg]; decide)], rfl, hK⟩

end Go.Proofs.YtkkjchfhgjfclabGreatDoor
