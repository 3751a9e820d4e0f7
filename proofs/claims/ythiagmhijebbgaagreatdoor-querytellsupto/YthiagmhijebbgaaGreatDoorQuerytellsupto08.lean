import Derived.Test.YthiagmhijebbgaaGreatDoorQuerytellsupto07
/- Walks of the reader: token. -/
namespace Go.Proofs.YthiagmhijebbgaaGreatDoor
open Go.RowKit

abbrev tokV (t : Tok) : Value := .agg #[.int .i64 t.k, .string ⟨t.s.toArray⟩, .int .i64 t.n]

theorem cells3 {w : World} {g : Nat} {x y z : Value} {t : TypeId} (h : w.heap[g]? = some (.cells #[x, y, z] t (0, 0))) :
    w.cell? ⟨g, 0, none⟩ = some x ∧ w.cell? ⟨g, 1, none⟩ = some y ∧ w.cell? ⟨g, 2, none⟩ = some z ∧ w.frozen? ⟨g, 0, none⟩ = false ∧ w.frozen? ⟨g, 1, none⟩ = false ∧ w.frozen? ⟨g, 2, none⟩ = false := by
  simp [World.cell?, World.frozen?, h]

theorem Rdr.al {w : World} {b k : Nat} {s : ByteArray} {v : Value} (h : Rdr w b s k v) (o : Obj) : Rdr (w.alloc o) b s k v := h.keep (X := fun _ => False) ((Kept.refl _ w).alloc o) (fun f => f)

theorem set3 {w : World} {g : Nat} {x y z : Value} {t : TypeId} (h : w.heap[g]? = some (.cells #[x, y, z] t (0, 0))) (a b c : Value) :
    (((w.setCell ⟨g, 0, none⟩ a).setCell ⟨g, 1, none⟩ b).setCell ⟨g, 2, none⟩ c).heap[g]? = some (.cells #[a, b, c] t (0, 0)) := by
  simp [World.setCell, Array.getElem?_modify, h]

theorem Rdr.set3 {w : World} {b k g : Nat} {s : ByteArray} {v : Value} (h : Rdr w b s k v) (hg : b ≠ g) (x y z : Value) :
    Rdr (((w.setCell ⟨g, 0, none⟩ x).setCell ⟨g, 1, none⟩ y).setCell ⟨g, 2, none⟩ z) b s k v := by
  unfold Rdr at *
  rw [Below.heap_setCell _ _ _ _ hg, Below.heap_setCell _ _ _ _ hg, Below.heap_setCell _ _ _ _ hg]
  exact h

theorem keep_set3 {X : Nat → Prop} {w w1 : World} (h : Kept X w w1) (x y z : Value) :
    Kept X w (((w1.setCell ⟨w.heap.size, 0, none⟩ x).setCell ⟨w.heap.size, 1, none⟩ y).setCell ⟨w.heap.size, 2, none⟩ z) :=
  ((h.setCell (fun hl => absurd hl (Nat.lt_irrefl _)) _).setCell (fun hl => absurd hl (Nat.lt_irrefl _)) _).setCell (fun hl => absurd hl (Nat.lt_irrefl _)) _

theorem clone_any (s : ByteArray) (w : World) (hlim : s.size ≤ 281474976710656) :
    Calls Tryz.prog 83 #[.string s] w fun e w' => e = .returned (.string s) ∧ Same w w' := by
  go_enter Tryz.func83, Tryz.ntmps83
  go_wp2_with ((go_at_call 100; refine (Tryz.stringslite_Clone _ _ hlim).mono ?_; rintro e w1 ⟨rfl, hb⟩))
  go_ret
  exact ⟨rfl, Kept.of_below hb⟩

set_option maxHeartbeats 1600000 in
theorem token_name (w : World) (b k : Nat) (s : ByteArray) (v : Value) (h : Rdr w b s k v) (hk : k < s.size) (hs : s.size ≤ 2000) (hc : beg s[k] = true) :
    Calls Tryz.prog 61 #[.pointer (some ⟨b, 0, none⟩)] w fun e w' =>
      e = .returned (tokV ⟨1, (s.data.toList.drop k).takeWhile onn, 0⟩) ∧ Rdr w' b s (k + run onn s k) v ∧ Kept (· = b) w w' := by
  have c0 := h.c0
  have c1 := h.c1
  have hbs : b < w.heap.size := World.block_lt_of_cell? w _ c0
  have HC := hide hc
  clear hc
  go_enter Tryz.func61, Tryz.ntmps61
  go_wp2_with fail
  go_quiet (fail)
  go_wp2_with fail
  refine (begins_any s[k] _).mono ?_
  rintro e w1 ⟨rfl, hw1⟩
  rw [HC.out]
  subst hw1
  go_wp2_with fail
  refine (pass_any 84 onn enters48 goesOn_any _ b k s v (by exact h.al _) (by omega) hs).mono ?_
  rintro e w2 ⟨rfl, hR2, hK2⟩
  have hlen := run_le onn s k (by omega)
  have hlim : (⟨((s.data.toList.drop k).takeWhile onn).toArray⟩ : ByteArray).size ≤ 281474976710656 := by
    show ((s.data.toList.drop k).takeWhile onn).toArray.size ≤ _
    rw [List.size_toArray]
    show run onn s k ≤ _
    omega
  go_wp2_with fail
  refine (clone_any _ _ hlim).mono ?_
  rintro e w3 ⟨rfl, hK3⟩
  have hg := new_kept (w := w) (X := (· = b)) (hK2.unN.trans hK3 (fun _ _ f => f.elim)) (fun e => by omega)
  obtain ⟨g0, g1, g2, z0, z1, z2⟩ := cells3 hg
  go_wp2
  have hset := cells3 (set3 hg (.int .i64 1) (.string ⟨((s.data.toList.drop k).takeWhile onn).toArray⟩) (.int .i64 0))
  obtain ⟨q0, q1, q2, _⟩ := hset
  refine bodyPost_ret (v := tokV ⟨1, (s.data.toList.drop k).takeWhile onn, 0⟩) (by simp [results, Tryz.results61, go_sem, q0, q1, q2]) rfl ⟨rfl, ?_, ?_⟩
  · exact (hR2.keep hK3 (fun f => f)).set3 (by omega) _ _ _
  · exact keep_set3 (hK2.unN.trans hK3 (fun _ _ f => f.elim)).unA _ _ _


set_option maxHeartbeats 1600000 in
theorem token_num (w : World) (b k : Nat) (s : ByteArray) (v : Value) (h : Rdr w b s k v) (hk : k < s.size) (hs : s.size ≤ 2000) (hb : beg s[k] = false)
    (m : Bool) (hm : ((s[k].toNat : Int) == 45) = m) (hd : m = false → dig s[k] = true) (k1 : Nat) (hk1 : k1 = if m then k + 1 else k)
    (hn : isNum m ((s.data.toList.drop k1).takeWhile dig) = true) :
    Calls Tryz.prog 61 #[.pointer (some ⟨b, 0, none⟩)] w fun e w' =>
      e = .returned (tokV ⟨2, [], if m then -(valD ((s.data.toList.drop k1).takeWhile dig)) else valD ((s.data.toList.drop k1).takeWhile dig)⟩) ∧ Rdr w' b s (k1 + run dig s k1) v ∧ Kept (· = b) w w' := by
  have c0 := h.c0
  have c1 := h.c1
  have hbs : b < w.heap.size := World.block_lt_of_cell? w _ c0
  have HB := hide hb
  clear hb
  have HN := hide (fun nq o => number_ok ((w.alloc o).drewN nq) b k s v (h.al o) hk hs m hm k1 hk1 hn)
  generalize (if m then -(valD ((s.data.toList.drop k1).takeWhile dig)) else valD ((s.data.toList.drop k1).takeWhile dig)) = val at *
  have HD0 := hide hd
  clear hd hn hk1
  have fin : Calls Tryz.prog 61 #[.pointer (some ⟨b, 0, none⟩)] w fun e w' => e = .returned (tokV ⟨2, [], val⟩) ∧ Rdr w' b s (k1 + run dig s k1) v ∧ Kept (· = b) w w' := by
    cases m
    · have HD := hide (HD0.out rfl)
      go_enter Tryz.func61, Tryz.ntmps61
      go_wp2_with fail
      go_quiet (fail)
      go_wp2_with fail
      refine (begins_any s[k] _).mono ?_
      rintro e w1 ⟨rfl, hw1⟩
      rw [HB.out]
      subst hw1
      go_wp2_with fail
      refine (isDigit_any s[k] _).mono ?_
      rintro e w1 ⟨rfl, hw1⟩
      rw [HD.out]
      subst hw1
      go_wp2_with fail
      refine (HN.out _ _).mono ?_
      rintro e w2 ⟨rfl, hR2, hK2⟩
      have hg := new_kept (w := w) (X := (· = b)) hK2.unN (fun e => by omega)
      obtain ⟨g0, g1, g2, z0, z1, z2⟩ := cells3 hg
      go_wp2
      obtain ⟨q0, q1, q2, _⟩ := cells3 (set3 hg (.int .i64 2) (.string ⟨#[]⟩) (.int .i64 val))
      refine bodyPost_ret (v := tokV ⟨2, [], val⟩) (by simp [results, Tryz.results61, go_sem, q0, q1, q2]) rfl ⟨rfl, ?_, ?_⟩
      · exact hR2.set3 (by omega) _ _ _
      · exact keep_set3 hK2.unN.unA _ _ _
    · go_enter Tryz.func61, Tryz.ntmps61
      go_wp2_with fail
      go_quiet (fail)
      go_wp2_with fail
      refine (begins_any s[k] _).mono ?_
      rintro e w1 ⟨rfl, hw1⟩
      rw [HB.out]
      subst hw1
      go_wp2_with fail
      refine (HN.out _ _).mono ?_
      rintro e w2 ⟨rfl, hR2, hK2⟩
      have hg := new_kept (w := w) (X := (· = b)) hK2.unN (fun e => by omega)
      obtain ⟨g0, g1, g2, z0, z1, z2⟩ := cells3 hg
      go_wp2
      obtain ⟨q0, q1, q2, _⟩ := cells3 (set3 hg (.int .i64 2) (.string ⟨#[]⟩) (.int .i64 val))
      refine bodyPost_ret (v := tokV ⟨2, [], val⟩) (by simp [results, Tryz.results61, go_sem, q0, q1, q2]) rfl ⟨rfl, ?_, ?_⟩
      · exact hR2.set3 (by omega) _ _ _
      · exact keep_set3 hK2.unN.unA _ _ _
  exact fin

set_option maxHeartbeats 1600000 in
theorem token_numbad (w : World) (b k : Nat) (s : ByteArray) (v : Value) (h : Rdr w b s k v) (hk : k < s.size) (hs : s.size ≤ 2000) (hb : beg s[k] = false)
    (m : Bool) (hm : ((s[k].toNat : Int) == 45) = m) (hd : m = false → dig s[k] = true) (k1 : Nat) (hk1 : k1 = if m then k + 1 else k)
    (hn : isNum m ((s.data.toList.drop k1).takeWhile dig) = false) :
    Calls Tryz.prog 61 #[.pointer (some ⟨b, 0, none⟩)] w fun e w' => e = fault 1 ∧ Kept (· = b) w w' := by
  have c0 := h.c0
  have c1 := h.c1
  have hbs : b < w.heap.size := World.block_lt_of_cell? w _ c0
  have HB := hide hb
  clear hb
  have HN := hide (fun nq o => number_bad ((w.alloc o).drewN nq) b k s v (h.al o) hk hs m hm k1 hk1 hn)
  have HD0 := hide hd
  clear hd hn hk1
  cases m
  · have HD := hide (HD0.out rfl)
    go_enter Tryz.func61, Tryz.ntmps61
    go_wp2_with fail
    go_quiet (fail)
    go_wp2_with fail
    refine (begins_any s[k] _).mono ?_
    rintro e w1 ⟨rfl, hw1⟩
    rw [HB.out]
    subst hw1
    go_wp2_with fail
    refine (isDigit_any s[k] _).mono ?_
    rintro e w1 ⟨rfl, hw1⟩
    rw [HD.out]
    subst hw1
    go_wp2_with fail
    refine (HN.out _ _).mono ?_
    rintro e w2 ⟨rfl, hK2⟩
    exact ⟨rfl, rfl, hK2.unN.unA⟩
  · go_enter Tryz.func61, Tryz.ntmps61
    go_wp2_with fail
    go_quiet (fail)
    go_wp2_with fail
    refine (begins_any s[k] _).mono ?_
    rintro e w1 ⟨rfl, hw1⟩
    rw [HB.out]
    subst hw1
    go_wp2_with fail
    refine (HN.out _ _).mono ?_
    rintro e w2 ⟨rfl, hK2⟩
    exact ⟨rfl, rfl, hK2.unN.unA⟩

set_option maxHeartbeats 1600000 in
theorem token_words (w : World) (b k : Nat) (s : ByteArray) (v : Value) (h : Rdr w b s k v) (hk : k < s.size) (hs : s.size ≤ 2000) (hb : beg s[k] = false) (hc : (s[k].toNat : Int) = 34) :
    Calls Tryz.prog 61 #[.pointer (some ⟨b, 0, none⟩)] w fun e w' =>
      (∃ x n, wordsL false (s.data.toList.drop (k + 1)) = some (x, n) ∧ e = .returned (tokV ⟨3, x, 0⟩) ∧ Rdr w' b s (k + 1 + n) v ∧ Kept (· = b) w w')
      ∨ (wordsL false (s.data.toList.drop (k + 1)) = none ∧ e = fault 1 ∧ Kept (· = b) w w') := by
  have c0 := h.c0
  have c1 := h.c1
  have hbs : b < w.heap.size := World.block_lt_of_cell? w _ c0
  have HB := hide hb
  clear hb
  have HD := hide (show dig s[k] = false by simp; omega)
  have h45 : ((s[k].toNat : Int) == 45) = false := by simp; omega
  have h34 : ((s[k].toNat : Int) == 34) = true := by simp; omega
  have HN := hide (fun nq o => words_any ((w.alloc o).drewN nq) b k s v (h.al o) hk hs)
  clear hc
  go_enter Tryz.func61, Tryz.ntmps61
  go_wp2_with fail
  go_quiet (fail)
  go_wp2_with fail
  refine (begins_any s[k] _).mono ?_
  rintro e w1 ⟨rfl, hw1⟩
  rw [HB.out]
  subst hw1
  go_wp2_with fail
  refine (isDigit_any s[k] _).mono ?_
  rintro e w1 ⟨rfl, hw1⟩
  rw [HD.out]
  subst hw1
  go_wp2_with fail
  refine (HN.out _ _).mono ?_
  rintro e w2 (⟨x, n, hw, rfl, hR2, hK2⟩ | ⟨hw, rfl, hK2⟩)
  · have HW := hide hw
    clear hw
    have hg := new_kept (w := w) (X := (· = b)) hK2.unN (fun e => by omega)
    obtain ⟨g0, g1, g2, z0, z1, z2⟩ := cells3 hg
    go_wp2
    obtain ⟨q0, q1, q2, _⟩ := cells3 (set3 hg (.int .i64 3) (.string ⟨x.toArray⟩) (.int .i64 0))
    refine bodyPost_ret (v := tokV ⟨3, x, 0⟩) (by simp [results, Tryz.results61, go_sem, q0, q1, q2]) rfl (Or.inl ⟨x, n, HW.out, rfl, ?_, ?_⟩)
    · exact hR2.set3 (by omega) _ _ _
    · exact keep_set3 hK2.unN.unA _ _ _
  · exact ⟨rfl, Or.inr ⟨hw, rfl, hK2.unN.unA⟩⟩

theorem one_string (X : World) (g : Nat) (c : UInt8) (h : X.cell? ⟨g, 0, none⟩ = some (.int .u8 c.toNat)) :
    (convert 91 9 (.slice (some ⟨g, 0, none⟩) 1 1)).run Tryz.prog X = .ok (.string ⟨#[c]⟩) X := by
  rw [run_convert_bytes_string X 91 9 5 _ 1 1 Tryz.underlying91 Tryz.underlying5 Tryz.underlying9]
  have hld := run_loadCells_list (P := Tryz.prog) X ⟨g, 0, none⟩ [.int .u8 c.toNat] (by
    intro j v hj
    match j, hj with
    | 0, hj => simp at hj; subst hj; simpa [Addr.add] using h)
  rw [run_bytesToString X _ 1 1 [(c.toNat : Int)] hld]
  have e := push_bytes [c] ByteArray.empty
  rw [show [(c.toNat : Int)] = [c].map (fun b => (b.toNat : Int)) from rfl, e]
  rfl

set_option maxHeartbeats 1600000 in
theorem token_none (w : World) (b k : Nat) (s : ByteArray) (v : Value) (h : Rdr w b s k v) (hk : k < s.size) (_hs : s.size ≤ 2000) (hb : beg s[k] = false) (hd : dig s[k] = false)
    (h45 : ((s[k].toNat : Int) == 45) = false) (h34 : ((s[k].toNat : Int) == 34) = false) (ht : sgn s[k] = false) :
    Calls Tryz.prog 61 #[.pointer (some ⟨b, 0, none⟩)] w fun e w' =>
      e = fault 1 ∧ Kept (· = b) w w' := by
  have c0 := h.c0
  have c1 := h.c1
  have hbs : b < w.heap.size := World.block_lt_of_cell? w _ c0
  have HB := hide hb
  clear hb
  have HD := hide hd
  have HT := hide ht
  clear hd ht
  go_enter Tryz.func61, Tryz.ntmps61
  go_wp2_with fail
  go_quiet (fail)
  go_wp2_with fail
  refine (begins_any s[k] _).mono ?_
  rintro e w1 ⟨rfl, hw1⟩
  rw [HB.out]
  subst hw1
  go_wp2_with fail
  refine (isDigit_any s[k] _).mono ?_
  rintro e w1 ⟨rfl, hw1⟩
  rw [HD.out]
  subst hw1
  go_wp2_with fail
  refine (isSign_any s[k] _).mono ?_
  rintro e w1 ⟨rfl, hw1⟩
  rw [HT.out]
  subst hw1
  go_wp2_with fail
  exact ⟨rfl, rfl, (by repeat' (first | assumption | exact Kept.refl _ _ | refine Kept.drewN ?_ _ | refine Kept.drew ?_ | refine Kept.alloc ?_ _ | refine Kept.setB ?_ _ _))⟩

set_option maxHeartbeats 1600000 in
theorem token_sign (w : World) (b k : Nat) (s : ByteArray) (v : Value) (h : Rdr w b s k v) (hk : k < s.size) (hs : s.size ≤ 2000) (hb : beg s[k] = false) (hd : dig s[k] = false)
    (h45 : ((s[k].toNat : Int) == 45) = false) (h34 : ((s[k].toNat : Int) == 34) = false) (ht : sgn s[k] = true) :
    Calls Tryz.prog 61 #[.pointer (some ⟨b, 0, none⟩)] w fun e w' =>
      e = .returned (tokV ⟨4, [s[k]], 0⟩) ∧ Rdr w' b s (k + 1) v ∧ Kept (· = b) w w' := by
  have c0 := h.c0
  have c1 := h.c1
  have hbs : b < w.heap.size := World.block_lt_of_cell? w _ c0
  have HB := hide hb
  clear hb
  have HD := hide hd
  have HT := hide ht
  clear hd ht
  go_enter Tryz.func61, Tryz.ntmps61
  go_wp2_with fail
  go_quiet (fail)
  go_wp2_with fail
  refine (begins_any s[k] _).mono ?_
  rintro e w1 ⟨rfl, hw1⟩
  rw [HB.out]
  subst hw1
  go_wp2_with fail
  refine (isDigit_any s[k] _).mono ?_
  rintro e w1 ⟨rfl, hw1⟩
  rw [HD.out]
  subst hw1
  go_wp2_with fail
  refine (isSign_any s[k] _).mono ?_
  rintro e w1 ⟨rfl, hw1⟩
  rw [HT.out]
  subst hw1
  have hR1 := h.al (.cells #[.int .i64 0, .string ⟨#[]⟩, .int .i64 0] 58)
  have d1 := hR1.c1
  have d2 := hR1.f 1
  have hconv := fun X g => one_string X g s[k]
  go_wp2_with fail
  have hR2 : Rdr (((w.alloc (.cells #[.int .i64 0, .string ⟨#[]⟩, .int .i64 0] 58)).drewN nq).setCell ⟨b, 1, none⟩ (.int .i64 ((k : Int) + 1))) b s (k + 1) v := hR1.set (k + 1)
  have hK2 : Kept (· = b) w (((w.alloc (.cells #[.int .i64 0, .string ⟨#[]⟩, .int .i64 0] 58)).drewN nq).setCell ⟨b, 1, none⟩ (.int .i64 ((k : Int) + 1))) := (by repeat' (first | assumption | exact Kept.refl _ _ | refine Kept.drewN ?_ _ | refine Kept.drew ?_ | refine Kept.alloc ?_ _ | refine Kept.setB ?_ _ _))
  have hg : (((w.alloc (.cells #[.int .i64 0, .string ⟨#[]⟩, .int .i64 0] 58)).drewN nq).setCell ⟨b, 1, none⟩ (.int .i64 ((k : Int) + 1))).heap[w.heap.size]? = some (.cells #[.int .i64 0, .string ⟨#[]⟩, .int .i64 0] 58 (0, 0)) := by
    rw [Below.heap_setCell _ _ _ _ (by show w.heap.size ≠ b; omega)]
    exact heap_alloc_new w _
  generalize ((w.alloc (.cells #[.int .i64 0, .string ⟨#[]⟩, .int .i64 0] 58)).drewN nq).setCell ⟨b, 1, none⟩ (.int .i64 ((k : Int) + 1)) = w5 at *
  have hs3 := set3 hg (.int .i64 4) (.string ⟨#[s[k]]⟩) (.int .i64 0)
  have hlt : w.heap.size < w5.heap.size := (Array.getElem?_eq_some_iff.1 hg).1
  have hR3 := hR2.set3 (g := w.heap.size) (by omega) (.int .i64 4) (.string ⟨#[s[k]]⟩) (.int .i64 0)
  have hK3 := keep_set3 hK2 (.int .i64 4) (.string ⟨#[s[k]]⟩) (.int .i64 0)
  have hz3 : w.heap.size < (((w5.setCell ⟨w.heap.size, 0, none⟩ (.int .i64 4)).setCell ⟨w.heap.size, 1, none⟩ (.string ⟨#[s[k]]⟩)).setCell ⟨w.heap.size, 2, none⟩ (.int .i64 0)).heap.size := by simpa using hlt
  generalize ((w5.setCell ⟨w.heap.size, 0, none⟩ (.int .i64 4)).setCell ⟨w.heap.size, 1, none⟩ (.string ⟨#[s[k]]⟩)).setCell ⟨w.heap.size, 2, none⟩ (.int .i64 0) = w6 at *
  obtain ⟨q0, q1, q2, _⟩ := cells3 ((Below.heap_alloc w6 (.cells #[.int .u8 s[k].toNat] 5) w.heap.size hz3).trans hs3)
  exact bodyPost_ret (v := tokV ⟨4, [s[k]], 0⟩) (by simp [results, Tryz.results61, go_sem, q0, q1, q2]) rfl ⟨rfl, hR3.al _, hK3.alloc _⟩

end Go.Proofs.YthiagmhijebbgaaGreatDoor

/- Walks of lex: isName, wrong. -/
namespace Go.Proofs.YthiagmhijebbgaaGreatDoor
open Go.RowKit

theorem all_at (p : UInt8 → Bool) (s : ByteArray) : s.data.toList.all p = true ↔ ∀ k (h : k < s.size), p s[k] = true := by
  rw [List.all_eq_true]
  constructor
  · intro h k hk
    exact h _ (List.getElem_mem (l := s.data.toList) (by simpa using hk))
  · intro h x hx
    obtain ⟨k, hk, rfl⟩ := List.getElem_of_mem hx
    exact h k (by simpa using hk)

set_option maxHeartbeats 400000 in
theorem isName_any (s : ByteArray) (w : World) (hs : s.size ≤ 2000) :
    Calls Tryz.prog 107 #[.string s] w fun e w' => e = .returned (.bool (nameOk s.data.toList)) ∧ w' = w := by
  go_enter Tryz.func107, Tryz.ntmps107
  go_wp2_with fail
  go_loopg [6] s.size (fun g i wr => wr = w ∧ ∃ k : Nat, k + g = s.size ∧ i = .int .i64 k ∧ Hid (∀ j (h : j < k), ∃ h2 : j < s.size, onn s[j] = true))
  case atStart => exact ⟨rfl, 0, by omega, rfl, fun j h => absurd h (by omega)⟩
  case round =>
    obtain ⟨rfl, k, hk, rfl, HA⟩ := hrel
    by_cases hlt : k < s.size
    · go_wp2_with fail
      refine (goesOn_any s[k] _).mono ?_
      rintro e w1 ⟨rfl, rfl⟩
      cases hp : onn s[k] with
      | true =>
        have HP := hide hp
        clear hp
        go_wp2_with fail
        go_roundg (gk - 1)
        case measure => omega
        case rel =>
          refine ⟨rfl, k + 1, by omega, by go_num, fun j hj => ?_⟩
          by_cases e : j = k
          · subst e; exact ⟨hlt, HP.out⟩
          · exact HA.out j (by omega)
      | false =>
        have HP := hide hp
        clear hp
        go_wp2_with fail
        go_ret
        refine ⟨ret_bool ?_, rfl⟩
        unfold nameOk
        have : s.data.toList.all onn = false := by
          cases hx : s.data.toList.all onn with
          | false => rfl
          | true => have := (all_at onn s).1 hx k hlt; rw [HP.out] at this; cases this
        rw [this]; rfl
    · have hall : s.data.toList.all onn = true := (all_at onn s).2 (fun j hj => (HA.out j (by omega)).2)
      have HL := hide hall
      clear hall
      by_cases h0 : s.size = 0
      · have he : s.toList.isEmpty = true := by rw [ByteArray.toList_eq, List.isEmpty_iff_length_eq_zero]; simpa using h0
        go_wp2_with fail
        go_ret
        refine ⟨ret_bool ?_, rfl⟩
        have : s.data.toList = [] := List.length_eq_zero_iff.1 (by simpa using h0)
        rw [this]; rfl
      · have he : s.toList.isEmpty = false := by
          cases hx : s.toList.isEmpty with
          | false => rfl
          | true => rw [ByteArray.toList_eq, List.isEmpty_iff_length_eq_zero] at hx; exact absurd (by simpa using hx) h0
        have hp0 : 0 < s.size := by omega
        have HB := hide (begins_any s[0])
        go_wp2_with fail
        refine (HB.out _).mono ?_
        rintro e w1 ⟨rfl, rfl⟩
        have hfin : nameOk s.data.toList = beg s[0] := by
          unfold nameOk
          rw [HL.out]
          have : s.data.toList = s[0] :: s.data.toList.drop 1 := by have := drop_at (k := 0) hp0; simpa using this
          rw [this]; simp
        have HF := hide hfin
        clear hfin
        cases hb : beg s[0]
        all_goals
          have HX := hide hb
          clear hb
          go_wp2_with fail
          go_ret
          exact ⟨ret_bool (by rw [HF.out, HX.out]), rfl⟩

end Go.Proofs.YthiagmhijebbgaaGreatDoor
