import Derived.Test.YtkkjchfhgjfclabGreatDoorSchematells16
import Derived.Test.YtkkjchfhgjfclabGreatDoorSchematells09
import Derived.Test.YtkkjchfhgjfclabGreatDoorSchematells12
/- Walks of lex's reader: all. -/
namespace Go.Proofs.YtkkjchfhgjfclabGreatDoor
open Go.RowKit

/-- how far a text has been read: T is read, r is left, g rounds at most are to come -/
def rRel (l : List UInt8) (g : Nat) (r : List UInt8) (T : List Tok) : Prop :=
  readF (l.length + 1) l 0 = (readF g r T.length).map (T ++ ·)

theorem rRel.start (l : List UInt8) : rRel l (l.length + 1) l [] := by
  unfold rRel
  simp only [List.length_nil]
  cases readF (l.length + 1) l 0 <;> simp [Except.map]
theorem rRel.ended {l : List UInt8} {g : Nat} {r : List UInt8} {T : List Tok} (h : rRel l (g + 1) r T) (hj : r.drop (skipN false r) = []) : readF (l.length + 1) l 0 = .ok T := by
  rw [h, readF, hj]
  simp [Except.map]
theorem rRel.bad {l : List UInt8} {g : Nat} {r : List UInt8} {T : List Tok} {c : UInt8} {m : List UInt8} (h : rRel l (g + 1) r T) (hj : r.drop (skipN false r) = c :: m) (ht : tokL (c :: m) = .error 1) : readF (l.length + 1) l 0 = .error 1 := by
  rw [h, readF, hj]
  simp only [ht]; rfl
theorem rRel.wrong {l : List UInt8} {g : Nat} {r : List UInt8} {T : List Tok} {c : UInt8} {m : List UInt8} {t : Tok} {n : Nat} (h : rRel l (g + 1) r T) (hj : r.drop (skipN false r) = c :: m) (ht : tokL (c :: m) = .ok (t, n)) (hw : wrongT t ≠ 0) : readF (l.length + 1) l 0 = .error (wrongT t) := by
  rw [h, readF, hj]
  simp only [ht, if_pos hw]; rfl
theorem rRel.full {l : List UInt8} {g : Nat} {r : List UInt8} {T : List Tok} {c : UInt8} {m : List UInt8} {t : Tok} {n : Nat} (h : rRel l (g + 1) r T) (hj : r.drop (skipN false r) = c :: m) (ht : tokL (c :: m) = .ok (t, n)) (hw : wrongT t = 0) (hT : T.length = 300) : readF (l.length + 1) l 0 = .error 2 := by
  rw [h, readF, hj]
  simp only [ht, hw, hT]; rfl
theorem rRel.step {l : List UInt8} {g : Nat} {r : List UInt8} {T : List Tok} {c : UInt8} {m : List UInt8} {t : Tok} {n : Nat} (h : rRel l (g + 1) r T) (hj : r.drop (skipN false r) = c :: m) (ht : tokL (c :: m) = .ok (t, n)) (hw : wrongT t = 0) (hT : T.length ≠ 300) : rRel l g ((c :: m).drop n) (T ++ [t]) := by
  unfold rRel
  rw [h, readF, hj]
  simp only [ht, hw, if_neg hT]
  simp only [ne_eq, not_true_eq_false, if_false, List.length_append, List.length_cons, List.length_nil, Nat.zero_add]
  cases readF g ((c :: m).drop n) (T.length + 1) <;> simp [Except.map]

theorem tokC_one (t : Tok) : ∀ u ∈ tokC t, u.oneCell' = true := by
  intro u hu
  simp [tokC] at hu
  rcases hu with rfl | rfl | rfl <;> rfl

theorem tokB_of (t : Tok) : tokV t = tokB t.k ⟨t.s.toArray⟩ t.n := rfl

theorem grown_apart {w w4 w5 : World} {x : Value} {n : Nat} {e : TypeId} {z : Nat} {xs : List Value} {o : Obj} (hown : w4.ownsRow w.heap.size e z x n xs)
    (hg : ((w4.alloc o).drew).grownBy w5 x.ownBlock) : Kept (fun k => w.heap.size ≤ k) w4 w5 :=
  (((Kept.refl (fun k => w.heap.size ≤ k) w4).alloc o).drew).grown hg (fun k hk _ => own_row hown k hk)

set_option maxHeartbeats 3200000 in
theorem all_any (w : World) (rb b : Nat) (l : List UInt8) (hr : Rd w rb b (.slice none 0 0)) (hne : rb ≠ b) (h : Txt w b l) (hl : l.length ≤ 2000) :
    Calls Tryz.prog 52 #[.pointer (some ⟨rb, 0, none⟩)] w fun e w' =>
      (∃ T v, readF (l.length + 1) l 0 = .ok T ∧ e = .returned (.tuple #[]) ∧ Rd w' rb b v ∧ w'.ownsRow w.heap.size 65 3 v T.length (tokCells T) ∧ Kept (fun k => k = b ∨ k = rb) w w')
      ∨ (∃ n, readF (l.length + 1) l 0 = .error n ∧ n ≠ 0 ∧ e = fault n ∧ Kept (fun k => k = b ∨ k = rb) w w') := by
  have hbs := h.lt
  have hrs := hr.lt
  obtain ⟨i0, hi, hz0, hz1, hz2⟩ := info_parts info39
  go_enter Tryz.func52, Tryz.ntmps52
  go_wp2_with fail
  refine (passBlank_any _ rb b l _ hr hne h (by omega)).mono ?_
  rintro e w1 ⟨rfl, hT1, hK1⟩
  have hR1 := hr.keep hK1 hne
  have hK2 : Kept (fun k => k = b ∨ k = rb) w w1 := hK1.mono (fun _ _ h => .inl h)
  clear hK1
  go_wp2_with fail
  go_loopg [] (l.length + 1) (fun g wr => ∃ (r : List UInt8) (T : List Tok) (v : Value), r.length + 1 ≤ g ∧ r.length ≤ 2000 ∧ T.length ≤ 300 ∧ Rd wr rb b v ∧ Txt wr b (r.drop (skipN false r)) ∧ Kept (fun k => k = b ∨ k = rb) w wr ∧ Hid (rRel l g r T) ∧ wr.ownsRow w.heap.size 65 3 v T.length (tokCells T))
  case atStart => exact ⟨l, [], _, by omega, by omega, by simp, hR1, hT1, hK2, rRel.start l, World.ownsRow_nil _ _ _ _⟩
  case round =>
    obtain ⟨r, T, v, hg, hrl, hT, hR, hX, hK, HR, hown⟩ := hrel
    clear hR1 hK2 hT1
    obtain ⟨g1, hg1⟩ : ∃ g1, gk = g1 + 1 := ⟨gk - 1, by omega⟩
    have HR1 : Hid (rRel l (g1 + 1) r T) := by rw [← hg1]; exact HR
    have hgle : gk ≤ g1 + 1 := by omega
    have hgge : g1 + 1 ≤ gk := by omega
    clear HR hg1
    have hdl : (r.drop (skipN false r)).length ≤ r.length := by simp
    obtain ⟨m0, hm0⟩ : ∃ m0, m0 = r.drop (skipN false r) := ⟨_, rfl⟩
    rw [← hm0] at hX hdl
    have HM := hide hm0
    clear hm0
    have c0 := hR.c0
    have HEn := hide (tEnded wr b m0 hX)
    cases m0 with
    | nil =>
      go_wp2_with fail
      refine HEn.out.mono ?_
      rintro e w2 ⟨rfl, rfl⟩
      go_wp2_with fail
      first | go_end0 | refine bodyPost_ret (results_none rfl _ _ _) rfl ?_
      exact .inl ⟨T, v, HR1.out.ended HM.out.symm, rfl, hR, hown, hK⟩
    | cons c m =>
      obtain ⟨ao, cap, hv⟩ := own_slice hown
      subst hv
      go_wp2_with fail
      refine HEn.out.mono ?_
      rintro e w2 ⟨rfl, hw2⟩
      subst hw2
      clear HEn
      go_wp2_with fail
      refine (token_any _ rb b c m _ hR hne hX (by omega)).mono ?_
      rintro e w3 (⟨t, n, ht, hn0, rfl, hX3, hK3⟩ | ⟨ht, rfl, hK3⟩)
      · have HTok := hide ht
        clear ht
        have hR3 := hR.keep hK3 hne
        have hK4 : Kept (fun k => k = b ∨ k = rb) w w3 := hK.trans hK3 (fun _ _ h => .inl h)
        have hown3 := own_kept hown hK3 (fun g hg e => by omega)
        have hml : ((c :: m).drop n).length + 1 ≤ r.length := by simp at hdl ⊢; omega
        clear hK3 hown hR hK c0
        go_wp2_with fail
        rw [show (Value.agg #[.int .i64 t.k, .string ⟨t.s.toArray⟩, .int .i64 t.n]) = tokB t.k ⟨t.s.toArray⟩ t.n from rfl]
        refine (wrong_any t.k ⟨t.s.toArray⟩ t.n _).mono ?_
        rintro e w4 ⟨rfl, hK5⟩
        have ew : wrongT ⟨t.k, (⟨t.s.toArray⟩ : ByteArray).data.toList, t.n⟩ = wrongT t := by simp
        rw [ew]
        clear ew
        have hblk := new_kept (w := w3) (X := fun _ => False) hK5 (fun f => f)
        have hR4 := (hR3.al _).keep hK5 (fun f => f)
        have hX4 := (hX3.al _).keep hK5 (fun f => f)
        have hown4 := own_kept (hown3.alloc _) hK5 (fun _ _ f => f)
        have hK6 : Kept (fun k => k = b ∨ k = rb) w w4 := (hK4.alloc _).trans hK5 (fun _ _ f => f.elim)
        have hz4 : w3.heap.size < w4.heap.size := by have := hK5.size; simp at this; omega
        have hr3 : rb < w3.heap.size := Nat.lt_of_lt_of_le hrs hK4.size
        clear hK5 hR3 hown3 hK4 hX3
        obtain ⟨g0, g1', g2, z0, z1, z2⟩ := cells3 hblk
        have c1 := hR4.c1
        have f1 := hR4.f 1
        by_cases hw : wrongT t = 0
        · have hw' : (wrongT t != 0) = false := by simp [hw]
          have HWr := hide hw
          clear hw
          by_cases h300 : T.length = 300
          · have h300' : ((T.length : Int) == 300) = true := by simp; omega
            go_wp2_with fail
            exact ⟨rfl, .inr ⟨2, HR1.out.full HM.out.symm HTok.out HWr.out h300, by omega, rfl, hK6⟩⟩
          · have h300' : ((T.length : Int) == 300) = false := by simp; omega
            go_wp2_with fail
            have hbase : w.heap.size ≤ (w4.alloc (.cells #[.int .i64 t.k, .string ⟨t.s.toArray⟩, .int .i64 t.n] 65)).drew.heap.size := by have := hK6.size; simp; omega
            have c1a : ∀ o, (w4.alloc o).cell? ⟨rb, 1, none⟩ = some (.slice ao T.length cap) := fun o => (hR4.al o).c1
            go_region_law (refine step_append_own rfl (.tmp 33) (.tmp 35) 29 rfl w.heap.size 65 i0 _ 3 32 Tryz.underlying29 hi hz0 hz1 hz2 rfl (by decide) (.slice ao T.length cap) T.length (tokCells T) (by simp [Act.eval]) (by exact hown4.alloc _) ⟨w4.heap.size, 0, none⟩ 1 1 (tokC t) (by simp [Act.eval]) rfl (by exact new_cells3 w4 _ _ _ _) (tokC_one t) (by unfold maxLen; omega) (by omega) hbase ?_; intro v5 w5 hown5 hgr5 _; obtain ⟨g5, cap5, hv5⟩ := own_form hown5 (by omega); subst hv5; have hR5 := hR4.keep (grown_apart hown4 hgr5) (fun e => by omega); have hX5 := hX4.keep (grown_apart hown4 hgr5) (fun e => by omega); have c15 := hR5.c1; have f15 := hR5.f 1)
            all_goals
              have hR6 := hR5.setT (.slice (some ⟨g5, 0, none⟩) (T.length + 1) cap5)
              have hK7 : Kept (fun k => k = b ∨ k = rb) w w5 := ((hK6.alloc _).drew).grown hgr5 (fun k hk hlt => by have := own_row hown4 k hk; omega)
              have hKs : Kept (· = rb) w5 (w5.setCell ⟨rb, 1, none⟩ (.slice (some ⟨g5, 0, none⟩) (T.length + 1) cap5)) := (Kept.refl (· = rb) w5).setB 1 (.slice (some ⟨g5, 0, none⟩) (T.length + 1) cap5)
              have hX6 := hX5.keep hKs (fun e => hne e.symm)
              have hK8 := hK7.trans hKs (fun _ _ h => .inr h)
              have hown6 := own_kept hown5 hKs (fun g hg e => by omega)
              clear hKs
              go_wp2_with fail
              refine (passBlank_any _ rb b _ _ hR6 hne hX6 (by omega)).mono ?_
              rintro e w7 ⟨rfl, hX7, hK9⟩
              have hown7 := own_kept hown6 hK9 (fun g hg e => by omega)
              have HST := hide (HR1.out.step HM.out.symm HTok.out HWr.out h300)
              go_wp2_with fail
              go_roundg g1
              case measure => omega
              case rel => exact ⟨(c :: m).drop n, T ++ [t], _, by omega, by omega, by rw [List.length_append]; simp; omega, hR6.keep hK9 hne, hX7, hK8.trans hK9 (fun _ _ h => .inl h), HST.out, by rw [tokCells_snoc, List.length_append]; exact hown7⟩
        · have hw' : (wrongT t != 0) = true := by simp [hw]
          have HWr := hide hw
          clear hw
          go_wp2_with fail
          exact ⟨rfl, .inr ⟨_, HR1.out.wrong HM.out.symm HTok.out HWr.out, HWr.out, rfl, hK6⟩⟩
      · exact ⟨rfl, .inr ⟨1, HR1.out.bad HM.out.symm ht, by omega, rfl, hK.trans hK3 (fun _ _ h => .inl h)⟩⟩

end Go.Proofs.YtkkjchfhgjfclabGreatDoor

/- parse.NewText. -/
namespace Go.Proofs.YtkkjchfhgjfclabGreatDoor
open Go.RowKit

theorem tNew (w : World) (l : List UInt8) :
    Calls Tryz.prog 51 #[.string ⟨l.toArray⟩] w fun e w' => e = .returned (.pointer (some ⟨w.heap.size, 0, none⟩)) ∧ w' = w.alloc (.cells #[.string ⟨l.toArray⟩] 127) := by
  go_enter Tryz.func51, Tryz.ntmps51
  go_wp2
  go_ret
  exact ⟨rfl, rfl⟩

end Go.Proofs.YtkkjchfhgjfclabGreatDoor

/- lex.Read, whatever it is handed. -/
namespace Go.Proofs.YtkkjchfhgjfclabGreatDoor
open Go.RowKit

theorem enters16 (args : Array Value) (w : World) : (callFunc 52 args).run Tryz.prog w = .ok (.enter 52 args) w := by kernel_rfl

set_option maxHeartbeats 800000 in
theorem read_any (w : World) (s : ByteArray) :
    Calls Tryz.prog 23 #[.string s] w fun e w' =>
      (∃ T v, lexRead s.data.toList = .ok T ∧ e = .returned (.tuple #[v, .int .i64 0]) ∧ w'.ownsRow w.heap.size 65 3 v T.length (tokCells T) ∧ Same w w')
      ∨ (∃ n, lexRead s.data.toList = .error n ∧ n ≠ 0 ∧ e = .returned (.tuple #[.slice none 0 0, .int .i64 n]) ∧ Same w w') := by
  have hsz := size_toList s
  by_cases hbig : 2000 < s.size
  · have HL := hide (show lexRead s.data.toList = .error 2 by unfold lexRead; rw [if_pos (by omega)])
    clear hsz
    go_enter Tryz.func23, Tryz.ntmps23
    go_wp2_with fail
    go_ret2
    exact .inr ⟨2, HL.out, by decide, rfl, Kept.refl _ _⟩
  · obtain ⟨l, hl⟩ : ∃ l, l = s.data.toList := ⟨_, rfl⟩
    obtain rfl : s = ⟨l.toArray⟩ := by rw [hl]
    clear hl
    have hll : l.length ≤ 2000 := by rw [bytes_size] at hbig; omega
    have HL := hide (show lexRead l = readF (l.length + 1) l 0 by unfold lexRead; rw [if_neg (by omega)])
    rw [show (⟨l.toArray⟩ : ByteArray).data.toList = l from rfl]
    clear hsz
    have hmf : ∀ (fn : Fn) (first cap : Array Value) (w : World), (Instr.makeFunc fn first cap).run Tryz.prog w = .ok (.func fn first cap) w := fun _ _ _ _ => rfl
    have hT0 : Txt (w.alloc (.cells #[.string ⟨l.toArray⟩] 127)) w.heap.size l := heap_alloc_new w _
    have hR0 : Rd ((w.alloc (.cells #[.string ⟨l.toArray⟩] 127)).alloc (.cells #[.pointer (some ⟨w.heap.size, 0, none⟩), .slice none 0 0] 88)) (w.heap.size + 1) w.heap.size (.slice none 0 0) := by
      have := heap_alloc_new (w.alloc (.cells #[.string ⟨l.toArray⟩] 127)) (.cells #[.pointer (some ⟨w.heap.size, 0, none⟩), .slice none 0 0] 88)
      rw [World.size_alloc] at this
      exact this
    have HA := hide (all_any _ (w.heap.size + 1) w.heap.size l (hR0.al (.cells #[.int .i64 0] 24)) (by omega) ((hT0.al _).al _) hll)
    clear hT0 hR0
    simp only [World.size_alloc] at HA
    go_enter Tryz.func23, Tryz.ntmps23
    go_wp2_with fail
    refine (tNew _ l).mono ?_
    rintro e w1 ⟨rfl, hw1⟩
    subst hw1
    go_wp2_with fail
    refine (caught_method 52 (.pointer (some ⟨w.heap.size + 1, 0, none⟩)) _ (fun k => k = w.heap.size ∨ k = w.heap.size + 1) (by intro i hi; simp; omega)
      (fun w' => ∃ T v, readF (l.length + 1) l 0 = .ok T ∧ Rd w' (w.heap.size + 1) w.heap.size v ∧ w'.ownsRow (w.heap.size + 1 + 1 + 1) 65 3 v T.length (tokCells T))
      (fun n _ => readF (l.length + 1) l 0 = .error n ∧ n ≠ 0) enters16
      (HA.out.mono ?_)).mono ?_
    · rintro e w' (⟨T, v, h1, h2, h3, h4, h5⟩ | ⟨n, h1, h2, h3, h4⟩)
      · exact .inl ⟨h2, ⟨T, v, h1, h3, h4⟩, h5⟩
      · exact .inr ⟨n, h3, ⟨h1, h2⟩, h4⟩
    · simp only [World.size_alloc]
      rintro e w' (⟨w1, rfl, ⟨T, v, h1, h3, h4⟩, h5, rfl⟩ | ⟨n, w1, rfl, ⟨h1, h2⟩, h4, rfl⟩)
      · obtain ⟨ao, cap, hv⟩ := own_slice h4
        subst hv
        have hR2 : Rd (w1.setCell ⟨w.heap.size + 1 + 1, 0, none⟩ (.int .i64 0)) (w.heap.size + 1) w.heap.size (.slice ao T.length cap) := by
          unfold Rd at *
          rw [Below.heap_setCell _ _ _ _ (by show w.heap.size + 1 ≠ w.heap.size + 1 + 1; omega)]
          exact h3
        have hown := ownsRow_setCell_below h4 (a := ⟨w.heap.size + 1 + 1, 0, none⟩) (by show w.heap.size + 1 + 1 < w.heap.size + 1 + 1 + 1; omega) (.int .i64 0)
        have hK : Same w (w1.setCell ⟨w.heap.size + 1 + 1, 0, none⟩ (.int .i64 0)) := by
          refine Kept.setCell ?_ (fun h => absurd h (by show ¬ w.heap.size + 1 + 1 < w.heap.size; omega)) _
          exact ((((Kept.refl _ w).alloc _).alloc _).alloc _).trans h5 (fun i hi e => by omega)
        generalize w1.setCell ⟨w.heap.size + 1 + 1, 0, none⟩ (.int .i64 0) = w2 at *
        have c1 := hR2.c1
        have H1 := hide h1
        clear h1 h3 h4 h5 hR2
        go_wp2_with fail
        go_ret2
        exact .inl ⟨T, _, by rw [HL.out]; exact H1.out, rfl, own_base hown (by omega), hK⟩
      · have hK : Same w (w1.setCell ⟨w.heap.size + 1 + 1, 0, none⟩ (.int .i64 n)) := by
          refine Kept.setCell ?_ (fun h => absurd h (by show ¬ w.heap.size + 1 + 1 < w.heap.size; omega)) _
          exact ((((Kept.refl _ w).alloc _).alloc _).alloc _).trans h4 (fun i hi e => by omega)
        generalize w1.setCell ⟨w.heap.size + 1 + 1, 0, none⟩ (.int .i64 n) = w2 at *
        have hn : (n != 0) = true := by simp [h2]
        have H1 := hide h1
        have H2 := hide h2
        clear h1 h2 h4
        go_wp2_with fail
        go_ret2
        exact .inr ⟨n, by rw [HL.out]; exact H1.out, H2.out, rfl, hK⟩

end Go.Proofs.YtkkjchfhgjfclabGreatDoor

/- lex.Check, and all of the reader. -/
