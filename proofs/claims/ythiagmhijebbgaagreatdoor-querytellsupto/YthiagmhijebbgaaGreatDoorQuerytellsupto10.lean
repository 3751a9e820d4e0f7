import Derived.Test.YthiagmhijebbgaaGreatDoorQuerytellsupto09
import Derived.Test.YthiagmhijebbgaaGreatDoorQuerytellsupto01
/- Walks of the reader: all. -/
namespace Go.Proofs.YthiagmhijebbgaaGreatDoor
open Go.RowKit

def tokC (t : Tok) : List Value := [.int .i64 t.k, .string ⟨t.s.toArray⟩, .int .i64 t.n]
def tokCells (l : List Tok) : List Value := l.flatMap tokC
theorem tokCells_snoc (l : List Tok) (t : Tok) : tokCells (l ++ [t]) = tokCells l ++ tokC t := by simp [tokCells]

theorem info39 : (Tryz.prog.info? 58).map (fun i => (i.zero, i.size, i.bytes)) = some (some (.agg #[.int .i64 0, .string ⟨#[]⟩, .int .i64 0]), 3, 32) := by kernel_rfl

/-- how far a text has been read: T is read, j0 is next, g rounds at most are to come -/
def rRel (s : ByteArray) (g j0 : Nat) (T : List Tok) : Prop :=
  readF (s.size + 1) s.data.toList 0 = (readF g (s.data.toList.drop j0) T.length).map (T ++ ·)

theorem rRel.start (s : ByteArray) : rRel s (s.size + 1) 0 [] := by
  unfold rRel
  simp only [List.drop_zero, List.length_nil]
  cases readF (s.size + 1) s.data.toList 0 <;> simp [Except.map]

theorem drop_blank (s : ByteArray) (j : Nat) : (s.data.toList.drop j).drop (skipN false (s.data.toList.drop j)) = s.data.toList.drop (blank s j) := by rw [List.drop_drop]; rfl

theorem rRel.ended {s : ByteArray} {g j0 : Nat} {T : List Tok} (h : rRel s (g + 1) j0 T) (hj : s.size ≤ blank s j0) : readF (s.size + 1) s.data.toList 0 = .ok T := by
  rw [h, readF, drop_blank, drop_end hj]
  simp [Except.map]
theorem rRel.bad {s : ByteArray} {g j0 : Nat} {T : List Tok} (h : rRel s (g + 1) j0 T) (hj : blank s j0 < s.size) (ht : tokL (s.data.toList.drop (blank s j0)) = .error 1) : readF (s.size + 1) s.data.toList 0 = .error 1 := by
  have hd := drop_at hj
  rw [h, readF, drop_blank]
  rw [hd] at ht ⊢
  simp only [ht]; rfl
theorem rRel.wrong {s : ByteArray} {g j0 : Nat} {T : List Tok} {t : Tok} {n : Nat} (h : rRel s (g + 1) j0 T) (hj : blank s j0 < s.size) (ht : tokL (s.data.toList.drop (blank s j0)) = .ok (t, n)) (hw : wrongT t ≠ 0) : readF (s.size + 1) s.data.toList 0 = .error (wrongT t) := by
  have hd := drop_at hj
  rw [h, readF, drop_blank]
  rw [hd] at ht ⊢
  simp only [ht, if_pos hw]; rfl
theorem rRel.full {s : ByteArray} {g j0 : Nat} {T : List Tok} {t : Tok} {n : Nat} (h : rRel s (g + 1) j0 T) (hj : blank s j0 < s.size) (ht : tokL (s.data.toList.drop (blank s j0)) = .ok (t, n)) (hw : wrongT t = 0) (hT : T.length = 300) : readF (s.size + 1) s.data.toList 0 = .error 2 := by
  have hd := drop_at hj
  rw [h, readF, drop_blank]
  rw [hd] at ht ⊢
  simp only [ht, hw, hT]; rfl
theorem rRel.step {s : ByteArray} {g j0 : Nat} {T : List Tok} {t : Tok} {n : Nat} (h : rRel s (g + 1) j0 T) (hj : blank s j0 < s.size) (ht : tokL (s.data.toList.drop (blank s j0)) = .ok (t, n)) (hw : wrongT t = 0) (hT : T.length ≠ 300) : rRel s g (blank s j0 + n) (T ++ [t]) := by
  have hd := drop_at hj
  unfold rRel
  rw [h, readF, drop_blank]
  have e : s.data.toList.drop (blank s j0 + n) = (s.data.toList.drop (blank s j0)).drop n := by rw [List.drop_drop]
  rw [e]
  rw [hd] at ht ⊢
  simp only [ht, hw, if_neg hT]
  simp only [ne_eq, not_true_eq_false, if_false, List.length_append, List.length_cons, List.length_nil, Nat.zero_add]
  cases readF g ((s[blank s j0] :: s.data.toList.drop (blank s j0 + 1)).drop n) (T.length + 1) <;> simp [Except.map]

theorem own_slice {w : World} {base : Nat} {e : TypeId} {size : Nat} {v : Value} {n : Nat} {xs : List Value} (h : w.ownsRow base e size v n xs) : ∃ ao cap, v = .slice ao n cap := by
  rcases h.2 with ⟨rfl, rfl⟩ | ⟨g, cap, cur, hv, _⟩
  · exact ⟨none, 0, rfl⟩
  · exact ⟨_, cap, hv⟩

theorem new_cells3 (w : World) (x y z : Value) (t : TypeId) : ∀ j u, [x, y, z][j]? = some u → ((w.alloc (.cells #[x, y, z] t)).drew).cell? ((⟨w.heap.size, 0, none⟩ : Addr).add j) = some u := by
  intro j u hj
  have hl : j < 3 := by
    rcases Nat.lt_or_ge j 3 with h | h
    · exact h
    · rw [List.getElem?_eq_none (by simpa using h)] at hj; cases hj
  rw [World.cell?_drew]
  match j, hl, hj with
  | 0, _, hj => simp at hj; subst hj; simp [Addr.add]
  | 1, _, hj => simp at hj; subst hj; simp [Addr.add]
  | 2, _, hj => simp at hj; subst hj; simp [Addr.add]

theorem tokC_one (t : Tok) : ∀ u ∈ tokC t, u.oneCell' = true := by
  intro u hu
  simp [tokC] at hu
  rcases hu with rfl | rfl | rfl <;> rfl

theorem rdr_grown {w w4 w5 : World} {b k : Nat} {s : ByteArray} {v x : Value} {n : Nat} {e : TypeId} {z : Nat} {xs : List Value} {o : Obj} (h : Rdr w4 b s k v) (hown : w4.ownsRow w.heap.size e z x n xs) (hb : b < w.heap.size)
    (hg : ((w4.alloc o).drew).grownBy w5 x.ownBlock) : Rdr w5 b s k v :=
  h.keep ((((Kept.refl (fun k => some k = x.ownBlock) w4).alloc o).drew).grown hg (fun k hk _ => hk.symm)) (fun e => by have := own_row hown b e.symm; omega)

theorem Rdr.setT {w : World} {b k : Nat} {s : ByteArray} {v : Value} (h : Rdr w b s k v) (x : Value) : Rdr (w.setCell ⟨b, 2, none⟩ x) b s k x := by
  unfold Rdr at *
  simp [World.setCell, Array.getElem?_modify, h]

theorem tokB_of (t : Tok) : tokV t = tokB t.k ⟨t.s.toArray⟩ t.n := rfl

set_option maxHeartbeats 3200000 in
theorem all_any (w : World) (b : Nat) (s : ByteArray) (h : Rdr w b s 0 (.slice none 0 0)) (hs : s.size ≤ 2000) :
    Calls Tryz.prog 36 #[.pointer (some ⟨b, 0, none⟩)] w fun e w' =>
      (∃ T v, readF (s.size + 1) s.data.toList 0 = .ok T ∧ e = .returned (.tuple #[]) ∧ Rdr w' b s s.size v ∧ w'.ownsRow w.heap.size 58 3 v T.length (tokCells T) ∧ Kept (· = b) w w')
      ∨ (∃ n, readF (s.size + 1) s.data.toList 0 = .error n ∧ n ≠ 0 ∧ e = fault n ∧ Kept (· = b) w w') := by
  have hbs : b < w.heap.size := World.block_lt_of_cell? w _ h.c0
  obtain ⟨i0, hi, hz0, hz1, hz2⟩ := info_parts info39
  go_enter Tryz.func36, Tryz.ntmps36
  go_wp2_with fail
  refine (passBlank_any _ b 0 s _ h (by omega) hs).mono ?_
  rintro e w1 ⟨rfl, hR1, hK1⟩
  go_wp2_with fail
  go_loopg [] (s.size + 1) (fun g wr => ∃ (j0 : Nat) (T : List Tok) (v : Value), j0 ≤ s.size ∧ s.size + 1 ≤ j0 + g ∧ T.length ≤ 300 ∧ Rdr wr b s (blank s j0) v ∧ Kept (· = b) w wr ∧ Hid (rRel s g j0 T) ∧ wr.ownsRow w.heap.size 58 3 v T.length (tokCells T))
  case atStart => exact ⟨0, [], _, by omega, by omega, by simp, hR1, hK1, rRel.start s, World.ownsRow_nil _ _ _ _⟩
  case round =>
    obtain ⟨j0, T, v, hj0, hg, hT, hR, hK, HR, hown⟩ := hrel
    clear hR1 hK1
    obtain ⟨g1, hg1⟩ : ∃ g1, gk = g1 + 1 := ⟨gk - 1, by have := blank_le hj0; omega⟩
    have HG := hide hg1
    have HR1 : Hid (rRel s (g1 + 1) j0 T) := by rw [← hg1]; exact HR
    have hgle : gk ≤ g1 + 1 := by omega
    have hgge : g1 + 1 ≤ gk := by omega
    clear HR hg1
    have hbl := blank_le hj0
    have hbj : j0 ≤ blank s j0 := by unfold blank; omega
    obtain ⟨j, hj⟩ : ∃ j, j = blank s j0 := ⟨_, rfl⟩
    have HJ := hide hj
    rw [← hj] at hR hbl hbj
    clear hj
    by_cases hlt : j < s.size
    · have he : ((j : Int) == (s.size : Int)) = false := by simp; omega
      obtain ⟨ao, cap, hv⟩ := own_slice hown
      subst hv
      go_wp2_with ((go_at_call 60; refine (ended_any _ b j s _ _ he (by exact hR)).mono ?_; rintro e w2 ⟨rfl, n2, rfl⟩))
      refine (token_any _ b j s _ (by exact hR) hlt hs).mono ?_
      rintro e w3 (⟨t, n, ht, hn0, hjn, rfl, hR3, hK3⟩ | ⟨ht, rfl, hK3⟩)
      · have HTok := hide ht
        clear ht
        have hK4 : Kept (· = b) w w3 := (hK.drewN _).trans hK3 (fun _ _ h => h)
        have hown3 := own_kept hown hK3.unN (fun g hg e => by omega)
        clear hK3 hown hR hK
        go_wp2_with fail
        rw [show (Value.agg #[.int .i64 t.k, .string ⟨t.s.toArray⟩, .int .i64 t.n]) = tokB t.k ⟨t.s.toArray⟩ t.n from rfl]
        refine (wrong_any t.k ⟨t.s.toArray⟩ t.n _).mono ?_
        rintro e w4 ⟨rfl, hK5⟩
        have ew : wrongT ⟨t.k, (⟨t.s.toArray⟩ : ByteArray).data.toList, t.n⟩ = wrongT t := by simp
        rw [ew]
        clear ew
        have hblk := new_kept (w := w3) (X := fun _ => False) hK5 (fun f => f)
        have hR4 := (hR3.al _).keep hK5 (fun f => f)
        have hown4 := own_kept (hown3.alloc _) hK5 (fun _ _ f => f)
        have hK6 : Kept (· = b) w w4 := (hK4.alloc _).trans hK5 (fun _ _ f => f.elim)
        have hz4 : w3.heap.size < w4.heap.size := by have := hK5.size; simp at this; omega
        have hb3 : b < w3.heap.size := Nat.lt_of_lt_of_le hbs hK4.size
        clear hK5 hR3 hown3 hK4
        obtain ⟨g0, g1', g2, z0, z1, z2⟩ := cells3 hblk
        have c2 := hR4.c2
        have f2 := hR4.f 2
        by_cases hw : wrongT t = 0
        · have hw' : (wrongT t != 0) = false := by simp [hw]
          have HWr := hide hw
          clear hw
          by_cases h300 : T.length = 300
          · have h300' : ((T.length : Int) == 300) = true := by simp; omega
            go_wp2_with fail
            exact ⟨rfl, .inr ⟨2, HR1.out.full (by rw [← HJ.out]; exact hlt) (by rw [← HJ.out]; exact HTok.out) HWr.out h300, by omega, rfl, hK6⟩⟩
          · have h300' : ((T.length : Int) == 300) = false := by simp; omega
            go_wp2_with fail
            have hbase : w.heap.size ≤ (w4.alloc (.cells #[.int .i64 t.k, .string ⟨t.s.toArray⟩, .int .i64 t.n] 58)).drew.heap.size := by have := hK6.size; simp; omega
            have c2a : ∀ o, (w4.alloc o).cell? ⟨b, 2, none⟩ = some (.slice ao T.length cap) := fun o => (hR4.al o).c2
            go_region_law (refine step_append_own rfl (.tmp 30) (.tmp 32) 35 rfl w.heap.size 58 i0 _ 3 32 Tryz.underlying35 hi hz0 hz1 hz2 rfl (by decide) (.slice ao T.length cap) T.length (tokCells T) (by simp [Act.eval]) (by exact hown4.alloc _) ⟨w4.heap.size, 0, none⟩ 1 1 (tokC t) (by simp [Act.eval]) rfl (by exact new_cells3 w4 _ _ _ _) (tokC_one t) (by unfold maxLen; omega) (by omega) hbase ?_; intro v5 w5 hown5 hgr5 _; obtain ⟨g5, cap5, hv5⟩ := own_form hown5 (by omega); subst hv5; have hR5 := rdr_grown hR4 hown4 hbs hgr5; have c25 := hR5.c2; have f25 := hR5.f 2)
            all_goals
              have hR6 := hR5.setT (.slice (some ⟨g5, 0, none⟩) (T.length + 1) cap5)
              have hK7 : Kept (· = b) w w5 := ((hK6.alloc _).drew).grown hgr5 (fun k hk hlt => by have := own_row hown4 k hk; omega)
              have hK8 := hK7.setB 2 (.slice (some ⟨g5, 0, none⟩) (T.length + 1) cap5)
              have hown6 := own_kept hown5 ((Kept.refl (· = b) w5).setB 2 (.slice (some ⟨g5, 0, none⟩) (T.length + 1) cap5)) (fun g hg e => by omega)
              go_wp2_with fail
              refine (passBlank_any _ b (j + n) s _ (by exact hR6) hjn hs).mono ?_
              rintro e w7 ⟨rfl, hR7, hK9⟩
              have hown7 := own_kept hown6 hK9 (fun g hg e => by omega)
              have HST := hide (HR1.out.step (by rw [← HJ.out]; exact hlt) (by rw [← HJ.out]; exact HTok.out) HWr.out h300)
              rw [← HJ.out] at HST
              go_wp2_with fail
              go_roundg g1
              case measure => omega
              case rel => exact ⟨j + n, T ++ [t], _, hjn, by omega, by rw [List.length_append]; simp; omega, hR7, hK8.trans hK9 (fun _ _ h => h), HST.out, by rw [tokCells_snoc, List.length_append]; exact hown7⟩
        · have hw' : (wrongT t != 0) = true := by simp [hw]
          have HWr := hide hw
          clear hw
          go_wp2_with fail
          exact ⟨rfl, .inr ⟨_, HR1.out.wrong (by rw [← HJ.out]; exact hlt) (by rw [← HJ.out]; exact HTok.out) HWr.out, HWr.out, rfl, hK6⟩⟩
      · exact ⟨rfl, .inr ⟨1, HR1.out.bad (by rw [← HJ.out]; exact hlt) (by rw [← HJ.out]; exact ht), by omega, rfl, (hK.drewN _).trans hK3 (fun _ _ h => h)⟩⟩
    · have he : ((j : Int) == (s.size : Int)) = true := by simp; omega
      go_wp2_with ((go_at_call 60; refine (ended_any _ b j s v _ he (by exact hR)).mono ?_; rintro e w2 ⟨rfl, n2, rfl⟩))
      first | go_end0 | refine bodyPost_ret (results_none rfl _ _ _) rfl ?_
      refine .inl ⟨T, v, HR1.out.ended (by rw [← HJ.out]; omega), rfl, ?_, hown, hK.drewN _⟩
      rw [show s.size = j from by omega]; exact hR

end Go.Proofs.YthiagmhijebbgaaGreatDoor

/- lex.Read, whatever it is handed. -/
namespace Go.Proofs.YthiagmhijebbgaaGreatDoor
open Go.RowKit

theorem enters16 (args : Array Value) (w : World) : (callFunc 36 args).run Tryz.prog w = .ok (.enter 36 args) w := by kernel_rfl

theorem own_base {w : World} {base base' : Nat} {e : TypeId} {size : Nat} {v : Value} {n : Nat} {xs : List Value} (h : w.ownsRow base e size v n xs) (hb : base' ≤ base) : w.ownsRow base' e size v n xs := by
  obtain ⟨h1, h2⟩ := h
  refine ⟨h1, ?_⟩
  rcases h2 with h2 | ⟨g, cap, cur, hv, hg, r⟩
  · exact Or.inl h2
  · exact Or.inr ⟨g, cap, cur, hv, Nat.le_trans hb hg, r⟩

set_option maxHeartbeats 800000 in
theorem read_any (w : World) (s : ByteArray) :
    Calls Tryz.prog 17 #[.string s] w fun e w' =>
      (∃ T v, lexRead s.data.toList = .ok T ∧ e = .returned (.tuple #[v, .int .i64 0]) ∧ w'.ownsRow w.heap.size 58 3 v T.length (tokCells T) ∧ Same w w')
      ∨ (∃ n, lexRead s.data.toList = .error n ∧ n ≠ 0 ∧ e = .returned (.tuple #[.slice none 0 0, .int .i64 n]) ∧ Same w w') := by
  have hsz := size_toList s
  by_cases hbig : 2000 < s.size
  · have HL := hide (show lexRead s.data.toList = .error 2 by unfold lexRead; rw [if_pos (by omega)])
    clear hsz
    go_enter Tryz.func17, Tryz.ntmps17
    go_wp2_with fail
    go_ret2
    exact .inr ⟨2, HL.out, by decide, rfl, Kept.refl _ _⟩
  · have HL := hide (show lexRead s.data.toList = readF (s.size + 1) s.data.toList 0 by unfold lexRead; rw [if_neg (by omega), hsz])
    clear hsz
    have hmf : ∀ (fn : Fn) (first cap : Array Value) (w : World), (Instr.makeFunc fn first cap).run Tryz.prog w = .ok (.func fn first cap) w := fun _ _ _ _ => rfl
    have hR0 : ∀ o, Rdr ((w.alloc (.cells #[.string s, .int .i64 0, .slice none 0 0] 69)).alloc o) w.heap.size s 0 (.slice none 0 0) := by
      intro o
      have h1 : Rdr (w.alloc (.cells #[.string s, .int .i64 0, .slice none 0 0] 69)) w.heap.size s 0 (.slice none 0 0) := heap_alloc_new w _
      exact h1.al o
    have HA := hide (all_any _ w.heap.size s (hR0 (.cells #[.int .i64 0] 24)) (by omega))
    clear hR0
    go_enter Tryz.func17, Tryz.ntmps17
    go_wp2_with fail
    refine (caught_method 36 (.pointer (some ⟨w.heap.size, 0, none⟩)) _ (· = w.heap.size) (by intro i hi; subst hi; simp)
      (fun w' => ∃ T v, readF (s.size + 1) s.data.toList 0 = .ok T ∧ Rdr w' w.heap.size s s.size v ∧ w'.ownsRow (w.heap.size + 1 + 1) 58 3 v T.length (tokCells T))
      (fun n _ => readF (s.size + 1) s.data.toList 0 = .error n ∧ n ≠ 0) enters16
      (HA.out.mono ?_)).mono ?_
    · rintro e w' (⟨T, v, h1, h2, h3, h4, h5⟩ | ⟨n, h1, h2, h3, h4⟩)
      · exact .inl ⟨h2, ⟨T, v, h1, h3, by simpa using h4⟩, h5⟩
      · exact .inr ⟨n, h3, ⟨h1, h2⟩, h4⟩
    · rintro e w' (⟨w1, rfl, ⟨T, v, h1, h3, h4⟩, h5, rfl⟩ | ⟨n, w1, rfl, ⟨h1, h2⟩, h4, rfl⟩)
      · obtain ⟨ao, cap, hv⟩ := own_slice h4
        subst hv
        have hR2 : Rdr (w1.setCell ⟨w.heap.size + 1, 0, none⟩ (.int .i64 0)) w.heap.size s s.size (.slice ao T.length cap) := by
          unfold Rdr at *
          rw [Below.heap_setCell _ _ _ _ (by show w.heap.size ≠ w.heap.size + 1; omega)]
          exact h3
        have hown := ownsRow_setCell_below h4 (a := ⟨w.heap.size + 1, 0, none⟩) (by show w.heap.size + 1 < w.heap.size + 1 + 1; omega) (.int .i64 0)
        have hK : Same w (w1.setCell ⟨w.heap.size + 1, 0, none⟩ (.int .i64 0)) := by
          refine Kept.setCell ?_ (fun h => absurd h (by show ¬ w.heap.size + 1 < w.heap.size; omega)) _
          exact (((Kept.refl _ w).alloc _).alloc _).trans h5 (fun i hi e => by have e2 : i = w.heap.size := e; omega)
        simp only [World.size_alloc]
        generalize w1.setCell ⟨w.heap.size + 1, 0, none⟩ (.int .i64 0) = w2 at *
        have c2 := hR2.c2
        have H1 := hide h1
        clear h1 h3 h4 h5 hR2
        go_wp2_with fail
        go_ret2
        exact .inl ⟨T, _, by rw [HL.out]; exact H1.out, rfl, own_base hown (by omega), hK⟩
      · have hK : Same w (w1.setCell ⟨w.heap.size + 1, 0, none⟩ (.int .i64 n)) := by
          refine Kept.setCell ?_ (fun h => absurd h (by show ¬ w.heap.size + 1 < w.heap.size; omega)) _
          exact (((Kept.refl _ w).alloc _).alloc _).trans h4 (fun i hi e => by have e2 : i = w.heap.size := e; omega)
        simp only [World.size_alloc]
        generalize w1.setCell ⟨w.heap.size + 1, 0, none⟩ (.int .i64 n) = w2 at *
        have hn : (n != 0) = true := by simp [h2]
        have H1 := hide h1
        have H2 := hide h2
        clear h1 h2 h4
        go_wp2_with fail
        go_ret2
        exact .inr ⟨n, by rw [HL.out]; exact H1.out, H2.out, rfl, hK⟩

end Go.Proofs.YthiagmhijebbgaaGreatDoor

/- lex.Check, whatever it is handed; owned rows are slices of tokens. -/
namespace Go.Proofs.YthiagmhijebbgaaGreatDoor
open Go.RowKit

theorem tokCells_get (l : List Tok) : ∀ (i : Nat) (t : Tok), l[i]? = some t → (tokCells l)[3 * i]? = some (.int .i64 t.k) ∧ (tokCells l)[3 * i + 1]? = some (.string ⟨t.s.toArray⟩) ∧ (tokCells l)[3 * i + 2]? = some (.int .i64 t.n) := by
  induction l with
  | nil => intro i t h; simp at h
  | cons x r ih =>
    intro i t h
    have e : tokCells (x :: r) = .int .i64 x.k :: .string ⟨x.s.toArray⟩ :: .int .i64 x.n :: tokCells r := by simp [tokCells, tokC]
    cases i with
    | zero => simp at h; subst h; rw [e]; simp
    | succ i =>
      simp at h
      have := ih i t h
      rw [e, show 3 * (i + 1) = 3 * i + 1 + 1 + 1 from by omega, show 3 * i + 1 + 1 + 1 + 1 = (3 * i + 1) + 1 + 1 + 1 from rfl, show 3 * i + 1 + 1 + 1 + 2 = (3 * i + 2) + 1 + 1 + 1 from by omega]
      simpa using this

theorem own_toks {w : World} {base : Nat} {v : Value} {l : List Tok} (h : w.ownsRow base 58 3 v l.length (tokCells l)) (hl : l.length ≤ 9000000000000) : TokSl w v l := by
  have hc := fun g => World.ownsRow.cells h (g := g)
  rcases h.2 with ⟨rfl, h0⟩ | ⟨g, cap, cur, rfl, hg, hb, hc1, hc2, hc3, htk⟩
  · obtain rfl : l = [] := List.length_eq_zero_iff.1 h0
    exact TokSl.nil w
  · refine ⟨_, cap, rfl, hl, fun i t ht => ⟨g, 0, rfl, ?_⟩⟩
    obtain ⟨h1, h2, h3⟩ := tokCells_get l i t ht
    have k1 := hc g rfl _ _ h1
    have k2 := hc g rfl _ _ h2
    have k3 := hc g rfl _ _ h3
    have e : ∀ j, ((⟨g, 0, none⟩ : Addr).add j) = ⟨g, j, none⟩ := by
      intro j
      unfold Addr.add
      split
      · rename_i h; rw [h]
      · simp
    rw [e] at k1 k2 k3
    rw [show 0 + i * 3 = 3 * i from by omega]
    exact ⟨k1, k2, k3⟩

theorem checkF_step (l : List Tok) (k : Nat) (h : k < l.length) : checkF (l.drop k) = if wrongT l[k] ≠ 0 then wrongT l[k] else checkF (l.drop (k + 1)) := by
  rw [List.drop_eq_getElem_cons h, checkF]

set_option maxHeartbeats 800000 in
theorem check_any (w : World) (v : Value) (l : List Tok) (h : TokSl w v l) :
    Calls Tryz.prog 69 #[v] w fun e w' => e = .returned (.int .i64 (lexCheck l)) ∧ Same w w' := by
  obtain ⟨ao, cap, rfl, hl, hc⟩ := id h
  clear hc
  by_cases hbig : 300 < l.length
  · have HF := hide (show lexCheck l = 2 by unfold lexCheck; rw [if_pos hbig])
    go_enter Tryz.func69, Tryz.ntmps69
    go_wp2_with fail
    go_ret
    exact ⟨ret_int HF.out.symm, Kept.refl _ _⟩
  · have HF := hide (show lexCheck l = checkF l by unfold lexCheck; rw [if_neg hbig])
    go_enter Tryz.func69, Tryz.ntmps69
    go_wp2_with fail
    go_loopg [11] l.length (fun g i wr => ∃ k : Nat, k + g = l.length ∧ i = .int .i64 k ∧ Same w wr ∧ Hid (checkF l = checkF (l.drop k)))
    case atStart => exact ⟨0, by omega, rfl, Kept.refl _ _, rfl⟩
    case round =>
      obtain ⟨k, hk, rfl, hK, HE⟩ := hrel
      by_cases hlt : k < l.length
      · obtain ⟨b1, o1, e1, p0, p1, p2⟩ := (h.same hK).at k hlt
        subst e1
        have HS := hide (checkF_step l k hlt)
        go_wp2_with fail
        rw [show (Value.agg #[.int .i64 l[k].k, .string ⟨l[k].s.toArray⟩, .int .i64 l[k].n]) = tokB l[k].k ⟨l[k].s.toArray⟩ l[k].n from rfl]
        refine (wrong_any l[k].k ⟨l[k].s.toArray⟩ l[k].n _).mono ?_
        rintro e w4 ⟨rfl, hK5⟩
        have ew : wrongT ⟨l[k].k, (⟨l[k].s.toArray⟩ : ByteArray).data.toList, l[k].n⟩ = wrongT l[k] := by simp
        rw [ew]
        clear ew
        have hK6 : Same w w4 := (hK.alloc _).trans hK5 (fun _ _ f => f.elim)
        by_cases hw : wrongT l[k] = 0
        · have hw' : (wrongT l[k] != 0) = false := by simp [hw]
          have HW := hide hw
          clear hw
          go_wp2_with fail
          go_roundg (gk - 1)
          case measure => omega
          case rel => exact ⟨k + 1, by omega, by go_num, hK6, by show checkF l = _; rw [HE.out, HS.out, if_neg (by rw [HW.out]; decide)]⟩
        · have hw' : (wrongT l[k] != 0) = true := by simp [hw]
          have HW := hide hw
          clear hw
          go_wp2_with fail
          go_ret
          exact ⟨ret_int (by rw [HF.out, HE.out, HS.out, if_pos HW.out]), hK6⟩
      · go_wp2_with fail
        go_ret
        refine ⟨ret_int ?_, hK⟩
        rw [HF.out, HE.out, List.drop_eq_nil_of_le (by omega)]
        rfl

end Go.Proofs.YthiagmhijebbgaaGreatDoor
