import Derived.Test.YtkkjchfhgjfclaaGreatDoorQuerytellsupto20
import Derived.Test.YtkkjchfhgjfclaaGreatDoorQuerytellsupto14
import Derived.Test.YtkkjchfhgjfclaaGreatDoorQuerytellsupto19
import Derived.Test.YtkkjchfhgjfclaaGreatDoorQuerytellsupto16
import Derived.Maps.AppendAt
import Derived.Test.YtkkjchfhgjfclaaGreatDoorQuerytellsupto09
/- Reading a schema's fields off tokens, case by case. No program is named here. -/
namespace Go.Proofs.YtkkjchfhgjfclaaGreatDoor

theorem pField_none1 {r : List Tok} (h : ∀ t r', r = t :: r' → t.k ≠ 1) : pField r = none := by
  match r with
  | [] => rfl
  | [_] => rfl
  | a :: b :: r => rw [pField, if_neg (fun e => h a (b :: r) rfl e.1)]
theorem isS_of {c : UInt8} {t : Tok} {r : List Tok} : isS c (t :: r) = true ↔ t.k = 4 ∧ t.s = [c] := by simp [isS]
theorem pField_none2 {a : Tok} {r : List Tok} (h : isS 58 r = false) : pField (a :: r) = none := by
  cases r with
  | nil => rfl
  | cons b r => rw [pField, if_neg (fun e => by rw [isS_of.2 e.2] at h; cases h)]
theorem pField_some {a b : Tok} {r : List Tok} (h : a.k = 1) (h2 : isS 58 (b :: r) = true) : pField (a :: b :: r) = (pKind r).map (fun x => (⟨a.s, x.1.1, x.1.2⟩, x.2)) := by
  rw [pField, if_pos ⟨h, isS_of.1 h2⟩]
theorem pKind_many {a b c : Tok} {r : List Tok} (h : isS 91 (a :: b :: c :: r) = true) (hb : b.k = 1) (hc : isS 93 (c :: r) = true) : pKind (a :: b :: c :: r) = some ((4, b.s), r) := by
  unfold pKind
  dsimp only
  rw [if_pos h, if_pos ⟨hb, isS_of.1 hc⟩]
theorem pKind_many1 {a : Tok} {r : List Tok} (h : isS 91 (a :: r) = true) (hb : ∀ t r', r = t :: r' → t.k ≠ 1) : pKind (a :: r) = none := by
  unfold pKind
  dsimp only
  rw [if_pos h]
  match r with
  | [] => rfl
  | [_] => rfl
  | b :: c :: r => exact if_neg (fun e => hb b (c :: r) rfl e.1)
theorem pKind_many2 {a b : Tok} {r : List Tok} (h : isS 91 (a :: b :: r) = true) (hc : isS 93 r = false) : pKind (a :: b :: r) = none := by
  unfold pKind
  dsimp only
  rw [if_pos h]
  match r with
  | [] => rfl
  | c :: r => exact if_neg (fun e => by rw [isS_of.2 e.2] at hc; cases hc)
theorem pKind_one {a : Tok} {r : List Tok} (h : isS 91 (a :: r) = false) (ha : a.k = 1) : pKind (a :: r) = some ((if a.s = bNumber then (1, []) else if a.s = bText then (2, []) else (3, a.s)), r) := by
  unfold pKind
  dsimp only
  rw [if_neg (by rw [h]; simp), if_pos ha]
theorem pKind_not {r : List Tok} (h : isS 91 r = false) (hb : ∀ t r', r = t :: r' → t.k ≠ 1) : pKind r = none := by
  cases r with
  | nil => rfl
  | cons a r =>
    unfold pKind
    dsimp only
    rw [if_neg (by rw [h]; simp), if_neg (hb a r rfl)]

end Go.Proofs.YtkkjchfhgjfclaaGreatDoor

/- Read of a text that is right, and of one that is not. -/
namespace Go.Proofs.YtkkjchfhgjfclaaGreatDoor
open Go.RowKit

/-- Read of a text that is right. -/
theorem read_ok (w : World) (s : ByteArray) (T : List Tok) (h : lexRead s.data.toList = .ok T) (hT : T.length ≤ 9000000000000) :
    Calls Tryz.prog 17 #[.string s] w fun e w' => ∃ v, e = .returned (.tuple #[v, .int .i64 0]) ∧ TokSl w' v T ∧ Same w w' := by
  refine (read_any w s).mono ?_
  rintro e w' (⟨T', v, h1, rfl, h2, h3⟩ | ⟨n, h1, _, rfl, h3⟩)
  · rw [h] at h1
    cases h1
    exact ⟨v, rfl, own_toks h2 hT, h3⟩
  · rw [h] at h1; cases h1
theorem read_bad (w : World) (s : ByteArray) (n : Int) (h : lexRead s.data.toList = .error n) :
    Calls Tryz.prog 17 #[.string s] w fun e w' => e = .returned (.tuple #[.slice none 0 0, .int .i64 n]) ∧ Same w w' ∧ n ≠ 0 := by
  refine (read_any w s).mono ?_
  rintro e w' (⟨T', v, h1, rfl, h2, h3⟩ | ⟨n', h1, h2, rfl, h3⟩)
  · rw [h] at h1; cases h1
  · rw [h] at h1
    cases h1
    exact ⟨rfl, h3, h2⟩

end Go.Proofs.YtkkjchfhgjfclaaGreatDoor

/- What the readers of queries and of schemas both want. -/
namespace Go.Proofs.YtkkjchfhgjfclaaGreatDoor
open Go.RowKit

theorem fld_text (k n : Int) (s : ByteArray) (w : World) : (Instr.field 58 (.agg #[.int .i64 k, .string s, .int .i64 n]) 1).run Tryz.prog w = .ok (.string s) w := by kernel_rfl

/-- a result of three cells, put into its block at the end -/
theorem put3 {w w1 : World} {q g : Nat} {r : List Tok} {a b c : Value} {t : TypeId} (hL : LineAt w1 q r) (hK : Kept (· = q) w w1) (hg : w1.heap[g]? = some (.cells #[a, b, c] t (0, 0))) (hq : q < g) (hw : w.heap.size ≤ g) :
    (∀ x y z, LineAt (((w1.setCell ⟨g, 0, none⟩ x).setCell ⟨g, 1, none⟩ y).setCell ⟨g, 2, none⟩ z) q r ∧ Kept (· = q) w (((w1.setCell ⟨g, 0, none⟩ x).setCell ⟨g, 1, none⟩ y).setCell ⟨g, 2, none⟩ z)) ∧
    w1.cell? ⟨g, 0, none⟩ = some a ∧ w1.cell? ⟨g, 1, none⟩ = some b ∧ w1.cell? ⟨g, 2, none⟩ = some c ∧ ∀ o, w1.frozen? ⟨g, o, none⟩ = false := by
  refine ⟨fun x y z => ?_, by simp [World.cell?, hg], by simp [World.cell?, hg], by simp [World.cell?, hg], fun o => by simp [World.frozen?, hg]⟩
  have hKK : Kept (· = g) w1 (((w1.setCell ⟨g, 0, none⟩ x).setCell ⟨g, 1, none⟩ y).setCell ⟨g, 2, none⟩ z) := ((((Kept.refl _ _).setB 0 x).setB 1 y).setB 2 z)
  exact ⟨hL.after hKK (by intro k hk; omega), hK.trans hKK (fun i hi e => by omega)⟩

/-- a result of two cells, put into its block at the end -/
theorem put2 {w w1 : World} {q g : Nat} {r : List Tok} {a b : Value} {t : TypeId} (hL : LineAt w1 q r) (hK : Kept (· = q) w w1) (hg : w1.heap[g]? = some (.cells #[a, b] t (0, 0))) (hq : q < g) (hw : w.heap.size ≤ g) :
    (∀ x y, LineAt ((w1.setCell ⟨g, 0, none⟩ x).setCell ⟨g, 1, none⟩ y) q r ∧ Kept (· = q) w ((w1.setCell ⟨g, 0, none⟩ x).setCell ⟨g, 1, none⟩ y) ∧ Kept (· = g) w1 ((w1.setCell ⟨g, 0, none⟩ x).setCell ⟨g, 1, none⟩ y)) ∧
    w1.cell? ⟨g, 0, none⟩ = some a ∧ w1.cell? ⟨g, 1, none⟩ = some b ∧ ∀ o, w1.frozen? ⟨g, o, none⟩ = false := by
  refine ⟨fun x y => ?_, by simp [World.cell?, hg], by simp [World.cell?, hg], fun o => by simp [World.frozen?, hg]⟩
  have hKK : Kept (· = g) w1 ((w1.setCell ⟨g, 0, none⟩ x).setCell ⟨g, 1, none⟩ y) := (((Kept.refl _ _).setB 0 x).setB 1 y)
  exact ⟨hL.after hKK (by intro k hk; omega), hK.trans hKK (fun i hi e => by omega), hKK⟩

/-- Read of a text that is right, and how long its row is -/
theorem read_cap (w : World) (s : ByteArray) (T : List Tok) (h : lexRead s.data.toList = .ok T) (hT : T.length ≤ 300) :
    Calls Tryz.prog 17 #[.string s] w fun e w' => ∃ ao cap, e = .returned (.tuple #[.slice ao T.length cap, .int .i64 0]) ∧ T.length ≤ cap ∧ TokSl w' (.slice ao T.length cap) T ∧ Same w w' := by
  refine (read_any w s).mono ?_
  rintro e w' (⟨T', v, h1, rfl, h2, h3⟩ | ⟨n, h1, _, rfl, h3⟩)
  · rw [h] at h1
    cases h1
    have ht := own_toks h2 (by omega)
    rcases h2.2 with ⟨rfl, h0⟩ | ⟨g, cap, cur, rfl, hg, hb, hc1, _⟩
    · rw [h0] at *
      exact ⟨none, 0, rfl, Nat.le_refl _, ht, h3⟩
    · exact ⟨_, cap, rfl, hc1, ht, h3⟩
  · rw [h] at h1; cases h1
end Go.Proofs.YtkkjchfhgjfclaaGreatDoor

/- query.readArg, readArgs, whatever comes. -/
namespace Go.Proofs.YtkkjchfhgjfclaaGreatDoor
open Go.RowKit

theorem pArg_n1 {r : List Tok} (h : ∀ t r', r = t :: r' → t.k ≠ 1) : pArg r = none := by
  match r with
  | [] => rfl
  | [_] => rfl
  | [_, _] => rfl
  | a :: b :: c :: r => rw [pArg, if_neg (fun e => h a _ rfl e.1)]
theorem pArg_n2 {a : Tok} {r : List Tok} (h : isS 58 r = false) : pArg (a :: r) = none := by
  match r with
  | [] => rfl
  | [_] => rfl
  | b :: c :: r => rw [pArg, if_neg (fun e => by rw [isS_of.2 e.2.1] at h; cases h)]
theorem pArg_n3 {a b : Tok} {r : List Tok} (h : ∀ t r', r = t :: r' → ([2, 3] : List Int).contains t.k = false) : pArg (a :: b :: r) = none := by
  match r with
  | [] => rfl
  | c :: r =>
    rw [pArg, if_neg (fun e => ?_)]
    have := h c r rfl
    rcases e.2.2 with e | e <;> simp [e] at this
theorem pArg_some {a b c : Tok} {r : List Tok} (h1 : a.k = 1) (h2 : isS 58 (b :: c :: r) = true) (h3 : ([2, 3] : List Int).contains c.k = true) : pArg (a :: b :: c :: r) = some (⟨a.s, decide (c.k = 3), c.s, c.n⟩, r) := by
  rw [pArg, if_pos ⟨h1, isS_of.1 h2, by simpa using h3⟩]

/-- a number or a text must come -/
theorem take23_any (w : World) (q : Nat) (r : List Tok) (h : LineAt w q r) :
    Calls Tryz.prog 99 #[.pointer (some ⟨q, 0, none⟩), .slice (some ⟨w.heap.size, 0, none⟩) 2 2] (w.alloc (.cells #[.int .i64 2, .int .i64 3] 3)) fun e w' =>
      (∃ t r', r = t :: r' ∧ ([2, 3] : List Int).contains t.k = true ∧ e = .returned (.agg #[.int .i64 t.k, .string ⟨t.s.toArray⟩, .int .i64 t.n]) ∧ LineAt w' q r' ∧ Kept (· = q) w w')
      ∨ ((∀ t r', r = t :: r' → ([2, 3] : List Int).contains t.k = false) ∧ e = fault 1 ∧ Kept (· = q) w w') := by
  have kA : Kept (· = q) w (w.alloc (.cells #[.int .i64 2, .int .i64 3] 3)) := (Kept.refl _ w).alloc _
  refine (take_any _ q r _ [2, 3] (h.same ((Kept.refl _ w).alloc _)) (IntSl.new2 w 2 3 _)).mono ?_
  rintro e w' (⟨t, r', h1, h2, h3, h4, h5⟩ | ⟨h1, h2, h3⟩)
  · exact .inl ⟨t, r', h1, h2, h3, h4, kA.trans h5 (fun _ _ e => e)⟩
  · exact .inr ⟨h1, h2, kA.trans h3 (fun _ _ e => e)⟩

/-- a result of four cells, put into its block at the end -/
theorem put4 {w w1 : World} {q g : Nat} {r : List Tok} {a b c d : Value} {t : TypeId} (hL : LineAt w1 q r) (hK : Kept (· = q) w w1) (hg : w1.heap[g]? = some (.cells #[a, b, c, d] t (0, 0))) (hq : q < g) (hw : w.heap.size ≤ g) (o : Obj) :
    (∀ x y z u, LineAt (((((w1.setCell ⟨g, 0, none⟩ x).setCell ⟨g, 1, none⟩ y).setCell ⟨g, 2, none⟩ z).setCell ⟨g, 3, none⟩ u).alloc o) q r ∧ Kept (· = q) w (((((w1.setCell ⟨g, 0, none⟩ x).setCell ⟨g, 1, none⟩ y).setCell ⟨g, 2, none⟩ z).setCell ⟨g, 3, none⟩ u).alloc o)) ∧
    w1.cell? ⟨g, 0, none⟩ = some a ∧ w1.cell? ⟨g, 1, none⟩ = some b ∧ w1.cell? ⟨g, 2, none⟩ = some c ∧ w1.cell? ⟨g, 3, none⟩ = some d ∧ ∀ o, w1.frozen? ⟨g, o, none⟩ = false := by
  refine ⟨fun x y z u => ?_, by simp [World.cell?, hg], by simp [World.cell?, hg], by simp [World.cell?, hg], by simp [World.cell?, hg], fun o => by simp [World.frozen?, hg]⟩
  have hKK : Kept (· = g) w1 (((((w1.setCell ⟨g, 0, none⟩ x).setCell ⟨g, 1, none⟩ y).setCell ⟨g, 2, none⟩ z).setCell ⟨g, 3, none⟩ u).alloc o) := ((((((Kept.refl _ _).setB 0 x).setB 1 y).setB 2 z).setB 3 u).alloc o)
  exact ⟨hL.after hKK (by intro k hk; omega), hK.trans hKK (fun i hi e => by omega)⟩

set_option maxRecDepth 20000 in
set_option maxHeartbeats 1600000 in
theorem readArg_any (w : World) (q : Nat) (r : List Tok) (h : LineAt w q r) :
    Calls Tryz.prog 115 #[.pointer (some ⟨q, 0, none⟩)] w fun e w' =>
      (∃ a r', pArg r = some (a, r') ∧ e = .returned (.agg #[.string ⟨a.name.toArray⟩, .bool a.isText, .string ⟨a.text.toArray⟩, .int .i64 a.n]) ∧ LineAt w' q r' ∧ Kept (· = q) w w')
      ∨ (pArg r = none ∧ e = fault 1 ∧ Kept (· = q) w w') := by
  have hq := h.lt
  have hqn : q ≠ w.heap.size := by omega
  have HA := hide (h.same ((Kept.refl _ w).alloc (.cells #[.string ⟨#[]⟩, .bool false, .string ⟨#[]⟩, .int .i64 0] 63)))
  have ht := take1_any _ q r HA.out
  simp only [World.size_alloc] at ht
  have HT := hide ht
  clear ht
  have HK0 := hide (show Kept (· = q) w (w.alloc (.cells #[.string ⟨#[]⟩, .bool false, .string ⟨#[]⟩, .int .i64 0] 63)) from (Kept.refl _ w).alloc _)
  have HB0 := hide (heap_alloc_new w (.cells #[.string ⟨#[]⟩, .bool false, .string ⟨#[]⟩, .int .i64 0] 63))
  have hfl := fld_text
  clear h
  go_enter Tryz.func115, Tryz.ntmps115
  go_wp2_with fail
  refine HT.out.mono ?_
  rintro e w1 (⟨a, r1, hr1, ha, rfl, hL1, hK1⟩ | ⟨hr1, rfl, hK1⟩)
  · have HR1 := hide hr1
    have HA1 := hide ha
    have HK1 := hide (kq HK0.out hK1)
    have HB1 := hide (blk_kept HB0.out hK1 hqn.symm)
    clear hr1 ha hK1 HT HA HK0 HB0
    go_wp2_with fail
    refine (sign_any _ q r1 58 hL1).mono ?_
    rintro e w2 (⟨b, r2, hr2, hs2, rfl, hL2, hK2⟩ | ⟨hs2, rfl, hK2⟩)
    · have HR2 := hide hr2
      have HS2 := hide hs2
      have HK2 := hide (kq HK1.out hK2)
      have HB2 := hide (blk_kept HB1.out hK2 hqn.symm)
      clear hr2 hs2 hK2 HK1 HB1 hL1
      go_wp2_with fail
      refine (take23_any _ q r2 hL2).mono ?_
      rintro e w3 (⟨c, r3, hr3, hc, rfl, hL3, hK3⟩ | ⟨hr3, rfl, hK3⟩)
      · have HE := hide (show pArg r = some (⟨a.s, decide (c.k = 3), c.s, c.n⟩, r3) by
          have e1 := HR1.out; have e2 := HR2.out; have e3 := HS2.out
          subst hr3
          subst e2
          subst e1
          exact pArg_some HA1.out e3 hc)
        obtain ⟨hput, n0, n1, n2, n3, nf⟩ := put4 hL3 (kq HK2.out hK3) (blk_kept HB2.out hK3 hqn.symm) hq (Nat.le_refl _) (.cells #[.int .i64 c.k, .string ⟨c.s.toArray⟩, .int .i64 c.n] 58)
        have HPUT := hide hput
        have hw3 : w.heap.size < w3.heap.size := World.block_lt_of_cell? w3 _ n0
        obtain ⟨kb, hkb⟩ : ∃ kb, (c.k == 3) = kb := ⟨_, rfl⟩
        have HKB := hide (show decide (c.k = 3) = kb by rw [← hkb]; rfl)
        clear hr3 hc hK3 HK2 HB2 hL2 hL3 hput HR1 HR2 HS2 HA1
        cases kb
        all_goals
          go_wp2_with fail
          refine bodyPost_ret (v := .agg #[.string ⟨a.s.toArray⟩, .bool (decide (c.k = 3)), .string ⟨c.s.toArray⟩, .int .i64 c.n]) (by rw [HKB.out]; simp [results, Tryz.results115, go_sem, n0, n1, n2, n3, hw3]) rfl (.inl ⟨⟨a.s, decide (c.k = 3), c.s, c.n⟩, r3, HE.out, rfl, ?_⟩)
          exact HPUT.out _ _ _ _
      · have HE := hide (show pArg r = none by
          have e1 := HR1.out; have e2 := HR2.out
          subst e2
          subst e1
          exact pArg_n3 hr3)
        clear hr3
        go_wp2_with fail
        exact ⟨rfl, .inr ⟨HE.out, rfl, kq HK2.out hK3⟩⟩
    · have HE := hide (show pArg r = none by rw [HR1.out, pArg_n2 hs2])
      clear hs2
      go_wp2_with fail
      exact ⟨rfl, .inr ⟨HE.out, rfl, kq HK1.out hK2⟩⟩
  · have HE := hide (show pArg r = none from pArg_n1 hr1)
    clear hr1
    go_wp2_with fail
    exact ⟨rfl, .inr ⟨HE.out, rfl, kq HK0.out hK1⟩⟩

end Go.Proofs.YtkkjchfhgjfclaaGreatDoor

/- query.readArgs, whatever comes. -/
namespace Go.Proofs.YtkkjchfhgjfclaaGreatDoor
open Go.RowKit

def argC (a : ArgT) : List Value := [.string ⟨a.name.toArray⟩, .bool a.isText, .string ⟨a.text.toArray⟩, .int .i64 a.n]
def argCells (l : List ArgT) : List Value := l.flatMap argC
theorem argCells_snoc (l : List ArgT) (a : ArgT) : argCells (l ++ [a]) = argCells l ++ argC a := by simp [argCells]
theorem argC_one (a : ArgT) : ∀ u ∈ argC a, u.oneCell' = true := by intro u hu; simp [argC] at hu; rcases hu with rfl | rfl | rfl | rfl <;> rfl
theorem argCells_get (l : List ArgT) : ∀ (i : Nat) (a : ArgT), l[i]? = some a → (argCells l)[4 * i]? = some (.string ⟨a.name.toArray⟩) ∧ (argCells l)[4 * i + 1]? = some (.bool a.isText) ∧ (argCells l)[4 * i + 2]? = some (.string ⟨a.text.toArray⟩) ∧ (argCells l)[4 * i + 3]? = some (.int .i64 a.n) := by
  induction l with
  | nil => intro i t h; simp at h
  | cons x r ih =>
    intro i t h
    have e : argCells (x :: r) = .string ⟨x.name.toArray⟩ :: .bool x.isText :: .string ⟨x.text.toArray⟩ :: .int .i64 x.n :: argCells r := by simp [argCells, argC]
    cases i with
    | zero => simp at h; subst h; rw [e]; simp
    | succ i =>
      simp at h
      have := ih i t h
      rw [e, show 4 * (i + 1) = 4 * i + 1 + 1 + 1 + 1 from by omega, show 4 * i + 1 + 1 + 1 + 1 + 1 = (4 * i + 1) + 1 + 1 + 1 + 1 from rfl, show 4 * i + 1 + 1 + 1 + 1 + 2 = (4 * i + 2) + 1 + 1 + 1 + 1 from by omega, show 4 * i + 1 + 1 + 1 + 1 + 3 = (4 * i + 3) + 1 + 1 + 1 + 1 from by omega]
      simpa using this

theorem own_args {w : World} {base : Nat} {v : Value} {l : List ArgT} (h : w.ownsRow base 63 4 v l.length (argCells l)) (hl : l.length ≤ 9000000000000) : ArgSlP (fun b => base ≤ b) w v l := by
  have hc := fun g => World.ownsRow.cells h (g := g)
  rcases h.2 with ⟨rfl, h0⟩ | ⟨g, cap, cur, rfl, hg, hb, hc1, hc2, hc3, htk⟩
  · obtain rfl : l = [] := List.length_eq_zero_iff.1 h0
    exact ArgSlP.nil _ w
  · refine ⟨_, cap, rfl, ⟨by unfold maxLen; omega, hc1⟩, fun i t ht => ⟨g, 0, rfl, hg, ?_⟩⟩
    obtain ⟨h1, h2, h3, h4⟩ := argCells_get l i t ht
    have k1 := hc g rfl _ _ h1
    have k2 := hc g rfl _ _ h2
    have k3 := hc g rfl _ _ h3
    have k4 := hc g rfl _ _ h4
    rw [add_none] at k1 k2 k3 k4
    rw [show 0 + i * 4 = 0 + 4 * i from by omega]
    exact ⟨k1, k2, k3, k4⟩

theorem infoA : (Tryz.prog.info? 63).map (fun i => (i.zero, i.size, i.bytes)) = some (some (.agg #[.string ⟨#[]⟩, .bool false, .string ⟨#[]⟩, .int .i64 0]), 4, 48) := by kernel_rfl

def aRel (r0 : List Tok) (g : Nat) (rj : List Tok) (acc : List ArgT) : Prop := pArgs r0.length r0 = (pArgs g rj).map (fun x => (acc ++ x.1, x.2))
theorem aRel.start (r0 : List Tok) : aRel r0 r0.length r0 [] := by
  unfold aRel
  cases pArgs r0.length r0 <;> simp
theorem aRel.bad {r0 rj : List Tok} {g : Nat} {acc : List ArgT} (h : aRel r0 g rj acc) (hp : pArg rj = none) : pArgs r0.length r0 = none := by
  rw [h]
  cases g with
  | zero => rfl
  | succ g => rw [pArgs, hp]; rfl
theorem aRel.last {r0 rj r1 : List Tok} {g : Nat} {acc : List ArgT} {f : ArgT} (h : aRel r0 (g + 1) rj acc) (hp : pArg rj = some (f, r1)) (hs : isS 41 r1 = true) : pArgs r0.length r0 = some (acc ++ [f], r1.tail) := by
  rw [h, pArgs, hp]
  simp only [hs, if_true, Option.map_some]
theorem aRel.step {r0 rj r1 : List Tok} {g : Nat} {acc : List ArgT} {f : ArgT} (h : aRel r0 (g + 1) rj acc) (hp : pArg rj = some (f, r1)) (hs : isS 41 r1 = false) : aRel r0 g r1 (acc ++ [f]) := by
  unfold aRel
  rw [h, pArgs, hp]
  simp only [hs]
  cases pArgs g r1 <;> simp

theorem new_c4 (w : World) (x y z u : Value) (t : TypeId) : ∀ j v, [x, y, z, u][j]? = some v → (w.alloc (.cells #[x, y, z, u] t)).cell? ((⟨w.heap.size, 0, none⟩ : Addr).add j) = some v := by
  intro j v hj
  rw [add_none, Nat.zero_add, World.cell?_alloc_new]
  simpa using hj

set_option maxRecDepth 20000 in
set_option maxHeartbeats 1600000 in
theorem readArgs_any (w : World) (q : Nat) (r : List Tok) (h : LineAt w q r) (hlen : r.length ≤ 300) :
    Calls Tryz.prog 100 #[.pointer (some ⟨q, 0, none⟩)] w fun e w' =>
      (∃ l r' v, pArgs r.length r = some (l, r') ∧ e = .returned v ∧ ArgSlP (fun b => w.heap.size ≤ b) w' v l ∧ LineAt w' q r' ∧ Kept (· = q) w w')
      ∨ (pArgs r.length r = none ∧ e = fault 1 ∧ Kept (· = q) w w') := by
  have hq := h.lt
  obtain ⟨i0, hi, hz0, hz1, hz2⟩ := info_parts infoA
  obtain ⟨N, hN⟩ : ∃ N, N = r.length := ⟨_, rfl⟩
  have HNN := hide hN
  have hN1 : N ≤ 300 := by omega
  have HL := hide h
  clear hN hlen h
  go_enter Tryz.func100, Tryz.ntmps100
  go_wp2_with fail
  go_loopg [3] (N + 1) (fun g v wr => ∃ (m : Nat) (rj : List Tok) (acc : List ArgT), m + 1 ≤ g ∧ g ≤ m + 1 ∧ rj.length ≤ m ∧ acc.length + rj.length ≤ 300 ∧ LineAt wr q rj ∧ Kept (· = q) w wr ∧ wr.ownsRow w.heap.size 63 4 v acc.length (argCells acc) ∧ Hid (aRel r m rj acc))
  case atStart =>
    have e1 := HNN.out
    exact ⟨N, r, [], by omega, by omega, by omega, by simp; omega, HL.out, Kept.refl _ _, World.ownsRow_nil _ _ _ _, by rw [Hid, e1]; exact aRel.start r⟩
  case round =>
    obtain ⟨m, rj, acc, hg1, hg2, hrm, hacc, hLr, hKr, hown, HFR⟩ := hrel
    obtain ⟨ao, cap, hv⟩ := own_slice hown
    subst hv
    go_wp2_with fail
    refine (readArg_any _ q rj hLr).mono ?_
    rintro e w1 (⟨a, r1, hp, rfl, hL1, hK1⟩ | ⟨hp, rfl, hK1⟩)
    · have hl1 := pArg_len hp
      have hl1' : r1.length + 3 ≤ rj.length := by omega
      have HPT := hide hp
      obtain ⟨m1, hm1⟩ : ∃ m1, m = m1 + 1 := ⟨m - 1, by omega⟩
      have HFR1 : Hid (aRel r (m1 + 1) rj acc) := by rw [← hm1]; exact HFR
      have hmle : m ≤ m1 + 1 := by omega
      have hmge : m1 + 1 ≤ m := by omega
      have hown1 := own_kept hown hK1 (fun g hg e => by omega)
      have HKA := hide (kq hKr hK1)
      have hws : w.heap.size ≤ w1.heap.size := HKA.out.size
      have HL1 := hide hL1
      clear HFR hm1 hp hLr hKr hL1 hK1 hown hl1
      go_wp2_with (at_builtin; refine wpList_append_own _ rfl _ _ 26 rfl w.heap.size 63 i0 _ 4 48 Tryz.underlying26 hi hz0 hz1 hz2 rfl (by decide) _ _ _ rfl (hown1.alloc _) ⟨w1.heap.size, 0, none⟩ 1 1 (argC a) rfl rfl ?a1 ?a2 ?a3 ?a4 ?a5 ?_)
      case a1 => exact new_c4 w1 _ _ _ _ _
      case a2 => exact argC_one a
      case a3 => unfold maxLen; omega
      case a4 => omega
      case a5 => simp; omega
      intro v2 w2 hown2 hgr2 _
      obtain ⟨g2, cap2, hv2⟩ := own_form hown2 (by omega)
      subst hv2
      have hKb : Kept (fun k => some k = (Value.slice ao acc.length cap).ownBlock) w1 w2 := ((Kept.refl _ w1).alloc _).trans (grown_kept hgr2) (fun _ _ e => e)
      have hXb : ∀ k, some k = (Value.slice ao acc.length cap).ownBlock → w.heap.size ≤ k := fun k e => (hown1.lt k e.symm).1
      have hLb := HL1.out.after hKb (fun k e => by have := hXb k e; omega)
      have HKC := hide (show Kept (· = q) w w2 from HKA.out.trans hKb (fun k hk e => by have := hXb k e; omega))
      have HOW2 := hide (show w2.ownsRow w.heap.size 63 4 (.slice (some ⟨g2, 0, none⟩) (acc.length + 1) cap2) (acc ++ [a]).length (argCells (acc ++ [a])) by rw [argCells_snoc, List.length_append]; exact hown2)
      clear hgr2 hown2 hKb hXb hown1
      go_wp2_with fail
      refine (skip_any _ q r1 41 hLb).mono ?_
      rintro e w3 (⟨y, r2, hr2, hs2, rfl, hL3, hK3⟩ | ⟨hs2, rfl, rfl⟩)
      · have HE := hide (show pArgs r.length r = some (acc ++ [a], r2) by rw [HFR1.out.last HPT.out hs2, hr2]; rfl)
        have HAS := hide (own_args (own_kept HOW2.out hK3 (fun k hk e => by omega)) (by simp; omega))
        have HKE := hide (kq HKC.out hK3)
        have HL3 := hide hL3
        clear hr2 hs2 hL3 hK3 hLb
        go_wp2_with fail
        go_ret
        exact .inl ⟨acc ++ [a], r2, _, HE.out, rfl, HAS.out, HL3.out, HKE.out⟩
      · have HST := hide (HFR1.out.step HPT.out hs2)
        have HLB := hide hLb
        clear hs2 hLb
        go_wp2_with fail
        go_roundg (gk - 1)
        case measure => omega
        case rel => exact ⟨m1, r1, acc ++ [a], by omega, by omega, by omega, by simp; omega, HLB.out, HKC.out, HOW2.out, HST⟩
    · have HE := hide (show pArgs r.length r = none from HFR.out.bad hp)
      clear hp
      go_wp2_with fail
      exact ⟨rfl, .inr ⟨HE.out, rfl, kq hKr hK1⟩⟩

end Go.Proofs.YtkkjchfhgjfclaaGreatDoor
