import Derived.Test.YtkkjchfhgjfclabGreatDoorSchematells18
import Derived.Test.YtkkjchfhgjfclabGreatDoorSchematells09
import Derived.Test.YtkkjchfhgjfclabGreatDoorSchematells06
import Derived.Test.YtkkjchfhgjfclabGreatDoorSchematells17
import Derived.Test.YtkkjchfhgjfclabGreatDoorSchematells11
import Derived.Maps.AppendAt
/- tokens.Sign. -/
namespace Go.Proofs.YtkkjchfhgjfclabGreatDoor
open Go.RowKit

theorem tkSign_any (w : World) (s : ByteArray) :
    Calls Tryz.prog 59 #[.string s] w fun e w' => e = .returned (.agg #[.int .i64 4, .string s, .int .i64 0]) ∧ Same w w' := by
  go_enter Tryz.func59, Tryz.ntmps59
  go_wp2_with fail
  refine bodyPost_ret (v := .agg #[.int .i64 4, .string s, .int .i64 0]) (by simp [results, Tryz.results59, go_sem]) rfl ⟨rfl, (by repeat' (first | assumption | exact Kept.refl _ _ | refine Kept.drewN ?_ _ | refine Kept.drew ?_ | refine Kept.alloc ?_ _ | refine Kept.setB ?_ _ _))⟩

end Go.Proofs.YtkkjchfhgjfclabGreatDoor

/- Reading a schema's fields off tokens, case by case. No program is named here. -/
namespace Go.Proofs.YtkkjchfhgjfclabGreatDoor

theorem pField_none1 {r : List Tok} (h : ∀ t r', r = t :: r' → t.k ≠ 1) : pField r = none := by
  match r with
  | [] => rfl
  | [_] => rfl
  | a :: b :: r => rw [pField, if_neg (fun e => h a (b :: r) rfl e.1)]
theorem isS_of {c : UInt8} {t : Tok} {r : List Tok} : isS c (t :: r) = true ↔ t.k = 4 ∧ t.s = [c] := by simp [isS]
theorem pField_none2 {a : Tok} {r : List Tok} (h : isS 58 r = false) : pField (a :: r) = none := by
  cases r with
  | nil => rfl
  | cons b r => rw [pField, if_neg (fun e => by rw [isS_of.2 e.2] at h; cases h)]
theorem pField_some {a b : Tok} {r : List Tok} (h : a.k = 1) (h2 : isS 58 (b :: r) = true) : pField (a :: b :: r) = (pKind r).map (fun x => (⟨a.s, x.1.1, x.1.2⟩, x.2)) := by
  rw [pField, if_pos ⟨h, isS_of.1 h2⟩]
theorem pKind_many {a b c : Tok} {r : List Tok} (h : isS 91 (a :: b :: c :: r) = true) (hb : b.k = 1) (hc : isS 93 (c :: r) = true) : pKind (a :: b :: c :: r) = some ((4, b.s), r) := by
  unfold pKind
  dsimp only
  rw [if_pos h, if_pos ⟨hb, isS_of.1 hc⟩]
theorem pKind_many1 {a : Tok} {r : List Tok} (h : isS 91 (a :: r) = true) (hb : ∀ t r', r = t :: r' → t.k ≠ 1) : pKind (a :: r) = none := by
  unfold pKind
  dsimp only
  rw [if_pos h]
  match r with
  | [] => rfl
  | [_] => rfl
  | b :: c :: r => exact if_neg (fun e => hb b (c :: r) rfl e.1)
theorem pKind_many2 {a b : Tok} {r : List Tok} (h : isS 91 (a :: b :: r) = true) (hc : isS 93 r = false) : pKind (a :: b :: r) = none := by
  unfold pKind
  dsimp only
  rw [if_pos h]
  match r with
  | [] => rfl
  | c :: r => exact if_neg (fun e => by rw [isS_of.2 e.2] at hc; cases hc)
theorem pKind_one {a : Tok} {r : List Tok} (h : isS 91 (a :: r) = false) (ha : a.k = 1) : pKind (a :: r) = some ((if a.s = bNumber then (1, []) else if a.s = bText then (2, []) else (3, a.s)), r) := by
  unfold pKind
  dsimp only
  rw [if_neg (by rw [h]; simp), if_pos ha]
theorem pKind_not {r : List Tok} (h : isS 91 r = false) (hb : ∀ t r', r = t :: r' → t.k ≠ 1) : pKind r = none := by
  cases r with
  | nil => rfl
  | cons a r =>
    unfold pKind
    dsimp only
    rw [if_neg (by rw [h]; simp), if_neg (hb a r rfl)]

end Go.Proofs.YtkkjchfhgjfclabGreatDoor

/- Read of a text that is right, and of one that is not. -/
namespace Go.Proofs.YtkkjchfhgjfclabGreatDoor
open Go.RowKit

/-- Read of a text that is right. -/
theorem read_ok (w : World) (s : ByteArray) (T : List Tok) (h : lexRead s.data.toList = .ok T) (hT : T.length ≤ 9000000000000) :
    Calls Tryz.prog 23 #[.string s] w fun e w' => ∃ v, e = .returned (.tuple #[v, .int .i64 0]) ∧ TokSl w' v T ∧ Same w w' := by
  refine (read_any w s).mono ?_
  rintro e w' (⟨T', v, h1, rfl, h2, h3⟩ | ⟨n, h1, _, rfl, h3⟩)
  · rw [h] at h1
    cases h1
    exact ⟨v, rfl, own_toks h2 hT, h3⟩
  · rw [h] at h1; cases h1
theorem read_bad (w : World) (s : ByteArray) (n : Int) (h : lexRead s.data.toList = .error n) :
    Calls Tryz.prog 23 #[.string s] w fun e w' => e = .returned (.tuple #[.slice none 0 0, .int .i64 n]) ∧ Same w w' ∧ n ≠ 0 := by
  refine (read_any w s).mono ?_
  rintro e w' (⟨T', v, h1, rfl, h2, h3⟩ | ⟨n', h1, h2, rfl, h3⟩)
  · rw [h] at h1; cases h1
  · rw [h] at h1
    cases h1
    exact ⟨rfl, h3, h2⟩

end Go.Proofs.YtkkjchfhgjfclabGreatDoor

/- What the readers of queries and of schemas both want. -/
namespace Go.Proofs.YtkkjchfhgjfclabGreatDoor
open Go.RowKit

theorem fld_text (k n : Int) (s : ByteArray) (w : World) : (Instr.field 65 (.agg #[.int .i64 k, .string s, .int .i64 n]) 1).run Tryz.prog w = .ok (.string s) w := by kernel_rfl

/-- a result of three cells, put into its block at the end -/
theorem put3 {w w1 : World} {q g : Nat} {r : List Tok} {a b c : Value} {t : TypeId} (hL : LineAt w1 q r) (hK : Kept (· = q) w w1) (hg : w1.heap[g]? = some (.cells #[a, b, c] t (0, 0))) (hq : q < g) (hw : w.heap.size ≤ g) :
    (∀ x y z, LineAt (((w1.setCell ⟨g, 0, none⟩ x).setCell ⟨g, 1, none⟩ y).setCell ⟨g, 2, none⟩ z) q r ∧ Kept (· = q) w (((w1.setCell ⟨g, 0, none⟩ x).setCell ⟨g, 1, none⟩ y).setCell ⟨g, 2, none⟩ z)) ∧
    w1.cell? ⟨g, 0, none⟩ = some a ∧ w1.cell? ⟨g, 1, none⟩ = some b ∧ w1.cell? ⟨g, 2, none⟩ = some c ∧ ∀ o, w1.frozen? ⟨g, o, none⟩ = false := by
  refine ⟨fun x y z => ?_, by simp [World.cell?, hg], by simp [World.cell?, hg], by simp [World.cell?, hg], fun o => by simp [World.frozen?, hg]⟩
  have hKK : Kept (· = g) w1 (((w1.setCell ⟨g, 0, none⟩ x).setCell ⟨g, 1, none⟩ y).setCell ⟨g, 2, none⟩ z) := ((((Kept.refl _ _).setB 0 x).setB 1 y).setB 2 z)
  exact ⟨hL.after hKK (by intro k hk; omega), hK.trans hKK (fun i hi e => by omega)⟩

/-- a result of two cells, put into its block at the end -/
theorem put2 {w w1 : World} {q g : Nat} {r : List Tok} {a b : Value} {t : TypeId} (hL : LineAt w1 q r) (hK : Kept (· = q) w w1) (hg : w1.heap[g]? = some (.cells #[a, b] t (0, 0))) (hq : q < g) (hw : w.heap.size ≤ g) :
    (∀ x y, LineAt ((w1.setCell ⟨g, 0, none⟩ x).setCell ⟨g, 1, none⟩ y) q r ∧ Kept (· = q) w ((w1.setCell ⟨g, 0, none⟩ x).setCell ⟨g, 1, none⟩ y) ∧ Kept (· = g) w1 ((w1.setCell ⟨g, 0, none⟩ x).setCell ⟨g, 1, none⟩ y)) ∧
    w1.cell? ⟨g, 0, none⟩ = some a ∧ w1.cell? ⟨g, 1, none⟩ = some b ∧ ∀ o, w1.frozen? ⟨g, o, none⟩ = false := by
  refine ⟨fun x y => ?_, by simp [World.cell?, hg], by simp [World.cell?, hg], fun o => by simp [World.frozen?, hg]⟩
  have hKK : Kept (· = g) w1 ((w1.setCell ⟨g, 0, none⟩ x).setCell ⟨g, 1, none⟩ y) := (((Kept.refl _ _).setB 0 x).setB 1 y)
  exact ⟨hL.after hKK (by intro k hk; omega), hK.trans hKK (fun i hi e => by omega), hKK⟩

/-- Read of a text that is right, and how long its row is -/
theorem read_cap (w : World) (s : ByteArray) (T : List Tok) (h : lexRead s.data.toList = .ok T) (hT : T.length ≤ 300) :
    Calls Tryz.prog 23 #[.string s] w fun e w' => ∃ ao cap, e = .returned (.tuple #[.slice ao T.length cap, .int .i64 0]) ∧ T.length ≤ cap ∧ TokSl w' (.slice ao T.length cap) T ∧ Same w w' := by
  refine (read_any w s).mono ?_
  rintro e w' (⟨T', v, h1, rfl, h2, h3⟩ | ⟨n, h1, _, rfl, h3⟩)
  · rw [h] at h1
    cases h1
    have ht := own_toks h2 (by omega)
    rcases h2.2 with ⟨rfl, h0⟩ | ⟨g, cap, cur, rfl, hg, hb, hc1, _⟩
    · rw [h0] at *
      exact ⟨none, 0, rfl, Nat.le_refl _, ht, h3⟩
    · exact ⟨_, cap, rfl, hc1, ht, h3⟩
  · rw [h] at h1; cases h1
end Go.Proofs.YtkkjchfhgjfclabGreatDoor

/- schema.Read: its parts. -/
namespace Go.Proofs.YtkkjchfhgjfclabGreatDoor
open Go.RowKit

set_option maxRecDepth 20000 in
theorem word_any (w : World) (q : Nat) (r : List Tok) (s : List UInt8) (h : LineAt w q r) :
    Calls Tryz.prog 105 #[.pointer (some ⟨q, 0, none⟩), .string ⟨s.toArray⟩] w fun e w' =>
      (∃ t r', r = t :: r' ∧ (t.k = 1 ∧ t.s = s) ∧ e = .returned (.tuple #[]) ∧ LineAt w' q r' ∧ Kept (· = q) w w') ∨ ((∀ t r', r = t :: r' → ¬ (t.k = 1 ∧ t.s = s)) ∧ e = fault 1 ∧ Kept (· = q) w w') := by
  have HT := hide (take1_any w q r h)
  have hfl := fld_text
  clear h
  go_enter Tryz.func105, Tryz.ntmps105
  go_wp2_with fail
  refine HT.out.mono ?_
  rintro e w1 (⟨t, r', hr, hk, rfl, hL, hK⟩ | ⟨hr, rfl, hK⟩)
  · have HR := hide hr
    have HKI := hide hk
    clear hr hk
    by_cases hs : t.s = s
    · have hs' : (t.s == s) = true := by simp [hs]
      have HS := hide hs
      clear hs
      go_wp2_with fail
      go_end0
      exact .inl ⟨t, r', HR.out, ⟨HKI.out, HS.out⟩, rfl, hL, hK⟩
    · have hs' : (t.s == s) = false := by simp [hs]
      have HS := hide hs
      clear hs
      go_wp2_with fail
      refine ⟨rfl, .inr ⟨fun u r2 e h => ?_, rfl, hK⟩⟩
      rw [HR.out] at e
      cases e
      exact HS.out h.2
  · have HR := hide hr
    clear hr
    go_wp2_with fail
    exact ⟨rfl, .inr ⟨fun t r' e h => HR.out t r' e h.1, rfl, hK⟩⟩


end Go.Proofs.YtkkjchfhgjfclabGreatDoor

/- schema.readField, whatever comes. -/
namespace Go.Proofs.YtkkjchfhgjfclabGreatDoor
open Go.RowKit

set_option maxRecDepth 20000 in
set_option maxHeartbeats 1000000 in
theorem readField_any (w : World) (q : Nat) (r : List Tok) (h : LineAt w q r) :
    Calls Tryz.prog 107 #[.pointer (some ⟨q, 0, none⟩)] w fun e w' =>
      (∃ f r', pField r = some (f, r') ∧ e = .returned (.agg #[.string ⟨f.name.toArray⟩, .int .i64 f.kind, .string ⟨f.of.toArray⟩]) ∧ LineAt w' q r' ∧ Kept (· = q) w w')
      ∨ (pField r = none ∧ e = fault 1 ∧ Kept (· = q) w w') := by
  have hq := h.lt
  have hqn : q ≠ w.heap.size := by omega
  have HA := hide (h.same ((Kept.refl _ w).alloc (.cells #[.string ⟨#[]⟩, .int .i64 0, .string ⟨#[]⟩] 40)))
  have ht := take1_any _ q r HA.out
  simp only [World.size_alloc] at ht
  have HT := hide ht
  clear ht
  have HK0 := hide (show Kept (· = q) w (w.alloc (.cells #[.string ⟨#[]⟩, .int .i64 0, .string ⟨#[]⟩] 40)) from (Kept.refl _ w).alloc _)
  have HB0 := hide (heap_alloc_new w (.cells #[.string ⟨#[]⟩, .int .i64 0, .string ⟨#[]⟩] 40))
  have hfl := fld_text
  clear h
  go_enter Tryz.func107, Tryz.ntmps107
  go_wp2_with fail
  refine HT.out.mono ?_
  rintro e w1 (⟨a, r1, hr1, ha, rfl, hL1, hK1⟩ | ⟨hr1, rfl, hK1⟩)
  · have HR1 := hide hr1
    have HA1 := hide ha
    have HK1 := hide (kq HK0.out hK1)
    have HB1 := hide (blk_kept HB0.out hK1 hqn.symm)
    clear hr1 ha hK1 HT HA HK0 HB0
    go_wp2_with fail
    refine (sign_any _ q r1 58 hL1).mono ?_
    rintro e w2 (⟨b, r2, hr2, hs2, rfl, hL2, hK2⟩ | ⟨hs2, rfl, hK2⟩)
    · have HR2 := hide hr2
      have HS2 := hide hs2
      have HK2 := hide (kq HK1.out hK2)
      have HB2 := hide (blk_kept HB1.out hK2 hqn.symm)
      have HP := hide (show pField r = (pKind r2).map (fun x => (⟨a.s, x.1.1, x.1.2⟩, x.2)) by
        rw [HR1.out, HR2.out]
        exact pField_some HA1.out (by rw [← HR2.out]; exact HS2.out))
      clear hr2 hs2 hK2 HR2 HS2 HR1 HA1 HK1 HB1 hL1
      go_wp2_with fail
      refine (skip_any _ q r2 91 hL2).mono ?_
      rintro e w3 (⟨c, r3, hr3, hs3, rfl, hL3, hK3⟩ | ⟨hs3, rfl, rfl⟩)
      · have HR3 := hide hr3
        have HS3 := hide hs3
        have HK3 := hide (kq HK2.out hK3)
        have HB3 := hide (blk_kept HB2.out hK3 hqn.symm)
        clear hr3 hs3 hK3 HK2 HB2 hL2
        go_wp2_with fail
        refine (take1_any _ q r3 hL3).mono ?_
        rintro e w4 (⟨d, r4, hr4, hd, rfl, hL4, hK4⟩ | ⟨hr4, rfl, hK4⟩)
        · have HR4 := hide hr4
          have HD := hide hd
          have HK4 := hide (kq HK3.out hK4)
          have HB4 := hide (blk_kept HB3.out hK4 hqn.symm)
          clear hr4 hd hK4 HK3 HB3 hL3
          go_wp2_with fail
          refine (sign_any _ q r4 93 hL4).mono ?_
          rintro e w5 (⟨x, r5, hr5, hs5, rfl, hL5, hK5⟩ | ⟨hs5, rfl, hK5⟩)
          · have HE := hide (show pField r = some (⟨a.s, 4, d.s⟩, r5) by
              have e1 := HR3.out; have e2 := HR4.out; have e4 := HS3.out
              subst hr5
              subst e2
              subst e1
              rw [HP.out, pKind_many e4 HD.out hs5]
              rfl)
            obtain ⟨hput, n0, n1, n2, nf⟩ := put3 hL5 (kq HK4.out hK5) (blk_kept HB4.out hK5 hqn.symm) hq (Nat.le_refl _)
            have HPUT := hide hput
            have hw5 : w.heap.size < w5.heap.size := World.block_lt_of_cell? w5 _ n0
            clear hr5 hs5 hK5 HK4 HB4 hL4 hL5 hput HP HR3 HS3 HR4 HD
            go_wp2_with fail
            refine bodyPost_ret (v := .agg #[.string ⟨a.s.toArray⟩, .int .i64 4, .string ⟨d.s.toArray⟩]) (by simp [results, Tryz.results107, go_sem, n0, n1, n2]) rfl (.inl ⟨⟨a.s, 4, d.s⟩, r5, HE.out, rfl, ?_⟩)
            exact HPUT.out _ _ _
          · have HE := hide (show pField r = none by
              have e1 := HR3.out; have e2 := HR4.out; have e4 := HS3.out
              subst e2
              subst e1
              rw [HP.out, pKind_many2 e4 hs5]
              rfl)
            clear hs5
            go_wp2_with fail
            exact ⟨rfl, .inr ⟨HE.out, rfl, kq HK4.out hK5⟩⟩
        · have HE := hide (show pField r = none by
            have e1 := HR3.out; have e4 := HS3.out
            subst e1
            rw [HP.out, pKind_many1 e4 hr4]
            rfl)
          clear hr4
          go_wp2_with fail
          exact ⟨rfl, .inr ⟨HE.out, rfl, kq HK3.out hK4⟩⟩
      · have HS3 := hide hs3
        clear hs3
        go_wp2_with fail
        refine (take1_any _ q r2 hL2).mono ?_
        rintro e w4 (⟨d, r4, hr4, hd, rfl, hL4, hK4⟩ | ⟨hr4, rfl, hK4⟩)
        · have HE := hide (show pField r = some (⟨a.s, (if d.s = bNumber then ((1 : Int), ([] : List UInt8)) else if d.s = bText then (2, []) else (3, d.s)).1, (if d.s = bNumber then ((1 : Int), ([] : List UInt8)) else if d.s = bText then (2, []) else (3, d.s)).2⟩, r4) by
            have e1 := hr4; have e4 := HS3.out
            subst e1
            rw [HP.out, pKind_one e4 hd]
            rfl)
          obtain ⟨hput, n0, n1, n2, nf⟩ := put3 hL4 (kq HK2.out hK4) (blk_kept HB2.out hK4 hqn.symm) hq (Nat.le_refl _)
          have HPUT := hide hput
          have hw4 : w.heap.size < w4.heap.size := World.block_lt_of_cell? w4 _ n0
          clear hr4 hd hK4 HK2 HB2 hL2 hL4 hput HP HS3
          by_cases hn : d.s = bNumber
          · have HE2 := hide (show pField r = some (⟨a.s, 1, []⟩, r4) by rw [HE.out, if_pos hn])
            rw [hn]
            clear hn HE
            go_wp2_with fail
            refine bodyPost_ret (v := .agg #[.string ⟨a.s.toArray⟩, .int .i64 1, .string ⟨#[]⟩]) (by simp [results, Tryz.results107, go_sem, n0, n1, n2]) rfl (.inl ⟨⟨a.s, 1, []⟩, r4, HE2.out, rfl, ?_⟩)
            exact HPUT.out _ _ _
          · have hn' : (d.s == [78, 117, 109, 98, 101, 114]) = false := by simpa using hn
            by_cases ht : d.s = bText
            · have HE2 := hide (show pField r = some (⟨a.s, 2, []⟩, r4) by rw [HE.out, if_neg hn, if_pos ht])
              rw [ht]
              clear hn hn' ht HE
              go_wp2_with fail
              refine bodyPost_ret (v := .agg #[.string ⟨a.s.toArray⟩, .int .i64 2, .string ⟨#[]⟩]) (by simp [results, Tryz.results107, go_sem, n0, n1, n2]) rfl (.inl ⟨⟨a.s, 2, []⟩, r4, HE2.out, rfl, ?_⟩)
              exact HPUT.out _ _ _
            · have ht' : (d.s == [84, 101, 120, 116]) = false := by simpa using ht
              have HE2 := hide (show pField r = some (⟨a.s, 3, d.s⟩, r4) by rw [HE.out, if_neg hn, if_neg ht])
              clear hn ht HE
              go_wp2_with fail
              refine bodyPost_ret (v := .agg #[.string ⟨a.s.toArray⟩, .int .i64 3, .string ⟨d.s.toArray⟩]) (by simp [results, Tryz.results107, go_sem, n0, n1, n2]) rfl (.inl ⟨⟨a.s, 3, d.s⟩, r4, HE2.out, rfl, ?_⟩)
              exact HPUT.out _ _ _
        · have HE := hide (show pField r = none by rw [HP.out, pKind_not HS3.out hr4]; rfl)
          clear hr4
          go_wp2_with fail
          exact ⟨rfl, .inr ⟨HE.out, rfl, kq HK2.out hK4⟩⟩
    · have HE := hide (show pField r = none by rw [HR1.out, pField_none2 hs2])
      clear hs2
      go_wp2_with fail
      exact ⟨rfl, .inr ⟨HE.out, rfl, kq HK1.out hK2⟩⟩
  · have HE := hide (show pField r = none from pField_none1 hr1)
    clear hr1
    go_wp2_with fail
    exact ⟨rfl, .inr ⟨HE.out, rfl, kq HK0.out hK1⟩⟩

end Go.Proofs.YtkkjchfhgjfclabGreatDoor

/- schema.readType, whatever comes. -/
namespace Go.Proofs.YtkkjchfhgjfclabGreatDoor
open Go.RowKit

theorem pField_len {r r' : List Tok} {f : FieldT} (h : pField r = some (f, r')) : r'.length + 3 ≤ r.length := by
  match r, h with
  | a :: b :: r, h =>
    rw [pField] at h
    split at h
    · cases hk : pKind r with
      | none => rw [hk] at h; cases h
      | some x =>
        rw [hk] at h
        cases h
        have : x.2.length + 1 ≤ r.length := by
          cases r with
          | nil => cases hk
          | cons a r =>
            unfold pKind at hk
            dsimp only at hk
            split at hk
            · match r, hk with
              | b :: c :: r, hk =>
                dsimp only at hk
                split at hk
                · cases hk; simp
                · cases hk
              | [], hk => cases hk
              | [_], hk => cases hk
            · split at hk
              · cases hk; simp
              · cases hk
        simp; omega
    · cases h
  | [], h => cases h
  | [_], h => cases h

/-- how far the fields have been read: acc are read, rj is next -/
def fRel (r0 : List Tok) (g : Nat) (rj : List Tok) (acc : List FieldT) : Prop := pFields r0.length r0 = (pFields g rj).map (fun x => (acc ++ x.1, x.2))
theorem fRel.start (r0 : List Tok) : fRel r0 r0.length r0 [] := by
  unfold fRel
  cases pFields r0.length r0 <;> simp
theorem fRel.bad {r0 rj : List Tok} {g : Nat} {acc : List FieldT} (h : fRel r0 g rj acc) (hp : pField rj = none) : pFields r0.length r0 = none := by
  rw [h]
  cases g with
  | zero => rfl
  | succ g => rw [pFields, hp]; rfl
theorem fRel.last {r0 rj r1 : List Tok} {g : Nat} {acc : List FieldT} {f : FieldT} (h : fRel r0 (g + 1) rj acc) (hp : pField rj = some (f, r1)) (hs : isS 125 r1 = true) : pFields r0.length r0 = some (acc ++ [f], r1.tail) := by
  rw [h, pFields, hp]
  simp only [hs, if_true, Option.map_some]
theorem fRel.step {r0 rj r1 : List Tok} {g : Nat} {acc : List FieldT} {f : FieldT} (h : fRel r0 (g + 1) rj acc) (hp : pField rj = some (f, r1)) (hs : isS 125 r1 = false) : fRel r0 g r1 (acc ++ [f]) := by
  unfold fRel
  rw [h, pFields, hp]
  simp only [hs]
  cases pFields g r1 <;> simp

theorem enters_readField (args : Array Value) (w : World) : (callFunc 107 args).run Tryz.prog w = .ok (.enter 107 args) w := by kernel_rfl

theorem readField_ok (w : World) (q : Nat) (r r' : List Tok) (f : FieldT) (h : LineAt w q r) (hp : pField r = some (f, r')) :
    Calls Tryz.prog 107 #[.pointer (some ⟨q, 0, none⟩)] w fun e w' => e = .returned (.agg #[.string ⟨f.name.toArray⟩, .int .i64 f.kind, .string ⟨f.of.toArray⟩]) ∧ LineAt w' q r' ∧ Kept (· = q) w w' := by
  refine (readField_any w q r h).mono ?_
  rintro e w' (⟨f', r2, h1, h2, h3, h4⟩ | ⟨h1, _, _⟩)
  · rw [hp] at h1; cases h1; exact ⟨h2, h3, h4⟩
  · rw [hp] at h1; cases h1
theorem readField_no (w : World) (q : Nat) (r : List Tok) (h : LineAt w q r) (hp : pField r = none) :
    Calls Tryz.prog 107 #[.pointer (some ⟨q, 0, none⟩)] w fun e w' => e = fault 1 ∧ Kept (· = q) w w' := by
  refine (readField_any w q r h).mono ?_
  rintro e w' (⟨f', r2, h1, h2, h3, h4⟩ | ⟨_, h2, h3⟩)
  · rw [hp] at h1; cases h1
  · exact ⟨h2, h3⟩

theorem pType_none1 {r : List Tok} (h : ∀ t r', r = t :: r' → ¬ (t.k = 1 ∧ t.s = bType)) : pType r = none := by
  match r with
  | [] => rfl
  | [_] => rfl
  | [_, _] => rfl
  | a :: b :: c :: r => rw [pType, if_neg (fun e => h a _ rfl e.1)]
theorem pType_none2 {a : Tok} {r : List Tok} (h : ∀ t r', r = t :: r' → t.k ≠ 1) : pType (a :: r) = none := by
  match r with
  | [] => rfl
  | [_] => rfl
  | b :: c :: r => rw [pType, if_neg (fun e => h b _ rfl e.2.1)]
theorem pType_none3 {a b : Tok} {r : List Tok} (h : isS 123 r = false) : pType (a :: b :: r) = none := by
  match r with
  | [] => rfl
  | c :: r => rw [pType, if_neg (fun e => by rw [isS_of.2 e.2.2] at h; cases h)]
theorem pType_some {a b c : Tok} {r : List Tok} (h1 : a.k = 1 ∧ a.s = bType) (h2 : b.k = 1) (h3 : isS 123 (c :: r) = true) : pType (a :: b :: c :: r) = (pFields r.length r).map (fun x => (⟨b.s, x.1⟩, x.2)) := by
  rw [pType, if_pos ⟨h1, h2, isS_of.1 h3⟩]

end Go.Proofs.YtkkjchfhgjfclabGreatDoor
