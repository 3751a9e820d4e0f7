import Derived.Test.YtkkjchfhgjfclabGreatDoorSchematells12
import Derived.Test.YtkkjchfhgjfclabGreatDoorSchematells21
import Derived.Test.YtkkjchfhgjfclabGreatDoorSchematells19
import Derived.Maps.AppendAt
import Derived.Deep.DeepCutAuto
/- parse.Caught of a function literal that captures two variables. -/
namespace Go.Proofs.YtkkjchfhgjfclabGreatDoor
open Go.RowKit

/-- Caught, of a function literal: what it gave up with, or 0. -/
theorem caught_closure (f : FuncId) (x y : Value) (w : World) (X : Nat → Prop) (hX : ∀ i, X i → i < w.heap.size) (R : World → Prop) (S : Int → World → Prop)
    (hcf : ∀ (args : Array Value) (w : World), (callFunc f args).run Tryz.prog w = .ok (.enter f args) w)
    (hW : Hid (Calls Tryz.prog f #[x, y] (w.alloc (.cells #[.int .i64 0] 24)) fun e w' =>
      (e = .returned (.tuple #[]) ∧ R w' ∧ Kept X (w.alloc (.cells #[.int .i64 0] 24)) w') ∨ (∃ n, e = fault n ∧ S n w' ∧ Kept X (w.alloc (.cells #[.int .i64 0] 24)) w'))) :
    Calls Tryz.prog 30 #[.func (.func f) #[] #[x, y]] w fun e w' =>
      (∃ w1, e = .returned (.int .i64 0) ∧ R w1 ∧ Kept X (w.alloc (.cells #[.int .i64 0] 24)) w1 ∧ w' = w1.setCell ⟨w.heap.size, 0, none⟩ (.int .i64 0))
      ∨ (∃ n w1, e = .returned (.int .i64 n) ∧ S n w1 ∧ Kept X (w.alloc (.cells #[.int .i64 0] 24)) w1 ∧ w' = w1.setCell ⟨w.heap.size, 0, none⟩ (.int .i64 n)) := by
  have hmf : ∀ (fn : Fn) (first cap : Array Value) (w : World), (Instr.makeFunc fn first cap).run Tryz.prog w = .ok (.func fn first cap) w := fun _ _ _ _ => rfl
  go_enter_defers Tryz.func30, Tryz.ntmps30
  go_wp2_with fail
  refine hW.out.mono ?_
  rintro e w1 (⟨rfl, hR, hK⟩ | ⟨n, rfl, hS, hK⟩)
  · have hg := new_kept (w := w) hK (fun h => Nat.lt_irrefl _ (hX _ h))
    have c0 : w1.cell? ⟨w.heap.size, 0, none⟩ = some (.int .i64 0) := by simp [World.cell?, hg]
    have f0 : w1.frozen? ⟨w.heap.size, 0, none⟩ = false := by simp [World.frozen?, hg]
    go_wp2_with fail
    refine leaves_cons (f := 63) (args := #[.pointer (some ⟨w.heap.size, 0, none⟩)]) (by simp) (by simp [go_sem]) ?_
    refine (catch_idle ⟨w.heap.size, 0, none⟩ _).mono ?_
    rintro e u' w'' ⟨rfl, rfl, rfl⟩
    have c1 := World.cell?_setCell_same w1 ⟨w.heap.size, 0, none⟩ (.int .i64 0) c0
    simp only [Leaves, settle, results, Tryz.results30]
    exact ⟨.int .i64 0, by simp [go_sem, c1], .inl ⟨w1, rfl, hR, hK, rfl⟩⟩
  · have hg := new_kept (w := w) hK (fun h => Nat.lt_irrefl _ (hX _ h))
    have c0 : w1.cell? ⟨w.heap.size, 0, none⟩ = some (.int .i64 0) := by simp [World.cell?, hg]
    have f0 : w1.frozen? ⟨w.heap.size, 0, none⟩ = false := by simp [World.frozen?, hg]
    go_wp2_with fail
    refine leaves_cons (f := 63) (args := #[.pointer (some ⟨w.heap.size, 0, none⟩)]) (by simp) (by simp [go_sem]) ?_
    refine (catch_fault ⟨w.heap.size, 0, none⟩ 0 n [] _ c0 f0).mono ?_
    rintro e u' w'' ⟨rfl, rfl, rfl⟩
    have c1 := World.cell?_setCell_same w1 ⟨w.heap.size, 0, none⟩ (.int .i64 n) c0
    simp only []
    rw [show settle (FrameMode.panicking [{ v := Value.iface 108 (.int .i64 n), recovered := true }]) = FrameMode.returning from rfl]
    simp only [Leaves, results, Tryz.results30]
    exact ⟨.int .i64 n, by simp [go_sem, c1], .inr ⟨n, w1, rfl, hS, hK, rfl⟩⟩

end Go.Proofs.YtkkjchfhgjfclabGreatDoor

/- schema.Read, whatever it is handed. -/
namespace Go.Proofs.YtkkjchfhgjfclabGreatDoor
open Go.RowKit

set_option maxRecDepth 20000 in
theorem scRead1_any (w : World) (c1 c2 : Nat) (ao : Option Addr) (cap : Nat) (T : List Tok) (hT : T.length ≤ 300) (hcap : T.length ≤ cap) (ht : TokSl w (.slice ao T.length cap) T)
    (h1 : w.heap[c1]? = some (.cells #[.slice ao T.length cap] 29 (0, 0))) (h2 : w.heap[c2]? = some (.cells #[.slice none 0 0] 34 (0, 0))) :
    Calls Tryz.prog 40 #[.pointer (some ⟨c1, 0, none⟩), .pointer (some ⟨c2, 0, none⟩)] w fun e w' =>
      (∃ l v, pTypes T.length T = some l ∧ e = .returned (.tuple #[]) ∧ w'.heap[c2]? = some (.cells #[v] 34 (0, 0)) ∧ TypSl (fun b => w.heap.size ≤ b) w' v l ∧ Kept (· = c2) w w')
      ∨ (pTypes T.length T = none ∧ e = fault 1 ∧ Kept (· = c2) w w') := by
  obtain ⟨d1, _⟩ := blk1 h1
  have HL := hide (newLine_any w _ T ht (fun a n c e => by cases e; exact hcap))
  have H2 := hide h2
  have hc2 : c2 < w.heap.size := (Array.getElem?_eq_some_iff.1 h2).1
  clear ht h1 h2
  go_enter Tryz.func40, Tryz.ntmps40
  go_wp2_with fail
  refine HL.out.mono ?_
  rintro e w1 ⟨rfl, hL1, hK1, hs1⟩
  have HS1 := hide hs1
  have HR := hide (readTypes_any w1 w.heap.size T hL1 hT)
  have H21 := hide (blk_kept H2.out hK1 (fun f => f))
  clear hL1 hs1
  go_wp2_with fail
  refine HR.out.mono ?_
  rintro e w2 (⟨l, v, hp, rfl, hv, hK2⟩ | ⟨hp, rfl, hK2⟩)
  · have HP := hide hp
    have hK3 : Same w w2 := hK1.trans hK2 (fun k hk e => by omega)
    have hB2 := blk_kept H21.out hK2 (show ¬ c2 = w.heap.size by omega)
    obtain ⟨e2, f2⟩ := blk1 hB2
    obtain ⟨av, cv, rfl, _, _⟩ := id hv
    have HV := hide (hv.mono (Q := fun b => w.heap.size ≤ b) (fun b _ hb => by have := HS1.out; omega))
    have hS : Kept (· = c2) w2 (w2.setCell ⟨c2, 0, none⟩ (.slice av l.length cv)) := (Kept.refl _ w2).setB 0 _
    have HX := hide (And.intro (show (w2.setCell ⟨c2, 0, none⟩ (.slice av l.length cv)).heap[c2]? = some (.cells #[.slice av l.length cv] 34 (0, 0)) by simp [World.setCell, Array.getElem?_modify, hB2]) (And.intro (HV.out.keep hS (fun b hb e => by omega)) (show Kept (· = c2) w (w2.setCell ⟨c2, 0, none⟩ (.slice av l.length cv)) from hK3.to.trans hS (fun _ _ e => e))))
    clear hp hv hB2 hS hK2 hK3
    go_wp2_with fail
    go_end0
    exact .inl ⟨l, _, HP.out, rfl, HX.out⟩
  · have HP := hide hp
    clear hp
    go_wp2_with fail
    exact ⟨rfl, .inr ⟨HP.out, rfl, Same.to (hK1.trans hK2 (fun k hk e => by omega))⟩⟩

theorem enters_scRead1 (args : Array Value) (w : World) : (callFunc 40 args).run Tryz.prog w = .ok (.enter 40 args) w := by kernel_rfl

theorem readSc_err {l : List UInt8} {n : Int} (h : lexRead l = .error n) : readSc l = .error n := by rw [readSc, h]
theorem readSc_form {l : List UInt8} {T : List Tok} (h : lexRead l = .ok T) (hp : pTypes T.length T = none) : readSc l = .error 1 := by rw [readSc, h]; simp only [hp]
theorem readSc_bad {l : List UInt8} {T : List Tok} {s : List TypeT} {m : Int} (h : lexRead l = .ok T) (hp : pTypes T.length T = some s) (hm : checkSc s = m) (h0 : m ≠ 0) : readSc l = .error m := by
  rw [readSc, h]; simp only [hp, hm]; rw [if_pos h0]
theorem readSc_good {l : List UInt8} {T : List Tok} {s : List TypeT} (h : lexRead l = .ok T) (hp : pTypes T.length T = some s) (hm : checkSc s = 0) : readSc l = .ok s := by
  rw [readSc, h]; simp only [hp, hm]; rfl

set_option maxRecDepth 20000 in
set_option maxHeartbeats 1600000 in
theorem scRead_any (w : World) (s : ByteArray) :
    Calls Tryz.prog 16 #[.string s] w fun e w' =>
      (∃ l v, readSc s.data.toList = .ok l ∧ e = .returned (.tuple #[v, .int .i64 0]) ∧ TypSl (fun b => w.heap.size ≤ b) w' v l ∧ Same w w')
      ∨ (∃ n, readSc s.data.toList = .error n ∧ n ≠ 0 ∧ e = .returned (.tuple #[.slice none 0 0, .int .i64 n]) ∧ Same w w') := by
  have hmf : ∀ (fn : Fn) (first cap : Array Value) (w : World), (Instr.makeFunc fn first cap).run Tryz.prog w = .ok (.func fn first cap) w := fun _ _ _ _ => rfl
  cases hl : lexRead s.data.toList with
  | error n =>
    have HL := hide hl
    clear hl
    go_enter Tryz.func16, Tryz.ntmps16
    go_wp2_with fail
    refine (read_bad _ s n HL.out).mono ?_
    rintro e w1 ⟨rfl, hK1, hn⟩
    have hn' : (n != 0) = true := by simp [hn]
    have HN := hide hn
    clear hn
    go_wp2_with fail
    go_ret2
    exact .inr ⟨n, readSc_err HL.out, HN.out, rfl, hK1.alloc _⟩
  | ok T =>
    have hT := lexRead_len hl
    have HL := hide hl
    clear hl
    go_enter Tryz.func16, Tryz.ntmps16
    go_wp2_with fail
    refine (read_cap _ s T HL.out hT).mono ?_
    rintro e w1 ⟨ao, cap, rfl, hcap, htk, hK1⟩
    have hkk : Same w1 (((w1.alloc (.cells #[.slice ao T.length cap] 29)).alloc (.cells #[.slice none 0 0] 34)).alloc (.cells #[.int .i64 0] 24)) := (((Kept.refl _ w1).alloc _).alloc _).alloc _
    have hW := scRead1_any (((w1.alloc (.cells #[.slice ao T.length cap] 29)).alloc (.cells #[.slice none 0 0] 34)).alloc (.cells #[.int .i64 0] 24)) w1.heap.size (w1.heap.size + 1) ao cap T hT hcap (htk.same hkk)
      (by rw [Below.heap_alloc _ _ _ (by simp; omega), Below.heap_alloc _ _ _ (by simp)]; exact heap_alloc_new w1 _)
      (by rw [Below.heap_alloc _ _ _ (by simp)]; have := heap_alloc_new (w1.alloc (.cells #[.slice ao T.length cap] 29)) (.cells #[.slice none 0 0] 34); simpa using this)
    have HW := hide hW
    clear hW hkk htk
    go_wp2_with fail
    refine (caught_closure 40 (.pointer (some ⟨w1.heap.size, 0, none⟩)) (.pointer (some ⟨w1.heap.size + 1, 0, none⟩)) _ (· = w1.heap.size + 1) (by intro i hi; simp; omega)
      (fun w' => ∃ l v, pTypes T.length T = some l ∧ w'.heap[w1.heap.size + 1]? = some (.cells #[v] 34 (0, 0)) ∧ TypSl (fun b => w1.heap.size + 3 ≤ b) w' v l)
      (fun n _ => pTypes T.length T = none ∧ n = 1) enters_scRead1 (HW.out.mono ?_)).mono ?_
    · rintro e w' (⟨l, v, h1, h2, h3, h4, h5⟩ | ⟨h1, h2, h3⟩)
      · exact .inl ⟨h2, ⟨l, v, h1, h3, h4.mono (fun b _ hb => by simp at hb; omega)⟩, h5⟩
      · exact .inr ⟨1, h2, ⟨h1, rfl⟩, h3⟩
    · rintro e w' (⟨w2, rfl, ⟨l, v, h1, h3, h4⟩, h5, rfl⟩ | ⟨n, w2, rfl, ⟨h1, rfl⟩, h4, rfl⟩)
      · simp only [World.size_alloc]
        have hK2 : Same w1 w2 := (((Kept.refl (fun _ => False) w1).alloc _).alloc _).trans (Kept.unA h5) (fun i hi e => by have e2 : i = w1.heap.size + 1 := e; omega)
        have hS : Kept (· = w1.heap.size + 1 + 1) w2 (w2.setCell ⟨w1.heap.size + 1 + 1, 0, none⟩ (.int .i64 0)) := (Kept.refl _ w2).setB 0 _
        have hK3 : Same w1 (w2.setCell ⟨w1.heap.size + 1 + 1, 0, none⟩ (.int .i64 0)) := hK2.trans hS (fun i hi e => by omega)
        have hB3 := blk_kept h3 hS (by omega)
        have hT3 := h4.keep hS (fun b hb e => by omega)
        obtain ⟨av, cv, rfl, _, _⟩ := id hT3
        obtain ⟨e3, f3⟩ := blk1 hB3
        generalize w2.setCell ⟨w1.heap.size + 1 + 1, 0, none⟩ (.int .i64 0) = w3 at *
        obtain ⟨m, hm⟩ : ∃ m, checkSc l = m := ⟨_, rfl⟩
        have hck := scCheck_any w3 _ l _ hT3
        rw [hm] at hck
        have HCK := hide hck
        have HP := hide h1
        have HM := hide hm
        have HT3 := hide hT3
        have HK3 := hide (tra hK1 hK3)
        have HSZ := hide hK1.size
        have HB3 := hide hB3
        clear hck h1 hm hT3 h3 h4 h5 hK2 hS hK3 hB3 HW
        go_wp2_with fail
        refine HCK.out.mono ?_
        rintro e w4 ⟨rfl, hK4⟩
        obtain ⟨e4, f4⟩ := blk1 (blk_kept HB3.out hK4 (fun f => f))
        by_cases hm0 : m = 0
        · subst hm0
          go_wp2_with fail
          go_ret2
          exact .inl ⟨l, _, readSc_good HL.out HP.out HM.out, rfl, (HT3.out.same hK4).mono (fun b _ hb => by have := HSZ.out; omega), tra HK3.out hK4⟩
        · have hm1 : (m != 0) = true := by simp [hm0]
          have HM0 := hide hm0
          clear hm0
          go_wp2_with fail
          go_ret2
          exact .inr ⟨m, readSc_bad HL.out HP.out HM.out HM0.out, HM0.out, rfl, tra HK3.out hK4⟩
      · simp only [World.size_alloc]
        have hK2 : Same w1 w2 := (((Kept.refl (fun _ => False) w1).alloc _).alloc _).trans (Kept.unA h4) (fun i hi e => by have e2 : i = w1.heap.size + 1 := e; omega)
        have hS : Kept (· = w1.heap.size + 1 + 1) w2 (w2.setCell ⟨w1.heap.size + 1 + 1, 0, none⟩ (.int .i64 1)) := (Kept.refl _ w2).setB 0 _
        have hK3 : Same w1 (w2.setCell ⟨w1.heap.size + 1 + 1, 0, none⟩ (.int .i64 1)) := hK2.trans hS (fun i hi e => by omega)
        have HP := hide h1
        have HK3 := hide (tra hK1 hK3)
        generalize w2.setCell ⟨w1.heap.size + 1 + 1, 0, none⟩ (.int .i64 1) = w3 at *
        clear h1 h4 hK2 hS hK3 HW
        go_wp2_with fail
        go_ret2
        exact .inr ⟨1, readSc_form HL.out HP.out, by decide, rfl, HK3.out⟩

end Go.Proofs.YtkkjchfhgjfclabGreatDoor

/- tokens.Row: tokens put one behind another. -/
namespace Go.Proofs.YtkkjchfhgjfclabGreatDoor
open Go.RowKit

/-- the row at q holds the tokens T, in memory of its own -/
def RowAt (w : World) (q : Nat) (T : List Tok) : Prop :=
  ∃ v, w.heap[q]? = some (.cells #[v] 56 (0, 0)) ∧ w.ownsRow (q + 1) 65 3 v T.length (tokCells T)

/-- a block of tokens -/
def TB (w : World) (k : Nat) : Prop := ∃ cur fz, w.heap[k]? = some (.cells cur 65 fz)

/-- nothing is turned but the row at q and, behind it, blocks of tokens -/
def KT (q : Nat) (w w' : World) : Prop := Kept (fun k => k = q ∨ (q < k ∧ TB w k)) w w'

theorem KT.refl (q : Nat) (w : World) : KT q w w := Kept.refl _ _
theorem KT.trans {q : Nat} {a b c : World} (h : KT q a b) (k : KT q b c) : KT q a c := by
  refine Kept.trans h k (fun i hi e => ?_)
  rcases e with e | ⟨e, cur, fz, hb⟩
  · exact .inl e
  · by_cases hx : i = q ∨ (q < i ∧ TB a i)
    · exact hx
    · exact .inr ⟨e, cur, fz, by rw [← h.block i hi hx]; exact hb⟩
theorem KT.of_same {q : Nat} {w w' : World} (h : Same w w') : KT q w w' := Same.to h
theorem KT.same {q : Nat} {w w' w0 : World} (h : KT q w w') (h0 : Same w0 w) (hq : w0.heap.size ≤ q) : Same w0 w' := h0.trans h (fun i hi e => by rcases e with e | e <;> omega)
theorem KT.blk {q g : Nat} {w w' : World} {x : Array Value} {t : TypeId} {fz : Nat × Nat} (h : KT q w w') (hb : w.heap[g]? = some (.cells x t fz)) (hg : g ≠ q) (ht : t ≠ 65) : w'.heap[g]? = some (.cells x t fz) := by
  rw [h.block g (Array.getElem?_eq_some_iff.1 hb).1 (fun e => by
    rcases e with e | ⟨_, cur, fz, hc⟩
    · exact hg e
    · rw [hb] at hc; cases hc; exact ht rfl)]
  exact hb
theorem KT.cell {q : Nat} {w w' : World} {p : Addr} {v : Value} (h : KT q w w') (hv : w.cell? p = some v) (hp : p.block < q) : w'.cell? p = some v := Kept.cell h hv (fun e => by rcases e with e | e <;> omega)

theorem RowAt.lt {w : World} {q : Nat} {T : List Tok} (h : RowAt w q T) : q < w.heap.size := by
  obtain ⟨v, hh, _⟩ := h
  exact (Array.getElem?_eq_some_iff.1 hh).1
theorem RowAt.same {w w' : World} {q : Nat} {T : List Tok} (h : RowAt w q T) (hk : Same w w') : RowAt w' q T := by
  have hl := h.lt
  obtain ⟨v, hh, ho⟩ := h
  exact ⟨v, by rw [hk.block q hl (fun f => f)]; exact hh, own_kept ho hk (fun _ _ f => f)⟩

theorem tokCells_len3 (l : List Tok) : (tokCells l).length = l.length * 3 := by
  induction l with
  | nil => rfl
  | cons t l ih => simp [tokCells, tokC] at ih ⊢; omega
theorem tokCells_1 (l : List Tok) : ∀ u ∈ tokCells l, u.oneCell' = true := by
  intro u hu
  simp only [tokCells, List.mem_flatMap, tokC] at hu
  obtain ⟨t, _, hu⟩ := hu
  simp at hu
  rcases hu with rfl | rfl | rfl <;> rfl

theorem new_toks (w : World) (l : List Tok) : ∀ j u, (tokCells l)[j]? = some u → (w.alloc (.cells (tokCells l).toArray 65)).cell? ((⟨w.heap.size, 0, none⟩ : Addr).add j) = some u := by
  intro j u hj
  rw [add_none, Nat.zero_add, World.cell?_alloc_new]
  simpa using hj

theorem grown_k {w w' : World} {row : Option Nat} (h : w.grownBy w' row) : Kept (fun k => some k = row) w w' :=
  ⟨h.os, h.tape, h.output, h.size, fun k hk hx => h.block k hk hx⟩

theorem blk_kept' {w w' : World} {g : Nat} {o : Obj} (h : w.heap[g]? = some o) (hk : Same w w') : w'.heap[g]? = some o := by
  rw [hk.block g (Array.getElem?_eq_some_iff.1 h).1 (fun f => f)]; exact h

set_option maxRecDepth 20000 in
set_option maxHeartbeats 800000 in
/-- tokens in a block of their own are put behind -/
theorem put_any (w : World) (q g : Nat) (T N : List Tok) (c : Nat) (h : RowAt w q T) (hn : ∀ j u, (tokCells N)[j]? = some u → w.cell? ((⟨g, 0, none⟩ : Addr).add j) = some u) (h0 : 0 < N.length) (hb : T.length + N.length ≤ 1000000) :
    Calls Tryz.prog 58 #[.pointer (some ⟨q, 0, none⟩), .slice (some ⟨g, 0, none⟩) N.length c] w fun e w' => e = .returned (.tuple #[]) ∧ RowAt w' q (T ++ N) ∧ KT q w w' := by
  have hq := h.lt
  obtain ⟨v, hh, hown⟩ := h
  obtain ⟨i0, hi, hz0, hz1, hz2⟩ := info_parts info39
  obtain ⟨ao, cap, rfl⟩ := own_slice hown
  have c0 : w.cell? ⟨q, 0, none⟩ = some (.slice ao T.length cap) := by simp [World.cell?, hh]
  have HH := hide hh
  clear hh
  go_enter Tryz.func58, Tryz.ntmps58
  go_wp2_with (at_builtin; refine wpList_append_own_at _ rfl _ _ 29 rfl (q + 1) 65 i0 _ 3 32 Tryz.underlying29 hi hz0 hz1 hz2 rfl (by decide) _ _ _ rfl hown ⟨g, 0, none⟩ N.length c (tokCells N) rfl (tokCells_len3 N) hn (tokCells_1 N) ?a3 ?a4 ?a5 ?_)
  case a3 => unfold maxLen; omega
  case a4 => omega
  case a5 => omega
  intro v2 w2 hown2 hgr2 _ _
  obtain ⟨g2, cap2, hv2⟩ := own_form hown2 (by omega)
  subst hv2
  have hX : ∀ k, some k = (Value.slice ao T.length cap).ownBlock → q < k ∧ TB w k := fun k e => by
    have h1 := (hown.lt k e.symm).1
    refine ⟨by omega, ?_⟩
    rcases hown.2 with ⟨e2, _⟩ | ⟨g', cap', cur, e2, _, hc, _⟩
    · have e3 : ao = none := by injection e2
      subst e3
      cases e
    · have e3 : ao = some ⟨g', 0, none⟩ := by injection e2
      subst e3
      cases e
      exact ⟨cur, _, hc⟩
  have hK2 := grown_k hgr2
  have hB2 : w2.heap[q]? = some (.cells #[.slice ao T.length cap] 56 (0, 0)) := by
    rw [hK2.block q hq (fun e => by have := (hX q e).1; omega)]; exact HH.out
  have d0 : w2.cell? ⟨q, 0, none⟩ = some (.slice ao T.length cap) := by simp [World.cell?, hB2]
  have f0 : w2.frozen? ⟨q, 0, none⟩ = false := by simp [World.frozen?, hB2]
  have hS : Kept (· = q) w2 (w2.setCell ⟨q, 0, none⟩ (.slice (some ⟨g2, 0, none⟩) (T.length + N.length) cap2)) := (Kept.refl _ w2).setB 0 _
  have HX := hide (And.intro (show RowAt (w2.setCell ⟨q, 0, none⟩ (.slice (some ⟨g2, 0, none⟩) (T.length + N.length) cap2)) q (T ++ N) from
    ⟨.slice (some ⟨g2, 0, none⟩) (T.length + N.length) cap2, by simp [World.setCell, Array.getElem?_modify, hB2], by
      have := own_kept hown2 hS (fun k hk e => by omega)
      rw [List.length_append, show tokCells (T ++ N) = tokCells T ++ tokCells N by simp [tokCells]]
      exact this⟩)
    (show KT q w (w2.setCell ⟨q, 0, none⟩ (.slice (some ⟨g2, 0, none⟩) (T.length + N.length) cap2)) from
      (hK2.mono (Y := fun k => k = q ∨ (q < k ∧ TB w k)) (fun k _ e => .inr (hX k e))).trans hS (fun k _ e => .inl e)))
  clear hX hK2 hB2 hS hgr2 hown2 hown hn
  go_wp2_with fail
  go_end0
  exact ⟨rfl, HX.out⟩

end Go.Proofs.YtkkjchfhgjfclabGreatDoor

/- New tokens put into a row. -/
namespace Go.Proofs.YtkkjchfhgjfclabGreatDoor
open Go.RowKit

/-- tokens in a new block are put -/
theorem put_new (w : World) (q : Nat) (T N : List Tok) (h : RowAt w q T) (h0 : 0 < N.length) (hb : T.length + N.length ≤ 1000000) :
    Calls Tryz.prog 58 #[.pointer (some ⟨q, 0, none⟩), .slice (some ⟨w.heap.size, 0, none⟩) N.length N.length] (w.alloc (.cells (tokCells N).toArray 65)) fun e w' => e = .returned (.tuple #[]) ∧ RowAt w' q (T ++ N) ∧ KT q w w' := by
  have kA : Same w (w.alloc (.cells (tokCells N).toArray 65)) := (Kept.refl _ w).alloc _
  refine (put_any _ q w.heap.size T N N.length (h.same kA) (new_toks w N) h0 hb).mono ?_
  rintro e w' ⟨h1, h2, h3⟩
  exact ⟨h1, h2, (KT.of_same kA).trans h3⟩

theorem put_1 (w : World) (q : Nat) (T : List Tok) (k1 n1 : Int) (s1 : List UInt8) (h : RowAt w q T) (hb : T.length ≤ 900000) :
    Calls Tryz.prog 58 #[.pointer (some ⟨q, 0, none⟩), .slice (some ⟨w.heap.size, 0, none⟩) 1 1] (w.alloc (.cells #[.int .i64 k1, .string ⟨s1.toArray⟩, .int .i64 n1] 65)) fun e w' => e = .returned (.tuple #[]) ∧ RowAt w' q (T ++ [⟨k1, s1, n1⟩]) ∧ KT q w w' :=
  put_new w q T [⟨k1, s1, n1⟩] h (by simp) (by simp; omega)

theorem put_2 (w : World) (q : Nat) (T : List Tok) (k1 n1 k2 n2 : Int) (s1 s2 : List UInt8) (h : RowAt w q T) (hb : T.length ≤ 900000) :
    Calls Tryz.prog 58 #[.pointer (some ⟨q, 0, none⟩), .slice (some ⟨w.heap.size, 0, none⟩) 2 2] (w.alloc (.cells #[.int .i64 k1, .string ⟨s1.toArray⟩, .int .i64 n1, .int .i64 k2, .string ⟨s2.toArray⟩, .int .i64 n2] 65)) fun e w' => e = .returned (.tuple #[]) ∧ RowAt w' q (T ++ [⟨k1, s1, n1⟩, ⟨k2, s2, n2⟩]) ∧ KT q w w' :=
  put_new w q T [⟨k1, s1, n1⟩, ⟨k2, s2, n2⟩] h (by simp) (by simp; omega)

theorem put_3 (w : World) (q : Nat) (T : List Tok) (k1 n1 k2 n2 k3 n3 : Int) (s1 s2 s3 : List UInt8) (h : RowAt w q T) (hb : T.length ≤ 900000) :
    Calls Tryz.prog 58 #[.pointer (some ⟨q, 0, none⟩), .slice (some ⟨w.heap.size, 0, none⟩) 3 3] (w.alloc (.cells #[.int .i64 k1, .string ⟨s1.toArray⟩, .int .i64 n1, .int .i64 k2, .string ⟨s2.toArray⟩, .int .i64 n2, .int .i64 k3, .string ⟨s3.toArray⟩, .int .i64 n3] 65)) fun e w' => e = .returned (.tuple #[]) ∧ RowAt w' q (T ++ [⟨k1, s1, n1⟩, ⟨k2, s2, n2⟩, ⟨k3, s3, n3⟩]) ∧ KT q w w' :=
  put_new w q T [⟨k1, s1, n1⟩, ⟨k2, s2, n2⟩, ⟨k3, s3, n3⟩] h (by simp) (by simp; omega)

end Go.Proofs.YtkkjchfhgjfclabGreatDoor
