/- history.Back. -/
import Derived.Test.YtidodjbmlbjchaaGreatHistorystaysupto47
import Derived.Stop.RegionWithIn
import Derived.Sort.CutIn
namespace Go.Proofs.YtidodjbmlbjchaaGreat
open Go.RowKit Go.Shelf

attribute [local go_sem] Oper.semAt_some

theorem own_nc {w w' : World} {base : Nat} {e : TypeId} {size : Nat} {v : Value} {n : Nat} {xs : List Value} {row : Option Nat} (h : w.ownsRow base e size v n xs) (hg : w.grownBy w' row) (hr : ∀ r, row = some r → ∃ o : Obj, w.heap[r]? = some o ∧ o.isCells = false) : w'.ownsRow base e size v n xs := by
  obtain ⟨h1, h2⟩ := h
  refine ⟨h1, ?_⟩
  rcases h2 with h2 | ⟨g, cap, cur, hv, hb, hh, r⟩
  · exact Or.inl h2
  · have hlt : g < w.heap.size := (Array.getElem?_eq_some_iff.1 hh).1
    refine Or.inr ⟨g, cap, cur, hv, hb, ?_, r⟩
    rw [hg.block g hlt (fun e => by
      obtain ⟨o, ho, hc⟩ := hr g e.symm
      rw [hh] at ho
      cases ho
      cases hc)]
    exact hh
theorem blk_nc {w w' : World} {k : Nat} {x : Array Value} {t : TypeId} {z : Nat × Nat} {row : Option Nat} (h : w.heap[k]? = some (.cells x t z)) (hg : w.grownBy w' row) (hr : ∀ r, row = some r → ∃ o : Obj, w.heap[r]? = some o ∧ o.isCells = false) : w'.heap[k]? = some (.cells x t z) := by
  rw [hg.block k (Array.getElem?_eq_some_iff.1 h).1 (fun e => by
    obtain ⟨o, ho, hc⟩ := hr k e.symm
    rw [h] at ho
    cases ho
    cases hc)]
  exact h

/-- what a round keeps: all that lies below n₀, but for X -/
def KpS (X : Nat → Prop) (n₀ : Nat) (W W' : World) : Prop := W.heap.size ≤ W'.heap.size ∧ ∀ k, k < n₀ → ¬ X k → W'.heap[k]? = W.heap[k]?
theorem KpS.refl (X : Nat → Prop) (n₀ : Nat) (W : World) : KpS X n₀ W W := ⟨Nat.le_refl _, fun _ _ _ => rfl⟩
theorem KpS.trans {X : Nat → Prop} {n₀ : Nat} {a b c : World} (h : KpS X n₀ a b) (k : KpS X n₀ b c) : KpS X n₀ a c := ⟨Nat.le_trans h.1 k.1, fun i hi hb => (k.2 i hi hb).trans (h.2 i hi hb)⟩
theorem KpS.of {X Y : Nat → Prop} {n₀ : Nat} {W W' : World} (h : Kept Y W W') (hX : ∀ k, k < n₀ → Y k → X k) (hn : n₀ ≤ W.heap.size) : KpS X n₀ W W' := ⟨h.size, fun k hk hx => h.block k (Nat.lt_of_lt_of_le hk hn) (fun hy => hx (hX k hk hy))⟩
theorem KpS.cell {X : Nat → Prop} {n₀ : Nat} {W W' : World} {p : Addr} {v : Value} (h : KpS X n₀ W W') (hv : W.cell? p = some v) (h1 : p.block < n₀) (h2 : ¬ X p.block) : W'.cell? p = some v :=
  (World.cell?_of_block (w := W) (h.2 p.block h1 h2)).trans hv
theorem EvSl.kps {X : Nat → Prop} {n₀ M : Nat} {W W' : World} {v : Value} {l : List EventT} (h : EvSl (· < M) W v l) (hk : KpS X n₀ W W') (hM : M ≤ n₀) (hx : ∀ b, b < M → ¬ X b) : EvSl (· < M) W' v l := by
  obtain ⟨ao, cap, hv, hl, hc⟩ := h
  refine ⟨ao, cap, hv, hl, fun i t ht => ?_⟩
  obtain ⟨b, off, ha, hp, h0, h1, h2, h3, h4, h5⟩ := hc i t ht
  have hlt : b < n₀ := Nat.lt_of_lt_of_le hp hM
  exact ⟨b, off, ha, hp, hk.cell h0 hlt (hx b hp), hk.cell h1 hlt (hx b hp), hk.cell h2 hlt (hx b hp), hk.cell h3 hlt (hx b hp), hk.cell h4 hlt (hx b hp), hk.cell h5 hlt (hx b hp)⟩
theorem kpS_b {X : Nat → Prop} {n₀ : Nat} {w : World} (hn : n₀ ≤ w.heap.size) (W : World) (l : Nat) (o o' : Obj) (hl : w.heap.size ≤ l) (h : W.heap[l]? = some o) (_ : o.isCells = false) (_ : o.isWalk = false) : KpS X n₀ W (W.putObj l o') := by
  have hg := grownBy_putObj' W l o'
  exact ⟨hg.size, fun k hk _ => hg.block k (by have := (Array.getElem?_eq_some_iff.1 h).1; omega) (by intro e; cases e; omega)⟩

/-- between two rounds: the undoings that have come -/
def HI (s : StateT) (l : List EventT) (gk n₀ : Nat) (w3 : World) (pre : List (Ix l)) (W : World) : Prop :=
  ∃ acc a c, W.heap[gk]? = some (.cells #[.slice a acc.length c] 37 (0, 0)) ∧ W.ownsRow n₀ 27 6 (.slice a acc.length c) acc.length (evCells acc) ∧ Undos s l pre acc ∧ Kept (· = gk) w3 W
/-- left, with an error -/
def HXi (s : StateT) (l : List EventT) (gk rl rn : Nat) (w3 : World) (c : Code) (pre : List (Ix l)) (W : World) : Prop :=
  c = .ret ∧ ∃ ys x acc m, pre = ys ++ [x] ∧ Undos s l ys acc ∧ undoAt s l x.1 = .error m ∧ W.heap[rl]? = some (.cells #[.slice none 0 0] 37 (0, 0)) ∧ W.heap[rn]? = some (.cells #[.int .i64 m] 28 (0, 0)) ∧ Kept (fun k => k = gk ∨ k = rl ∨ k = rn) w3 W

theorem HI.own (s : StateT) (l : List EventT) (gk n₀ : Nat) (w3 : World) : OwnFrom w3.heap.size (HI s l gk n₀ w3) := by
  rintro pre W W' row ⟨acc, a, c, h1, h2, h3, h4⟩ hg hr
  have hr2 : ∀ r, row = some r → ∃ o : Obj, W.heap[r]? = some o ∧ o.isCells = false := fun r e => (hr r e).2
  exact ⟨acc, a, c, blk_nc h1 hg hr2, own_nc h2 hg hr2, h3, h4.grown hg (fun k e hk => by have := (hr k e).1; omega)⟩
theorem HXi.own (s : StateT) (l : List EventT) (gk rl rn : Nat) (w3 : World) (c : Code) : OwnFrom w3.heap.size (HXi s l gk rl rn w3 c) := by
  rintro pre W W' row ⟨h0, ys, x, acc, m, h1, h2, h3, h4, h5, h6⟩ hg hr
  have hr2 : ∀ r, row = some r → ∃ o : Obj, W.heap[r]? = some o ∧ o.isCells = false := fun r e => (hr r e).2
  exact ⟨h0, ys, x, acc, m, h1, h2, h3, blk_nc h4 hg hr2, blk_nc h5 hg hr2, h6.grown hg (fun k e hk => by have := (hr k e).1; omega)⟩

theorem blk1c {w : World} {g : Nat} {x : Value} {t : TypeId} (h : w.heap[g]? = some (.cells #[x] t (0, 0))) : w.cell? ⟨g, 0, none⟩ = some x := by simp [World.cell?, h]

theorem info_evh : (Tryz.prog.info? 27).map (fun i => (i.zero, i.size, i.bytes)) = some (some (.agg #[.int .i64 0, .int .i64 0, .int .i64 0, .int .i64 0, .int .i64 0, .string ⟨#[]⟩]), 6, 56) := by kernel_rfl
theorem new_six {w : World} {b : Nat} {e : EventT} {t : TypeId} (h : w.heap[b]? = some (.cells #[.int .i64 e.kind, .int .i64 e.ty, .int .i64 e.id, .int .i64 e.field, .int .i64 e.n, .string ⟨e.text.toArray⟩] t (0, 0))) : ∀ j u, (evC e)[j]? = some u → w.cell? ((⟨b, 0, none⟩ : Addr).add j) = some u := by
  intro j u hj
  rw [addr_add, Nat.zero_add]
  unfold World.cell?
  rw [h]
  simpa [evC] using hj
theorem keepsOthers_of {X : Nat → Prop} {W W' : World} (hk : Kept X W W') (hX : ∀ k, X k → ∀ o, W.heap[k]? = some o → o.isCells = true) : KeepsOthers W W' :=
  ⟨hk.size, fun k o hk2 ho => by
    rw [hk.block k (Array.getElem?_eq_some_iff.1 hk2).1 (fun x => by rw [hX k x o hk2] at ho; cases ho)]
    exact hk2⟩

theorem allS_no {s : StateT} {l : List EventT} {m : Int} (h : allS s l = .error m) : m ≠ 0 := by
  induction l generalizing s with
  | nil => cases h
  | cons e r ih =>
    rw [allS] at h
    cases hd : doSt s e with
    | error k => rw [hd] at h; cases h; exact doSt_no hd
    | ok s' => rw [hd] at h; exact ih h
theorem groupS_no {s : StateT} {l : List EventT} {m : Int} (h : groupS s l = .error m) : m ≠ 0 := by
  unfold groupS at h
  split at h
  · cases h; assumption
  · split at h
    · cases h; decide
    · exact allS_no h

/-- what Back answers -/
def backA (w w' : World) (r : Ending) (x : Except Int (List EventT)) : Prop :=
  Same w w' ∧ match x with
  | .error m => r = .returned (.tuple #[.slice none 0 0, .int .i64 m])
  | .ok us => ∃ v, r = .returned (.tuple #[v, .int .i64 0]) ∧ EvSl (w.heap.size ≤ ·) w' v us

set_option maxRecDepth 100000 in
set_option maxHeartbeats 4000000 in
theorem hback_in (P : Nat → Prop) (w : World) (vt vh lv : Value) (s : StateT) (l : List EventT) (ht : TypSl anyB w vt s.types) (hh : ThgSl anyB w vh s.things) (hl : EvSl P w lv l) :
    CallsIn Fence.wide 5 Tryz.prog 18 #[stV vt vh, lv] w fun e w' => backA w w' e (backS s l) := by
  obtain ⟨at', ct, rfl, _, _⟩ := id ht
  obtain ⟨ah, ch, rfl, _, _⟩ := id hh
  obtain ⟨al, cl, rfl⟩ := hl.form
  obtain ⟨W, hW⟩ : ∃ W, W = (((w.alloc (.cells #[.slice at' s.types.length ct, .slice ah s.things.length ch] 25)).alloc (.cells #[.slice al l.length cl] 37)).alloc (.cells #[.slice none 0 0] 37)).alloc (.cells #[.int .i64 0] 28) := ⟨_, rfl⟩
  obtain ⟨N, hN⟩ : ∃ N, N = w.heap.size := ⟨_, rfl⟩
  have hsz : W.heap.size = N + 4 := by rw [hW, hN]; simp
  have b0 : W.heap[N]? = some (.cells #[.slice at' s.types.length ct, .slice ah s.things.length ch] 25 (0, 0)) := by
    rw [hW, hN, Below.heap_alloc _ _ _ (by simp <;> omega), Below.heap_alloc _ _ _ (by simp <;> omega), Below.heap_alloc _ _ _ (by simp)]; exact heap_alloc_new w _
  have b1 : W.heap[N + 1]? = some (.cells #[.slice al l.length cl] 37 (0, 0)) := by
    rw [hW, hN, Below.heap_alloc _ _ _ (by simp <;> omega), Below.heap_alloc _ _ _ (by simp)]
    exact al_n _ _ _
  have b2 : W.heap[N + 2]? = some (.cells #[.slice none 0 0] 37 (0, 0)) := by
    rw [hW, hN, Below.heap_alloc _ _ _ (by simp)]
    have := heap_alloc_new ((w.alloc (.cells #[.slice at' s.types.length ct, .slice ah s.things.length ch] 25)).alloc (.cells #[.slice al l.length cl] 37)) (.cells #[.slice none 0 0] 37); simpa using this
  have b3 : W.heap[N + 3]? = some (.cells #[.int .i64 0] 28 (0, 0)) := by
    rw [hW, hN]
    have := heap_alloc_new (((w.alloc (.cells #[.slice at' s.types.length ct, .slice ah s.things.length ch] 25)).alloc (.cells #[.slice al l.length cl] 37)).alloc (.cells #[.slice none 0 0] 37)) (.cells #[.int .i64 0] 28); simpa using this
  have HKW := hide (show Same w W by rw [hW]; exact ((((Kept.refl _ w).alloc _).alloc _).alloc _).alloc _)
  have HT := hide (fun wy (hy : Same W wy) => (ht.same HKW.out).same hy)
  have HH := hide (fun wy (hy : Same W wy) => (hh.same HKW.out).same hy)
  have HL := hide (fun wy (hy : Same W wy) => (hl.same HKW.out).same hy)
  have HLN := hide (show EvSl (· < w.heap.size) w (.slice al l.length cl) l from hl.mono (fun b hb _ => hb))
  have HTN := hide (show TypSl (· < w.heap.size) w (.slice at' s.types.length ct) s.types from ht.mono (fun b hb _ => hb))
  have HHN := hide (show ThgSl (· < w.heap.size) w (.slice ah s.things.length ch) s.things from hh.mono (fun b hb _ => hb))
  have HG := hide (group_any P W _ _ _ s l (HT.out W (Kept.refl _ _)) (HH.out W (Kept.refl _ _)) (HL.out W (Kept.refl _ _)))
  obtain ⟨x, hx⟩ : ∃ x, backS s l = x := ⟨_, rfl⟩
  have HX := hide hx
  rw [hx]
  obtain ⟨c0, c1⟩ := blk2' b0
  have d0 : W.cell? ⟨N + 1, 0, none⟩ = some (.slice al l.length cl) := by simp [World.cell?, b1]
  have HB := hide (And.intro b0 (And.intro b1 (And.intro b2 (And.intro b3 (And.intro hsz hN)))))
  clear hx ht hh hl b0 b1 b2 b3
  refine callsIn_of_wp_marks Tryz.func18 rfl trivial ?_ rfl
  simp only [Tryz.ntmps18, List.size_toArray, List.length_cons, List.length_nil, Nat.reduceAdd, Nat.reduceSub, Array.replicate_succ, Array.replicate_zero, List.push_toArray, List.append_toArray, List.nil_append, List.cons_append]
  gi_upto_region 1 with fail
  rw [← hW]
  simp only [← hN, Nat.add_assoc, Nat.reduceAdd]
  clear hW hN hsz
  gi_wp2
  refine ⟨trivial, ?_⟩
  refine (callsIn_wide.2 HG.out).mono ?_
  clear HG c0 c1 d0
  intro r w1 hQ
  obtain ⟨a1, n1, c1', a2, n2, c2, m, rfl⟩ := doA_form hQ
  have HK1 := hide hQ.1
  cases hg : groupS s l with
  | error mg =>
    rw [hg] at hQ
    obtain ⟨_, hm⟩ := hQ
    simp only at hm
    cases hm
    have hm0 := groupS_no hg
    have hxe : x = .error m := by rw [← HX.out]; unfold backS; rw [hg]
    have HXE := hide hxe
    have hqb : (m != 0) = true := by simp [hm0]
    obtain ⟨w2, hw2⟩ : ∃ w2, w2 = w1.alloc (.cells #[.slice none 0 0, .slice none 0 0] 25) := ⟨_, rfl⟩
    have HK2 := hide (show Same W w2 by rw [hw2]; exact HK1.out.alloc _)
    obtain ⟨_, _, g2, g3, hsz, hN⟩ := HB.out
    have r2 := blk_kept g2 HK2.out (fun f => f)
    have r3 := blk_kept g3 HK2.out (fun f => f)
    have d2 : w2.cell? ⟨N + 2, 0, none⟩ = some (.slice none 0 0) := by simp [World.cell?, r2]
    have d3 : w2.cell? ⟨N + 3, 0, none⟩ = some (.int .i64 0) := by simp [World.cell?, r3]
    have e2 : w2.frozen? ⟨N + 2, 0, none⟩ = false := by simp [World.frozen?, r2]
    have e3 : w2.frozen? ⟨N + 3, 0, none⟩ = false := by simp [World.frozen?, r3]
    clear hg hm0 hxe g2 g3 r2 r3 hsz hN
    gi_upto_region 2 with fail
    rw [← hw2]
    clear hw2
    gi_wp2
    have hK23 : Kept (fun k => k = N + 2 ∨ k = N + 3) w2 ((w2.setCell ⟨N + 2, 0, none⟩ (.slice none 0 0)).setCell ⟨N + 3, 0, none⟩ (.int .i64 m)) := ((Kept.refl _ w2).setCell (p := ⟨N + 2, 0, none⟩) (fun _ => .inl rfl) _).setCell (p := ⟨N + 3, 0, none⟩) (fun _ => .inr rfl) _
    have hS : Same w ((w2.setCell ⟨N + 2, 0, none⟩ (.slice none 0 0)).setCell ⟨N + 3, 0, none⟩ (.int .i64 m)) := (tra HKW.out HK2.out).trans hK23 (fun i hi e => by have := HB.out.2.2.2.2.2; omega)
    have z2 : ((w2.setCell ⟨N + 2, 0, none⟩ (.slice none 0 0)).setCell ⟨N + 3, 0, none⟩ (.int .i64 m)).cell? ⟨N + 2, 0, none⟩ = some (.slice none 0 0) := by
      rw [World.cell?_setCell_other _ _ _ _ (by simp)]
      exact World.cell?_setCell_same' _ _ _ (by rw [d2]; rfl)
    have z3 : ((w2.setCell ⟨N + 2, 0, none⟩ (.slice none 0 0)).setCell ⟨N + 3, 0, none⟩ (.int .i64 m)).cell? ⟨N + 3, 0, none⟩ = some (.int .i64 m) := by
      exact World.cell?_setCell_same' _ _ _ (by rw [World.cell?_setCell_other _ _ _ _ (by simp), d3]; rfl)
    refine ⟨.tuple #[.slice none 0 0, .int .i64 m], ?_, hS, by rw [HXE.out]⟩
    simp [results, Tryz.results18, go_sem, z2, z3]
  | ok z =>
    obtain ⟨hrs, hl8, hall⟩ := groupS_ok hg
    have hxb : x = backN s l l.length [] := by rw [← HX.out]; unfold backS; rw [hg]
    rw [hg] at hQ
    obtain ⟨_, va, vb, hm, _, _⟩ := hQ
    obtain ⟨rfl⟩ : m = 0 := by
      have h := (Ending.returned.inj hm)
      injection h with h
      simp at h
      exact h.2
    have HALL := hide hall
    have HRS := hide hrs
    have HXB := hide hxb
    have HL8 := hide hl8
    obtain ⟨w2, hw2⟩ : ∃ w2, w2 = (w1.alloc (.cells #[.slice a1 n1 c1', .slice a2 n2 c2] 25)).alloc (.cells #[.slice none 0 0] 37) := ⟨_, rfl⟩
    obtain ⟨gk, hgk⟩ : ∃ g, g = w1.heap.size + 1 := ⟨_, rfl⟩
    have HK2 := hide (show Same W w2 by rw [hw2]; exact (HK1.out.alloc _).alloc _)
    have hbk : w2.heap[gk]? = some (.cells #[.slice none 0 0] 37 (0, 0)) := by rw [hw2, hgk]; exact al_n _ _ _
    have HBK := hide hbk
    have d0 : w2.cell? ⟨N + 1, 0, none⟩ = some (.slice al l.length cl) := by
      have := blk_kept HB.out.2.1 HK2.out (fun f => f)
      simp [World.cell?, this]
    clear hg hrs hl8 hall hxb hm hbk
    gi_upto_region 5 with fail
    rw [← hw2]
    rw [← hgk]
    have hgk' := hgk
    clear hw2 hgk
    gi_wp2
    refine ⟨trivial, ?_⟩
    refine (back_in Fence.wide _ trivial rfl _ _ _ _).mono ?_
    rintro e w' ⟨rfl, rfl⟩
    obtain ⟨w3, hw3⟩ : ∃ w3, w3 = w2.alloc (.cells #[.slice al l.length cl] 37) := ⟨_, rfl⟩
    obtain ⟨bs, hbs⟩ : ∃ g, g = w2.heap.size := ⟨_, rfl⟩
    obtain ⟨g6, hg6⟩ : ∃ g, g = w1.heap.size := ⟨_, rfl⟩
    have HK3 := hide (tra HK2.out (show Same w2 w3 by rw [hw3]; exact (Kept.refl _ w2).alloc _))
    have HBS := hide (show w3.heap[bs]? = some (.cells #[.slice al l.length cl] 37 (0, 0)) by rw [hw3, hbs]; exact heap_alloc_new _ _)
    have HBK3 := hide (show w3.heap[gk]? = some (.cells #[.slice none 0 0] 37 (0, 0)) from blk_kept HBK.out (show Same w2 w3 by rw [hw3]; exact (Kept.refl _ w2).alloc _) (fun f => f))
    have HLT := hide (show gk < bs ∧ bs < w3.heap.size ∧ W.heap.size ≤ gk by
      have h1 := (Array.getElem?_eq_some_iff.1 HBK.out).1
      have h2 := HK1.out.size
      rw [hw3, hbs, World.size_alloc]
      have h3 : w1.heap.size ≤ gk := by rw [hgk']; omega
      exact ⟨h1, by omega, by omega⟩)
    rw [← hw3, ← hbs, ← hg6]
    clear hw3 hbs hg6 d0 hgk'
    have HN := hide HB.out.2.2.2.2.2
    have HWN := hide HB.out.2.2.2.2.1
    have HK0 := hide (tra HKW.out HK3.out)
    gi_wp2
    refine wpIn_rangeFunc_ownH rfl (by decide) (gf := 68) (lb := #[.pointer (some ⟨bs, 0, none⟩)]) rfl trivial (enters_of Tryz.func68 (by kernel_rfl) rfl)
      (back_stops anyB Fence.wide _ trivial rfl (by decide) bs cl al l (by have := HL8.out; omega) (KpS (fun k => k = gk ∨ k = N + 2 ∨ k = N + 3) w3.heap.size) (KpS.refl _ _) KpS.trans w3 ?hW) KpS.trans (kpS_b (Nat.le_refl _)) (Below.refl _ _) (fun _ => rfl)
      (HI s l gk w3.heap.size w3) (HXi s l gk (N + 2) (N + 3) w3) (HI.own _ _ _ _ _) (HXi.own _ _ _ _ _ _)
      ⟨[], none, 0, HBK3.out, World.ownsRow_nil _ _ _ _, Undos.nil _ _, Kept.refl _ _⟩
      (fun x a' Wy => ∃ ge, a' = { tmps := #[stV (.slice at' s.types.length ct) (.slice ah s.things.length ch), .slice al l.length cl, .pointer (some ⟨N, 0, none⟩), .pointer (some ⟨N + 1, 0, none⟩), .pointer (some ⟨N + 2, 0, none⟩), .pointer (some ⟨N + 3, 0, none⟩), .pointer (some ⟨g6, 0, none⟩), .int .i64 0, .pointer (some ⟨gk, 0, none⟩), .int .i64 x.1, .pointer (some ⟨ge, 0, none⟩), undef, undef, undef, .tuple #[stV (.slice a1 n1 c1') (.slice a2 n2 c2), .int .i64 0], .agg #[.slice at' s.types.length ct, .slice ah s.things.length ch], .slice al l.length cl, .tuple #[stV (.slice a1 n1 c1') (.slice a2 n2 c2), .int .i64 0], stV (.slice a1 n1 c1') (.slice a2 n2 c2), .int .i64 0, .int .i64 0, .bool false, undef, .slice al l.length cl, .func (.func 68) #[] #[.pointer (some ⟨bs, 0, none⟩)], .int .i64 x.1, evV (l[x.1]'x.2), undef, undef, undef, undef, undef, undef, undef, undef, undef, undef, undef, undef, undef, undef, undef, undef, undef, undef, undef, undef, undef, undef, undef, undef, undef], defers := [] } ∧ w3.heap.size ≤ ge ∧ Wy.heap[ge]? = some (.cells #[.int .i64 (l[x.1]'x.2).kind, .int .i64 (l[x.1]'x.2).ty, .int .i64 (l[x.1]'x.2).id, .int .i64 (l[x.1]'x.2).field, .int .i64 (l[x.1]'x.2).n, .string ⟨(l[x.1]'x.2).text.toArray⟩] 27 (0, 0))) ?hAx ?assign ?body ?done ?stop
    case hW =>
      intro Wa Wb hb hk
      have hlt := HLT.out
      have hn := HN.out
      have hwn := HWN.out
      have hK : Same w3 Wa := Kept.of_below hb
      have c9 := (blk1c (blk_kept HBS.out hK (fun f => f)))
      refine ⟨hk.cell c9 hlt.2.1 (by show ¬ (bs = gk ∨ bs = N + 2 ∨ bs = N + 3); omega), ?_⟩
      exact (((HLN.out.same HK0.out).same hK).kps hk (by omega) (fun b hb e => by omega)).mono (fun _ _ _ => trivial)
    case hAx =>
      rintro x a' _ Wa Wb row ⟨ge, e, h1, h2⟩ hg hr
      exact ⟨ge, e, h1, blk_nc h2 hg (fun r e => (hr r e).2)⟩
    case assign =>
      intro lo pre x Wy K hI hK
      have hsz : w3.heap.size ≤ Wy.heap.size := by obtain ⟨_, _, _, _, _, _, hk⟩ := hI; exact hk.size
      simp only [encB]
      gi_wp2
      exact hK _ _ ⟨by simp, fun k o _ hk _ => by rw [Below.heap_alloc _ _ _ (Array.getElem?_eq_some_iff.1 hk).1]; exact hk⟩ (KpS.of (Y := fun _ => False) ((Kept.refl _ Wy).alloc _) (fun _ _ f => f.elim) hsz) ((HI.own _ _ _ _ _).alloc _ hI) ⟨Wy.heap.size, rfl, hsz, heap_alloc_new _ _⟩
    case body =>
      rintro lo pre x a' Wy hlo hrec ⟨acc, a, c, hB, hown, hU, hK⟩ ⟨ge, rfl, hge, hbe⟩ hpre
      obtain ⟨j, hj⟩ := x
      simp only at hbe ⊢
      obtain ⟨e, hee⟩ : ∃ e, l[j] = e := ⟨_, rfl⟩
      rw [hee] at hbe ⊢
      obtain ⟨b, hb⟩ := allS_take HALL.out j
      have HB2 := hide hb
      have HUA := hide (show undoAt s l j = undoSt b e by rw [undoAt, hb]; simp only; rw [List.getElem?_eq_getElem hj, hee])
      have HKY := hide (show Kept (· = gk) w Wy from (HK0.out.to).trans hK (fun _ _ e => e))
      have hgn : w.heap.size ≤ gk := by have := HLT.out; have := HK1.out.size; have := HKW.out.size; omega
      have HBH := hide (fun wz (hz : Same Wy wz) => CallsIn.inRound (n := 2) lo (callsIn_wide.2 (behind_any anyB wz _ _ _ s (l.take j) ((HTN.out.keep HKY.out (fun b hb e => by omega)).any.same hz) ((HHN.out.keep HKY.out (fun b hb e => by omega)).any.same hz) (right_small HRS.out) (((HLN.out.keep HKY.out (fun b hb e => by omega)).mono (Q := anyB) (fun _ _ _ => trivial)).same hz |>.take j (by omega)))))
      rw [hb] at HBH
      have hn := HN.out
      have hlt := HLT.out
      have hwn := HWN.out
      have hN0 := blk_kept (blk_kept HB.out.1 HK3.out (fun f => f)) hK (by show ¬ N = gk; omega)
      have hN1 := blk_kept (blk_kept HB.out.2.1 HK3.out (fun f => f)) hK (by show ¬ N + 1 = gk; omega)
      have HC := hide (fun wz (hz : Same Wy wz) => (⟨(blk2' (blk_kept hN0 hz (fun f => f))).1, (blk2' (blk_kept hN0 hz (fun f => f))).2, blk1c (blk_kept hN1 hz (fun f => f))⟩ : wz.cell? ⟨N, 0, none⟩ = _ ∧ wz.cell? ⟨N, 1, none⟩ = _ ∧ wz.cell? ⟨N + 1, 0, none⟩ = _))
      have HBE := hide hbe
      have HGE := hide hge
      have HRow := hide (And.intro hB (And.intro hown (And.intro hU hK)))
      have HIX := hide (And.intro hlo hpre)
      have hj0 : (0 : Int) ≤ (j : Int) := by omega
      have hj1 : (j : Int) ≤ (cl : Int) := by
        have := HLN.out.len.2.2
        omega
      have hj2 : j ≤ cl := by omega
      obtain ⟨c0, c1, d0⟩ := HC.out Wy (Kept.refl _ _)
      clear hbe hge hB hown hU hK hlo hpre hrec hb hgn hn hlt hwn hN0 hN1 HBK HBK3
      gi_upto_region 8 with fail
      gi_cut [11, 12] from 27 (fun v11 v12 wx => ∃ (g11 : Nat) (a5 : Option Addr) (c5 : Nat) (a6 : Option Addr) (c6 : Nat), v11 = .pointer (some ⟨g11, 0, none⟩) ∧ v12 = .int .i64 0 ∧ Hid (Same Wy wx) ∧ Hid (wx.heap[g11]? = some (.cells #[.slice a5 b.types.length c5, .slice a6 b.things.length c6] 25 (0, 0))) ∧ Hid (TypSl anyB wx (.slice a5 b.types.length c5) b.types) ∧ Hid (ThgSl anyB wx (.slice a6 b.things.length c6) b.things))
      case first =>
        clear c0 c1 d0
        refine wpIn_inv (fun ls a wz => ∃ v11 v12 u27 u28 u29 u30 u31 u32 u33 u34, a = { tmps := #[stV (.slice at' s.types.length ct) (.slice ah s.things.length ch), .slice al l.length cl, .pointer (some ⟨N, 0, none⟩), .pointer (some ⟨N + 1, 0, none⟩), .pointer (some ⟨N + 2, 0, none⟩), .pointer (some ⟨N + 3, 0, none⟩), .pointer (some ⟨g6, 0, none⟩), .int .i64 0, .pointer (some ⟨gk, 0, none⟩), .int .i64 j, .pointer (some ⟨ge, 0, none⟩), v11, v12, undef, .tuple #[stV (.slice a1 n1 c1') (.slice a2 n2 c2), .int .i64 0], .agg #[.slice at' s.types.length ct, .slice ah s.things.length ch], .slice al l.length cl, .tuple #[stV (.slice a1 n1 c1') (.slice a2 n2 c2), .int .i64 0], stV (.slice a1 n1 c1') (.slice a2 n2 c2), .int .i64 0, .int .i64 0, .bool false, undef, .slice al l.length cl, .func (.func 68) #[] #[.pointer (some ⟨bs, 0, none⟩)], .int .i64 j, evV e, u27, u28, u29, u30, u31, u32, u33, u34, undef, undef, undef, undef, undef, undef, undef, undef, undef, undef, undef, undef, undef, undef, undef, undef, undef], defers := [] } ∧ BJ Wy (stV (.slice at' s.types.length ct) (.slice ah s.things.length ch)) (.slice al l.length cl) (.int .i64 j) (.slice al j cl) b ls wz v11 v12 u27 u28 u29 u30 u31 u32 u33 u34) (by kernel_rfl) ⟨_, _, _, _, _, _, _, _, _, _, rfl, BJ.start _ _ _ _ _ _ _ _ _ _ _ _ _ _ _ _ _ (Kept.refl _ Wy).drew⟩ ?_ ?_
        · rintro ls a wz i hls ⟨v11, v12, u27, u28, u29, u30, u31, u32, u33, u34, rfl, hB⟩ hr
          have hi : i < 11 := ready_lt hr
          have hsm := hB.same
          rcases (show i = 0 ∨ i = 1 ∨ i = 2 ∨ i = 3 ∨ i = 4 ∨ i = 5 ∨ i = 6 ∨ i = 7 ∨ i = 8 ∨ i = 9 ∨ i = 10 by omega) with rfl | rfl | rfl | rfl | rfl | rfl | rfl | rfl | rfl | rfl | rfl
          · skip
            obtain ⟨c0, c1, d0⟩ := HC.out wz hsm
            refine wpOpIn_step rfl (fun K hK => ?_)
            have HK := hide hK
            have HBJ := hide hB
            clear hK hB hr
            go_simp
            exact HK.out _ _ ⟨_, _, _, _, _, _, _, _, _, _, rfl, HBJ.out.s0 rfl⟩
          · skip
            obtain ⟨c0, c1, d0⟩ := HC.out wz hsm
            refine wpOpIn_step rfl (fun K hK => ?_)
            have HK := hide hK
            have HBJ := hide hB
            clear hK hB hr
            go_simp
            exact HK.out _ _ ⟨_, _, _, _, _, _, _, _, _, _, rfl, HBJ.out.s1 rfl⟩
          · skip
            refine wpOpIn_step rfl (fun K hK => ?_)
            have HK := hide hK
            have HBJ := hide hB
            clear hK hB hr
            go_simp
            exact HK.out _ _ ⟨_, _, _, _, _, _, _, _, _, _, rfl, HBJ.out.s2 rfl⟩
          · skip
            obtain rfl := hB.f1 (ready_waits hr (j := 1) (by kernel_rfl))
            obtain rfl := hB.f2 (ready_waits hr (j := 2) (by kernel_rfl))
            refine wpOpIn_step rfl (fun K hK => ?_)
            have HK := hide hK
            have HBJ := hide hB
            clear hK hB hr
            go_simp
            exact HK.out _ _ ⟨_, _, _, _, _, _, _, _, _, _, rfl, HBJ.out.s3 rfl⟩
          · skip
            obtain rfl := hB.f0 (ready_waits hr (j := 0) (by kernel_rfl))
            obtain rfl := hB.f3 (ready_waits hr (j := 3) (by kernel_rfl))
            refine wpOpIn_step rfl (fun K hK => ?_)
            have HK := hide hK
            have HBJ := hide hB
            clear hK hB hr
            go_simp
            refine ⟨trivial, ?_⟩
            refine (HBH.out wz hsm).mono ?_
            rintro r9 w9 ⟨hK9, vt9, vh9, rfl, h1, h2⟩
            obtain ⟨a5, c5, rfl, _, _⟩ := id h1
            obtain ⟨a6, c6, rfl, _, _⟩ := id h2
            exact HK.out _ _ ⟨_, _, _, _, _, _, _, _, _, _, rfl, (HBJ.out.mv hK9).s4 ⟨_, rfl, a5, c5, a6, c6, rfl, h1.any, h2.any⟩⟩
          · skip
            obtain ⟨⟨z, rfl⟩, hsv⟩ := hB.f4 (ready_waits hr (j := 4) (by kernel_rfl))
            refine wpOpIn_step rfl (fun K hK => ?_)
            have HK := hide hK
            have HBJ := hide hB
            clear hK hB hr
            go_simp
            exact HK.out _ _ ⟨_, _, _, _, _, _, _, _, _, _, rfl, HBJ.out.s5 ⟨⟨_, rfl⟩, hsv⟩⟩
          · skip
            obtain ⟨⟨z, rfl⟩, hsv⟩ := hB.f5 (ready_waits hr (j := 5) (by kernel_rfl))
            refine wpOpIn_step rfl (fun K hK => ?_)
            have HK := hide hK
            have HBJ := hide hB
            clear hK hB hr
            go_simp
            exact HK.out _ _ ⟨_, _, _, _, _, _, _, _, _, _, rfl, HBJ.out.s6 (fun e9 => by obtain ⟨z2, e2, h2⟩ := hsv e9; simp at e2; subst e2; exact h2)⟩
          · skip
            obtain ⟨⟨z, rfl⟩, hsv⟩ := hB.f5 (ready_waits hr (j := 5) (by kernel_rfl))
            refine wpOpIn_step rfl (fun K hK => ?_)
            have HK := hide hK
            have HBJ := hide hB
            clear hK hB hr
            go_simp
            exact HK.out _ _ ⟨_, _, _, _, _, _, _, _, _, _, rfl, HBJ.out.s7 rfl⟩
          · skip
            have h9 : ls.getD 9 false = false := by
              cases hx : ls.getD 9 false with
              | false => rfl
              | true =>
                have h8 := hB.f98 hx
                have h80 := (mem_ready.1 hr).1
                rw [Array.getD_eq_getD_getElem?] at h8 h80
                cases hy : ls[8]? with
                | none => rw [hy] at h8; cases h8
                | some q => rw [hy] at h8 h80; simp at h8 h80; rw [h8] at h80; cases h80
            refine wpOpIn_step rfl (fun K hK => ?_)
            have HK := hide hK
            have HBJ := hide hB
            clear hK hB hr
            go_simp
            exact HK.out _ _ ⟨_, _, _, _, _, _, _, _, _, _, rfl, (HBJ.out.mv ((Kept.refl _ wz).alloc _)).s8 h9 ⟨_, rfl, hsm.size, heap_alloc_new _ _⟩⟩
          · skip
            have h9 : ls.getD 9 false = false := by
              have h80 := (mem_ready.1 hr).1
              rw [Array.getD_eq_getD_getElem?] at h80 ⊢
              cases hy : ls[9]? with
              | none => rfl
              | some q => rw [hy] at h80; exact h80
            have h8 := (ready_waits hr (j := 8) (by kernel_rfl))
            obtain ⟨g11, rfl, hg, hz⟩ := hB.f8 h8
            obtain ⟨a5, c5, a6, c6, rfl, h1, h2⟩ := hB.f6 (ready_waits hr (j := 6) (by kernel_rfl)) h9
            have hzz := hz h9
            obtain ⟨y0, y1⟩ := blk2' hzz
            have y2 := fro2' hzz
            have HZ := hide hzz
            clear hz hzz
            refine wpOpIn_step rfl (fun K hK => ?_)
            have HK := hide hK
            have HBJ := hide hB
            clear hK hB hr
            go_simp
            exact HK.out _ _ ⟨_, _, _, _, _, _, _, _, _, _, rfl, HBJ.out.s9 hls h8 rfl hg HZ.out h1 h2⟩
          · skip
            obtain rfl := hB.f7 (ready_waits hr (j := 7) (by kernel_rfl))
            refine wpOpIn_step rfl (fun K hK => ?_)
            have HK := hide hK
            have HBJ := hide hB
            clear hK hB hr
            go_simp
            exact HK.out _ _ ⟨_, _, _, _, _, _, _, _, _, _, rfl, HBJ.out.s10 rfl⟩
        · rintro ls a wz hls hr ⟨v11, v12, u27, u28, u29, u30, u31, u32, u33, u34, rfl, hB⟩
          have hall := all_listed (by kernel_rfl) hls hr 11
          obtain ⟨g11, a5, c5, a6, c6, rfl, h1, h2, h3⟩ := hB.f9 (hall 9 (by decide) (by show 9 < 11; decide))
          obtain rfl := hB.f10 (hall 10 (by decide) (by show 10 < 11; decide))
          have HS9 := hide hB.same
          clear hB hr hall hls
          gi_wp2
          gi_meet
          case rel => exact ⟨g11, a5, c5, a6, c6, rfl, rfl, HS9.out, h1, h2, h3⟩
      case rest =>
        obtain ⟨g11, a5, c5, a6, c6, rfl, rfl, HS9, hb11, htb, hhb⟩ := hcut
        have HB11 := hide (blk2' hb11.out)
        have HUN := hide (CallsIn.inRound (n := 2) lo (callsIn_wide.2 (stUndo_any wc _ _ b e htb.out hhb.out)))
        obtain ⟨cz, hcz, _⟩ := allS_next HALL.out HB2.out (List.getElem?_eq_getElem hj)
        rw [hee] at hcz
        have HCZ := hide hcz
        obtain ⟨x0, x1⟩ := HB11.out
        obtain ⟨e0, e1, e2, e3, e4, e5⟩ := blk6 (blk_kept HBE.out HS9.out (fun f => f))
        clear hb11 htb hhb hcz
        gi_wp2
        refine ⟨trivial, ?_⟩
        refine HUN.out.mono ?_
        clear HUN x0 x1 e0 e1 e2 e3 e4 e5
        rintro r w6 ⟨hK6, hm⟩
        have HK6 := hide (tra HS9.out hK6)
        clear hK6
        have hN2 := blk_kept (blk_kept HB.out.2.2.1 HK3.out (fun f => f)) HRow.out.2.2.2 (by have h1 := HLT.out; have h2 := HWN.out; show ¬ N + 2 = gk; omega)
        have hN3 := blk_kept (blk_kept HB.out.2.2.2.1 HK3.out (fun f => f)) HRow.out.2.2.2 (by have h1 := HLT.out; have h2 := HWN.out; show ¬ N + 3 = gk; omega)
        cases hu : undoSt b e with
        | error m =>
          rw [hu] at hm HUA
          simp only at hm
          subst hm
          obtain ⟨rfl, _⟩ := undo_err HCZ.out hu
          obtain ⟨w7, hw7⟩ : ∃ w7, w7 = w6.alloc (.cells #[.int .i64 0, .int .i64 0, .int .i64 0, .int .i64 0, .int .i64 0, .string ⟨#[]⟩] 27) := ⟨_, rfl⟩
          have HK7 := hide (show Same Wy w7 by rw [hw7]; exact HK6.out.alloc _)
          have r2 := blk_kept hN2 HK7.out (fun f => f)
          have r3 := blk_kept hN3 HK7.out (fun f => f)
          have d2 : w7.cell? ⟨N + 2, 0, none⟩ = some (.slice none 0 0) := by simp [World.cell?, r2]
          have d3 : w7.cell? ⟨N + 3, 0, none⟩ = some (.int .i64 0) := by simp [World.cell?, r3]
          have e2 : w7.frozen? ⟨N + 2, 0, none⟩ = false := by simp [World.frozen?, r2]
          have e3 : w7.frozen? ⟨N + 3, 0, none⟩ = false := by simp [World.frozen?, r3]
          have hK23 : Kept (fun k => k = N + 2 ∨ k = N + 3) w7 ((w7.setCell ⟨N + 2, 0, none⟩ (.slice none 0 0)).setCell ⟨N + 3, 0, none⟩ (.int .i64 4)) := ((Kept.refl _ w7).setCell (p := ⟨N + 2, 0, none⟩) (fun _ => .inl rfl) _).setCell (p := ⟨N + 3, 0, none⟩) (fun _ => .inr rfl) _
          have hKY2 := (HK7.out.to (X := fun k => k = N + 2 ∨ k = N + 3)).trans hK23 (fun _ _ e => e)
          have hz2 : ((w7.setCell ⟨N + 2, 0, none⟩ (.slice none 0 0)).setCell ⟨N + 3, 0, none⟩ (.int .i64 4)).heap[N + 2]? = some (.cells #[.slice none 0 0] 37 (0, 0)) := by
            simp [World.setCell, Array.getElem?_modify, r2]
          have hz3 : ((w7.setCell ⟨N + 2, 0, none⟩ (.slice none 0 0)).setCell ⟨N + 3, 0, none⟩ (.int .i64 4)).heap[N + 3]? = some (.cells #[.int .i64 4] 28 (0, 0)) := by
            simp [World.setCell, Array.getElem?_modify, r3]
          have HFIN := hide (And.intro (show KeepsFrom w3.heap.size Wy ((w7.setCell ⟨N + 2, 0, none⟩ (.slice none 0 0)).setCell ⟨N + 3, 0, none⟩ (.int .i64 4)) from ⟨hKY2.size, fun k o hk ho _ => by
              rw [hKY2.block k (Array.getElem?_eq_some_iff.1 ho).1 (by have h1 := HLT.out; have h2 := HWN.out; omega)]; exact ho⟩)
            (show HXi s l gk (N + 2) (N + 3) w3 .ret (pre ++ [⟨j, hj⟩]) ((w7.setCell ⟨N + 2, 0, none⟩ (.slice none 0 0)).setCell ⟨N + 3, 0, none⟩ (.int .i64 4)) from
              ⟨rfl, pre, ⟨j, hj⟩, acc, 4, rfl, HRow.out.2.2.1, HUA.out, hz2, hz3, (HRow.out.2.2.2.mono (Y := fun k => k = gk ∨ k = N + 2 ∨ k = N + 3) (fun _ _ e => .inl e)).trans hKY2 (fun _ _ e => .inr e)⟩))
          clear hu hN2 hN3 r2 r3 hK23 hKY2 hz2 hz3
          gi_upto_region 12 with fail
          rw [← hw7]
          clear hw7
          gi_wp2
          exact HFIN.out
        | ok u =>
          rw [hu] at hm HUA
          simp only at hm
          subst hm
          obtain ⟨w7, hw7⟩ : ∃ w7, w7 = w6.alloc (.cells #[.int .i64 u.kind, .int .i64 u.ty, .int .i64 u.id, .int .i64 u.field, .int .i64 u.n, .string ⟨u.text.toArray⟩] 27) := ⟨_, rfl⟩
          obtain ⟨g13, hg13⟩ : ∃ g, g = w6.heap.size := ⟨_, rfl⟩
          have HK7 := hide (show Same Wy w7 by rw [hw7]; exact HK6.out.alloc _)
          obtain ⟨u0, u1, u2, u3, u4, u5⟩ := blk6 (show w7.heap[g13]? = some (.cells #[.int .i64 u.kind, .int .i64 u.ty, .int .i64 u.id, .int .i64 u.field, .int .i64 u.n, .string ⟨u.text.toArray⟩] 27 (0, 0)) by rw [hw7, hg13]; exact heap_alloc_new _ _)
          have hBk := blk_kept HRow.out.1 HK7.out (fun f => f)
          have c2 := blk1c hBk
          have HBk := hide hBk
          have hown7 := own_kept HRow.out.2.1 HK7.out (fun _ _ f => f)
          have HOW := hide hown7
          have hacc : acc.length < l.length := by rw [HRow.out.2.2.1.1]; exact HIX.out.2
          have hl8 := HL8.out
          obtain ⟨i0, hi, hz0, hz1, hz2⟩ := info_parts info_evh
          clear hu hN2 hN3 hBk
          gi_upto_region 14 with fail
          rw [← hw7, ← hg13]
          clear hw7 hg13
          gi_wp2_with (gi_at_builtin; refine wpListIn_append_own _ rfl _ _ 37 rfl w3.heap.size 27 i0 _ 6 56 Tryz.underlying37 hi hz0 hz1 hz2 rfl (by decide) _ _ _ rfl (hown7.alloc _) ⟨w7.heap.size, 0, none⟩ 1 1 (evC u) rfl rfl (new_six (heap_alloc_new w7 _)) (evC_one u) ?a3 ?a4 ?a5 ?_)
          case a3 => unfold maxLen; omega
          case a4 => omega
          case a5 => rw [World.size_alloc]; have h1 := HRow.out.2.2.2.size; have h2 := HK7.out.size; omega
          intro v2 w8 hown8 hgr8 _
          obtain ⟨g2, cap2, hv2⟩ := own_form hown8 (by omega)
          subst hv2
          have hgk3 : gk < w3.heap.size := by have := HLT.out; omega
          have hsz3 : w3.heap.size ≤ Wy.heap.size := HRow.out.2.2.2.size
          have hXb : ∀ k, some k = (Value.slice a acc.length c).ownBlock → w3.heap.size ≤ k := fun k e => (hown7.lt k e.symm).1
          have hKb : Kept (fun k => some k = (Value.slice a acc.length c).ownBlock) w7 w8 := ((Kept.refl _ w7).alloc _).trans (show Kept (fun k => some k = (Value.slice a acc.length c).ownBlock) _ w8 from ⟨hgr8.os, hgr8.tape, hgr8.output, hgr8.size, fun k hk hx => hgr8.block k hk hx⟩) (fun _ _ e => e)
          have hB8 : w8.heap[gk]? = some (.cells #[.slice a acc.length c] 37 (0, 0)) := by
            rw [hKb.block gk (Array.getElem?_eq_some_iff.1 HBk.out).1 (fun e => by have := hXb _ e; omega)]; exact HBk.out
          have c8 := blk1c hB8
          have f8 : w8.frozen? ⟨gk, 0, none⟩ = false := by simp [World.frozen?, hB8]
          have hS : Kept (· = gk) w8 (w8.setCell ⟨gk, 0, none⟩ (.slice (some ⟨g2, 0, none⟩) (acc.length + 1) cap2)) := (Kept.refl _ w8).setB 0 _
          have hKall : Kept (fun k => k = gk ∨ some k = (Value.slice a acc.length c).ownBlock) Wy (w8.setCell ⟨gk, 0, none⟩ (.slice (some ⟨g2, 0, none⟩) (acc.length + 1) cap2)) :=
            ((Same.to HK7.out).trans hKb (fun k _ e => .inr e)).trans hS (fun k _ e => .inl e)
          have HFIN := hide (And.intro ((keepsOthers_of hKall (fun k e o ho => by
              rcases e with rfl | e
              · rw [HRow.out.1] at ho; cases ho; rfl
              · rcases HRow.out.2.1.2 with ⟨e2, _⟩ | ⟨g', cap', cur, e2, _, hc, _⟩
                · have e3 : a = none := by injection e2
                  subst e3; cases e
                · have e3 : a = some ⟨g', 0, none⟩ := by injection e2
                  subst e3
                  cases e
                  rw [hc] at ho; cases ho; rfl)).from w3.heap.size)
            (And.intro (show KpS (fun k => k = gk ∨ k = N + 2 ∨ k = N + 3) w3.heap.size Wy (w8.setCell ⟨gk, 0, none⟩ (.slice (some ⟨g2, 0, none⟩) (acc.length + 1) cap2)) from KpS.of hKall (fun k hk e => by
                rcases e with e | e
                · exact .inl e
                · have := hXb k e; omega) hsz3)
              (show HI s l gk w3.heap.size w3 (pre ++ [⟨j, hj⟩]) (w8.setCell ⟨gk, 0, none⟩ (.slice (some ⟨g2, 0, none⟩) (acc.length + 1) cap2)) from
                ⟨acc ++ [u], some ⟨g2, 0, none⟩, cap2, by rw [List.length_append, List.length_singleton]; simp [World.setCell, Array.getElem?_modify, hB8], by
                  rw [List.length_append, List.length_singleton, evCells_snoc]
                  exact own_kept2 hown8 hS (fun k hk e => row_blk hown8 hB8 (by decide) (by rw [← e]; exact hk)), HRow.out.2.2.1.snoc HUA.out, HRow.out.2.2.2.trans hKall (fun k hk e => by
                  rcases e with e | e
                  · exact e
                  · have := hXb k e; omega)⟩)))
          clear hXb hKb hB8 hS hKall hgr8 hown8 hown7
          gi_wp2
          exact HFIN.out
    case done =>
      rintro D ys Wy hD ⟨hq, hyl⟩ ⟨acc, a, c, hB, hown, hU, hK⟩ hdf
      have hxe : x = .ok acc := by rw [HXB.out]; exact undos_all hq hU hyl
      have HXE := hide hxe
      have h1 := HLT.out
      have h2 := HWN.out
      have h4 := HN.out
      have r2 := blk_kept (blk_kept HB.out.2.2.1 HK3.out (fun f => f)) hK (by show ¬ N + 2 = gk; have := HK1.out.size; omega)
      have r3 := blk_kept (blk_kept HB.out.2.2.2.1 HK3.out (fun f => f)) hK (by show ¬ N + 3 = gk; have := HK1.out.size; omega)
      have c9 := blk1c hB
      have d2 : Wy.cell? ⟨N + 2, 0, none⟩ = some (.slice none 0 0) := by simp [World.cell?, r2]
      have d3 : Wy.cell? ⟨N + 3, 0, none⟩ = some (.int .i64 0) := by simp [World.cell?, r3]
      have e2 : Wy.frozen? ⟨N + 2, 0, none⟩ = false := by simp [World.frozen?, r2]
      have e3 : Wy.frozen? ⟨N + 3, 0, none⟩ = false := by simp [World.frozen?, r3]
      obtain ⟨Wz, hWz⟩ : ∃ Wz, Wz = (Wy.setCell ⟨N + 2, 0, none⟩ (.slice a acc.length c)).setCell ⟨N + 3, 0, none⟩ (.int .i64 0) := ⟨_, rfl⟩
      have hK23 : Kept (fun k => k = N + 2 ∨ k = N + 3) Wy Wz := by
        rw [hWz]
        exact ((Kept.refl _ Wy).setCell (p := ⟨N + 2, 0, none⟩) (fun _ => .inl rfl) _).setCell (p := ⟨N + 3, 0, none⟩) (fun _ => .inr rfl) _
      have hz2 : Wz.heap[N + 2]? = some (.cells #[.slice a acc.length c] 37 (0, 0)) := by
        rw [hWz]; simp [World.setCell, Array.getElem?_modify, r2]
      have hz3 : Wz.heap[N + 3]? = some (.cells #[.int .i64 0] 28 (0, 0)) := by
        rw [hWz]; simp [World.setCell, Array.getElem?_modify, r3]
      have hsz : w3.heap.size ≤ Wy.heap.size := hK.size
      have hDz : Wz.heap[D]? = some (.deferred (some [])) := by
        rw [hK23.block D (Array.getElem?_eq_some_iff.1 hdf).1 (fun e => by omega)]; exact hdf
      have hrz : ∀ r, some D = some r → ∃ o : Obj, Wz.heap[r]? = some o ∧ o.isCells = false := fun r e => by cases e; exact ⟨_, hDz, rfl⟩
      have y2 := blk1c (blk_nc hz2 (grownBy_putObj' Wz D (.deferred none)) hrz)
      have y3 := blk1c (blk_nc hz3 (grownBy_putObj' Wz D (.deferred none)) hrz)
      have hKw := (HK0.out.to (X := fun k => k = gk ∨ k = N + 2 ∨ k = N + 3)).trans ((hK.mono (Y := fun k => k = gk ∨ k = N + 2 ∨ k = N + 3) (fun _ _ e => .inl e)).trans hK23 (fun _ _ e => .inr e)) (fun _ _ e => e)
      have hwsz : w.heap.size ≤ gk := by have := HKW.out.size; have := HK1.out.size; omega
      have hS : Same w (Wz.putObj D (.deferred none)) := ((hKw.mono (Y := fun _ => False) (fun i hi e => by omega))).grown (grownBy_putObj' Wz D (.deferred none)) (fun k e hk => by cases e; have := HK0.out.size; omega)
      have hev : EvSl (w.heap.size ≤ ·) (Wz.putObj D (.deferred none)) (.slice a acc.length c) acc := by
        have ho1 := own_kept2 hown hK23 (fun k hk e => by have := (own_up hown k hk).1; omega)
        have ho2 := own_nc ho1 (grownBy_putObj' Wz D (.deferred none)) hrz
        have hal : acc.length ≤ maxLen := by have := hU.1; have := HL8.out; unfold maxLen; omega
        exact (own_evs ho2 hal).mono (fun k _ hk => by have := HK0.out.size; omega)
      have HF := hide (show backA w (Wz.putObj D (.deferred none)) (.returned (.tuple #[.slice a acc.length c, .int .i64 0])) x from ⟨hS, by rw [HXE.out]; exact ⟨_, rfl, hev⟩⟩)
      have HDZ := hide hDz
      have HY := hide (And.intro y2 y3)
      clear hxe hq hyl hU hK hown hB r2 r3 hK23 hz2 hz3 hsz hDz hrz y2 y3 hKw hwsz hS hev h1 h2 h4 hdf hD
      gi_wp2
      rw [← hWz]
      clear hWz
      refine ⟨by simp, .inl ⟨_, _, rfl, run_takeDeferred HDZ.out, ?_⟩⟩
      refine ⟨.tuple #[.slice a acc.length c, .int .i64 0], ?_, HF.out⟩
      simp [results, Tryz.results18, go_sem, HY.out.1, HY.out.2]
    case stop =>
      rintro D c pre Wy hD hq ⟨rfl, ys, y, acc, m, rfl, hU, hm, r2, r3, hK⟩ hdf
      have hxe : x = .error m := by rw [HXB.out]; exact undos_stop hq hU hm
      have hrz : ∀ r, some D = some r → ∃ o : Obj, Wy.heap[r]? = some o ∧ o.isCells = false := fun r e => by cases e; exact ⟨_, hdf, rfl⟩
      have y2 := blk1c (blk_nc r2 (grownBy_putObj' Wy D (.deferred none)) hrz)
      have y3 := blk1c (blk_nc r3 (grownBy_putObj' Wy D (.deferred none)) hrz)
      have h1 := HLT.out
      have h4 := HN.out
      have hwsz : w.heap.size ≤ gk := by have := HKW.out.size; have := HK1.out.size; omega
      have hS : Same w (Wy.putObj D (.deferred none)) := HK0.out.trans (hK.grown (grownBy_putObj' Wy D (.deferred none)) (fun k e hk => by cases e; omega)) (fun i hi e => by omega)
      gi_wp2
      refine ⟨by simp, .inl ⟨_, _, rfl, run_takeDeferred hdf, ?_⟩⟩
      refine ⟨.tuple #[.slice none 0 0, .int .i64 m], ?_, hS, by rw [hxe]⟩
      simp [results, Tryz.results18, go_sem, y2, y3]

theorem hback_any (P : Nat → Prop) (w : World) (vt vh lv : Value) (s : StateT) (l : List EventT) (ht : TypSl anyB w vt s.types) (hh : ThgSl anyB w vh s.things) (hl : EvSl P w lv l) :
    Calls Tryz.prog 18 #[stV vt vh, lv] w fun e w' => backA w w' e (backS s l) :=
  callsIn_wide.1 (hback_in P w vt vh lv s l ht hh hl)

end Go.Proofs.YtidodjbmlbjchaaGreat
