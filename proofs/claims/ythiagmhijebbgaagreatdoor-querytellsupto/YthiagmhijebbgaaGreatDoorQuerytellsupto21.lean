import Derived.Test.YthiagmhijebbgaaGreatDoorQuerytellsupto20
import Derived.Test.YthiagmhijebbgaaGreatDoorQuerytellsupto10
import Derived.Test.YthiagmhijebbgaaGreatDoorQuerytellsupto15
import Derived.Maps.AppendAt
import Derived.Test.YthiagmhijebbgaaGreatDoorQuerytellsupto19
/- Reading a schema's fields off tokens, case by case. No program is named here. -/
namespace Go.Proofs.YthiagmhijebbgaaGreatDoor

theorem pField_none1 {r : List Tok} (h : ∀ t r', r = t :: r' → t.k ≠ 1) : pField r = none := by
  match r with
  | [] => rfl
  | [_] => rfl
  | a :: b :: r => rw [pField, if_neg (fun e => h a (b :: r) rfl e.1)]
theorem isS_of {c : UInt8} {t : Tok} {r : List Tok} : isS c (t :: r) = true ↔ t.k = 4 ∧ t.s = [c] := by simp [isS]
theorem pField_none2 {a : Tok} {r : List Tok} (h : isS 58 r = false) : pField (a :: r) = none := by
  cases r with
  | nil => rfl
  | cons b r => rw [pField, if_neg (fun e => by rw [isS_of.2 e.2] at h; cases h)]
theorem pField_some {a b : Tok} {r : List Tok} (h : a.k = 1) (h2 : isS 58 (b :: r) = true) : pField (a :: b :: r) = (pKind r).map (fun x => (⟨a.s, x.1.1, x.1.2⟩, x.2)) := by
  rw [pField, if_pos ⟨h, isS_of.1 h2⟩]
theorem pKind_many {a b c : Tok} {r : List Tok} (h : isS 91 (a :: b :: c :: r) = true) (hb : b.k = 1) (hc : isS 93 (c :: r) = true) : pKind (a :: b :: c :: r) = some ((4, b.s), r) := by
  unfold pKind
  dsimp only
  rw [if_pos h, if_pos ⟨hb, isS_of.1 hc⟩]
theorem pKind_many1 {a : Tok} {r : List Tok} (h : isS 91 (a :: r) = true) (hb : ∀ t r', r = t :: r' → t.k ≠ 1) : pKind (a :: r) = none := by
  unfold pKind
  dsimp only
  rw [if_pos h]
  match r with
  | [] => rfl
  | [_] => rfl
  | b :: c :: r => exact if_neg (fun e => hb b (c :: r) rfl e.1)
theorem pKind_many2 {a b : Tok} {r : List Tok} (h : isS 91 (a :: b :: r) = true) (hc : isS 93 r = false) : pKind (a :: b :: r) = none := by
  unfold pKind
  dsimp only
  rw [if_pos h]
  match r with
  | [] => rfl
  | c :: r => exact if_neg (fun e => by rw [isS_of.2 e.2] at hc; cases hc)
theorem pKind_one {a : Tok} {r : List Tok} (h : isS 91 (a :: r) = false) (ha : a.k = 1) : pKind (a :: r) = some ((if a.s = bNumber then (1, []) else if a.s = bText then (2, []) else (3, a.s)), r) := by
  unfold pKind
  dsimp only
  rw [if_neg (by rw [h]; simp), if_pos ha]
theorem pKind_not {r : List Tok} (h : isS 91 r = false) (hb : ∀ t r', r = t :: r' → t.k ≠ 1) : pKind r = none := by
  cases r with
  | nil => rfl
  | cons a r =>
    unfold pKind
    dsimp only
    rw [if_neg (by rw [h]; simp), if_neg (hb a r rfl)]

end Go.Proofs.YthiagmhijebbgaaGreatDoor

/- Read of a text that is right, and of one that is not. -/
namespace Go.Proofs.YthiagmhijebbgaaGreatDoor
open Go.RowKit

/-- Read of a text that is right. -/
theorem read_ok (w : World) (s : ByteArray) (T : List Tok) (h : lexRead s.data.toList = .ok T) (hT : T.length ≤ 9000000000000) :
    Calls Tryz.prog 17 #[.string s] w fun e w' => ∃ v, e = .returned (.tuple #[v, .int .i64 0]) ∧ TokSl w' v T ∧ Same w w' := by
  refine (read_any w s).mono ?_
  rintro e w' (⟨T', v, h1, rfl, h2, h3⟩ | ⟨n, h1, _, rfl, h3⟩)
  · rw [h] at h1
    cases h1
    exact ⟨v, rfl, own_toks h2 hT, h3⟩
  · rw [h] at h1; cases h1
theorem read_bad (w : World) (s : ByteArray) (n : Int) (h : lexRead s.data.toList = .error n) :
    Calls Tryz.prog 17 #[.string s] w fun e w' => e = .returned (.tuple #[.slice none 0 0, .int .i64 n]) ∧ Same w w' ∧ n ≠ 0 := by
  refine (read_any w s).mono ?_
  rintro e w' (⟨T', v, h1, rfl, h2, h3⟩ | ⟨n', h1, h2, rfl, h3⟩)
  · rw [h] at h1; cases h1
  · rw [h] at h1
    cases h1
    exact ⟨rfl, h3, h2⟩

end Go.Proofs.YthiagmhijebbgaaGreatDoor

/- What the readers of queries and of schemas both want. -/
namespace Go.Proofs.YthiagmhijebbgaaGreatDoor
open Go.RowKit

theorem kq {q : Nat} {a b c : World} (h : Kept (· = q) a b) (k : Kept (· = q) b c) : Kept (· = q) a c := h.trans k (fun _ _ e => e)

/-- a call of a Go function that returns, as one step of a region that draws -/
theorem step_call {P : Program} {ops : Array Oper} {o : Oper} {a : Act} {w : World} {K : Act → World → Prop} {Q : Exit → Act → World → Prop} {E : Prop}
    (hg : o.guard = none) (f : FuncId) (args : Array Operand) (ts : Array TypeId) (hop : o.op = Op.call { callee := Callee.value (.func f), args := args, argTypes := ts })
    (vs : Array Value) (hvs : args.map a.eval = vs) (hcf : ∀ w, (callFunc f vs).run P w = .ok (.enter f vs) w) {R : Ending → World → Prop} (hc : Calls P f vs w R)
    (hK : ∀ e w', R e w' → ∃ v, e = .returned v ∧ K (a.put o.dst v) w') :
    if Region.wanted o (yielded ops a.tmps) = true then Oper.wp P o a w K Q else E := by
  have hw : Region.wanted o (yielded ops a.tmps) = true := by simp [Region.wanted, hg]
  rw [if_pos hw]
  unfold Oper.wp
  have hrun : (execOp a.eval o).run P w = .ok (.enter f vs) w := by
    have h1 := hcf w
    unfold execOp
    simp [hop, resolve, invoke, Deferred.ofValue, hvs, Act.eval, h1]
  rw [hrun, Oper.upon_enter]
  refine hc.mono fun e w' hr => ?_
  obtain ⟨v, rfl, hk⟩ := hK e w' hr
  exact hk

theorem fld_text (k n : Int) (s : ByteArray) (w : World) : (Instr.field 58 (.agg #[.int .i64 k, .string s, .int .i64 n]) 1).run Tryz.prog w = .ok (.string s) w := by kernel_rfl

/-- the cells of a block of one's own are kept where only others are turned -/
theorem blk_kept {X : Nat → Prop} {w w' : World} {g : Nat} {o : Obj} (h : w.heap[g]? = some o) (hk : Kept X w w') (hx : ¬ X g) : w'.heap[g]? = some o := by
  rw [hk.block g (Array.getElem?_eq_some_iff.1 h).1 hx]; exact h

/-- a result of three cells, put into its block at the end -/
theorem put3 {w w1 : World} {q g : Nat} {r : List Tok} {a b c : Value} {t : TypeId} (hL : LineAt w1 q r) (hK : Kept (· = q) w w1) (hg : w1.heap[g]? = some (.cells #[a, b, c] t (0, 0))) (hq : q < g) (hw : w.heap.size ≤ g) :
    (∀ x y z, LineAt (((w1.setCell ⟨g, 0, none⟩ x).setCell ⟨g, 1, none⟩ y).setCell ⟨g, 2, none⟩ z) q r ∧ Kept (· = q) w (((w1.setCell ⟨g, 0, none⟩ x).setCell ⟨g, 1, none⟩ y).setCell ⟨g, 2, none⟩ z)) ∧
    w1.cell? ⟨g, 0, none⟩ = some a ∧ w1.cell? ⟨g, 1, none⟩ = some b ∧ w1.cell? ⟨g, 2, none⟩ = some c ∧ ∀ o, w1.frozen? ⟨g, o, none⟩ = false := by
  refine ⟨fun x y z => ?_, by simp [World.cell?, hg], by simp [World.cell?, hg], by simp [World.cell?, hg], fun o => by simp [World.frozen?, hg]⟩
  have hKK : Kept (· = g) w1 (((w1.setCell ⟨g, 0, none⟩ x).setCell ⟨g, 1, none⟩ y).setCell ⟨g, 2, none⟩ z) := ((((Kept.refl _ _).setB 0 x).setB 1 y).setB 2 z)
  exact ⟨hL.after hKK (by intro k hk; omega), hK.trans hKK (fun i hi e => by omega)⟩

/-- append onto an owned row in a region that draws, with the place of the new row -/
theorem step_append_at {P : Program} {ops : Array Oper} {o : Oper} {a : Act} {w : World} {K : Act → World → Prop} {Q : Exit → Act → World → Prop} {E : Prop}
    (hg : o.guard = none) (s x : Operand) (t : TypeId) (hop : o.op = Op.call { callee := Callee.builtin Builtin.append, args := #[s, x], argTypes := #[t, t] })
    (base : Nat) (e : TypeId) (i : TypeInfo) (z : Value) (size bytes : Nat) (h1 : P.underlying t = some (.slice e)) (h2 : P.info? e = some i) (h3 : i.zero = some z) (h4 : i.size = size) (h5 : i.bytes = bytes) (h6 : z.cells.size = size) (h7 : 0 < size)
    (v : Value) (n : Nat) (xs : List Value) (hs : a.eval s = v) (hown : w.ownsRow base e size v n xs)
    (ad : Addr) (m c : Nat) (news : List Value) (hx : a.eval x = .slice (some ad) m c) (hn : news.length = m * size) (hc : ∀ j u, news[j]? = some u → w.cell? (ad.add j) = some u) (h1c : ∀ u ∈ news, u.oneCell' = true)
    (b1 : n + m ≤ maxLen) (b2 : (n + m) * bytes ≤ 140737488355328) (hb : base ≤ w.heap.size)
    (hK : ∀ v' w', w'.ownsRow base e size v' (n + m) (xs ++ news) → w.grownBy w' v.ownBlock → (v'.ownBlock = v.ownBlock ∨ v'.ownBlock = some w.heap.size) → K (a.put o.dst v') w') :
    if Region.wanted o (yielded ops a.tmps) = true then Oper.wp P o a w K Q else E := by
  have hw : Region.wanted o (yielded ops a.tmps) = true := by simp [Region.wanted, hg]
  rw [if_pos hw]
  obtain ⟨v', w', hrun, r1, r2, _, r4⟩ := run_append_own_at (P := P) w base t o.type e i z size bytes h1 h2 h3 h4 h5 h6 h7 v n xs hown ad m c news hn hc h1c b1 b2 hb
  unfold Oper.wp
  simp [execOp, hop, resolve, invoke, builtin, hs, hx, hrun, Result.andThen]
  exact hK v' w' r1 r2 r4

/-- a call of a Go function that panics, as one step of a region that draws -/
theorem step_dies {P : Program} {ops : Array Oper} {o : Oper} {a : Act} {w : World} {K : Act → World → Prop} {Q : Exit → Act → World → Prop} {E : Prop}
    (hg : o.guard = none) (f : FuncId) (args : Array Operand) (ts : Array TypeId) (hop : o.op = Op.call { callee := Callee.value (.func f), args := args, argTypes := ts })
    (vs : Array Value) (hvs : args.map a.eval = vs) (hcf : ∀ w, (callFunc f vs).run P w = .ok (.enter f vs) w) {R : Ending → World → Prop} (hc : Calls P f vs w R)
    (hK : ∀ e w', R e w' → ∃ c, e = .panicked c ∧ Q (.panic c) a w') :
    if Region.wanted o (yielded ops a.tmps) = true then Oper.wp P o a w K Q else E := by
  have hw : Region.wanted o (yielded ops a.tmps) = true := by simp [Region.wanted, hg]
  rw [if_pos hw]
  unfold Oper.wp
  have hrun : (execOp a.eval o).run P w = .ok (.enter f vs) w := by
    have h1 := hcf w
    unfold execOp
    simp [hop, resolve, invoke, Deferred.ofValue, hvs, Act.eval, h1]
  rw [hrun, Oper.upon_enter]
  refine hc.mono fun e w' hr => ?_
  obtain ⟨v, rfl, hk⟩ := hK e w' hr
  exact hk

/-- a result of two cells, put into its block at the end -/
theorem put2 {w w1 : World} {q g : Nat} {r : List Tok} {a b : Value} {t : TypeId} (hL : LineAt w1 q r) (hK : Kept (· = q) w w1) (hg : w1.heap[g]? = some (.cells #[a, b] t (0, 0))) (hq : q < g) (hw : w.heap.size ≤ g) :
    (∀ x y, LineAt ((w1.setCell ⟨g, 0, none⟩ x).setCell ⟨g, 1, none⟩ y) q r ∧ Kept (· = q) w ((w1.setCell ⟨g, 0, none⟩ x).setCell ⟨g, 1, none⟩ y) ∧ Kept (· = g) w1 ((w1.setCell ⟨g, 0, none⟩ x).setCell ⟨g, 1, none⟩ y)) ∧
    w1.cell? ⟨g, 0, none⟩ = some a ∧ w1.cell? ⟨g, 1, none⟩ = some b ∧ ∀ o, w1.frozen? ⟨g, o, none⟩ = false := by
  refine ⟨fun x y => ?_, by simp [World.cell?, hg], by simp [World.cell?, hg], fun o => by simp [World.frozen?, hg]⟩
  have hKK : Kept (· = g) w1 ((w1.setCell ⟨g, 0, none⟩ x).setCell ⟨g, 1, none⟩ y) := (((Kept.refl _ _).setB 0 x).setB 1 y)
  exact ⟨hL.after hKK (by intro k hk; omega), hK.trans hKK (fun i hi e => by omega), hKK⟩

theorem new_c3 (w : World) (x y z : Value) (t : TypeId) : ∀ j u, [x, y, z][j]? = some u → (w.alloc (.cells #[x, y, z] t)).cell? ((⟨w.heap.size, 0, none⟩ : Addr).add j) = some u := by
  intro j u hj
  rw [add_none, Nat.zero_add, World.cell?_alloc_new]
  simpa using hj

theorem own_up {w : World} {base : Nat} {e : TypeId} {size : Nat} {v : Value} {n : Nat} {xs : List Value} (h : w.ownsRow base e size v n xs) (k : Nat) (hk : v.ownBlock = some k) : base ≤ k ∧ k < w.heap.size := h.lt k hk

theorem grown_kept {w w' : World} {row : Option Nat} (h : w.grownBy w' row) : Kept (fun k => some k = row) w w' :=
  ⟨h.os, h.tape, h.output, h.size, fun k hk hx => h.block k hk hx⟩

/-- Read of a text that is right, and how long its row is -/
theorem read_cap (w : World) (s : ByteArray) (T : List Tok) (h : lexRead s.data.toList = .ok T) (hT : T.length ≤ 300) :
    Calls Tryz.prog 17 #[.string s] w fun e w' => ∃ ao cap, e = .returned (.tuple #[.slice ao T.length cap, .int .i64 0]) ∧ T.length ≤ cap ∧ TokSl w' (.slice ao T.length cap) T ∧ Same w w' := by
  refine (read_any w s).mono ?_
  rintro e w' (⟨T', v, h1, rfl, h2, h3⟩ | ⟨n, h1, _, rfl, h3⟩)
  · rw [h] at h1
    cases h1
    have ht := own_toks h2 (by omega)
    rcases h2.2 with ⟨rfl, h0⟩ | ⟨g, cap, cur, rfl, hg, hb, hc1, _⟩
    · rw [h0] at *
      exact ⟨none, 0, rfl, Nat.le_refl _, ht, h3⟩
    · exact ⟨_, cap, rfl, hc1, ht, h3⟩
  · rw [h] at h1; cases h1

theorem blk1 {w : World} {g : Nat} {x : Value} {t : TypeId} (h : w.heap[g]? = some (.cells #[x] t (0, 0))) : w.cell? ⟨g, 0, none⟩ = some x ∧ w.frozen? ⟨g, 0, none⟩ = false := by simp [World.cell?, World.frozen?, h]

end Go.Proofs.YthiagmhijebbgaaGreatDoor

/- query.readArg, readArgs, whatever comes. -/
namespace Go.Proofs.YthiagmhijebbgaaGreatDoor
open Go.RowKit

theorem pArg_n1 {r : List Tok} (h : ∀ t r', r = t :: r' → t.k ≠ 1) : pArg r = none := by
  match r with
  | [] => rfl
  | [_] => rfl
  | [_, _] => rfl
  | a :: b :: c :: r => rw [pArg, if_neg (fun e => h a _ rfl e.1)]
theorem pArg_n2 {a : Tok} {r : List Tok} (h : isS 58 r = false) : pArg (a :: r) = none := by
  match r with
  | [] => rfl
  | [_] => rfl
  | b :: c :: r => rw [pArg, if_neg (fun e => by rw [isS_of.2 e.2.1] at h; cases h)]
theorem pArg_n3 {a b : Tok} {r : List Tok} (h : ∀ t r', r = t :: r' → ([2, 3] : List Int).contains t.k = false) : pArg (a :: b :: r) = none := by
  match r with
  | [] => rfl
  | c :: r =>
    rw [pArg, if_neg (fun e => ?_)]
    have := h c r rfl
    rcases e.2.2 with e | e <;> simp [e] at this
theorem pArg_some {a b c : Tok} {r : List Tok} (h1 : a.k = 1) (h2 : isS 58 (b :: c :: r) = true) (h3 : ([2, 3] : List Int).contains c.k = true) : pArg (a :: b :: c :: r) = some (⟨a.s, decide (c.k = 3), c.s, c.n⟩, r) := by
  rw [pArg, if_pos ⟨h1, isS_of.1 h2, by simpa using h3⟩]

/-- a number or a text must come -/
theorem take23_any (w : World) (q : Nat) (r : List Tok) (h : LineAt w q r) :
    Calls Tryz.prog 93 #[.pointer (some ⟨q, 0, none⟩), .slice (some ⟨w.heap.size, 0, none⟩) 2 2] (w.alloc (.cells #[.int .i64 2, .int .i64 3] 3)) fun e w' =>
      (∃ t r', r = t :: r' ∧ ([2, 3] : List Int).contains t.k = true ∧ e = .returned (.agg #[.int .i64 t.k, .string ⟨t.s.toArray⟩, .int .i64 t.n]) ∧ LineAt w' q r' ∧ Kept (· = q) w w')
      ∨ ((∀ t r', r = t :: r' → ([2, 3] : List Int).contains t.k = false) ∧ e = fault 1 ∧ Kept (· = q) w w') := by
  have kA : Kept (· = q) w (w.alloc (.cells #[.int .i64 2, .int .i64 3] 3)) := (Kept.refl _ w).alloc _
  refine (take_any _ q r _ [2, 3] (h.same ((Kept.refl _ w).alloc _)) (IntSl.new2 w 2 3 _)).mono ?_
  rintro e w' (⟨t, r', h1, h2, h3, h4, h5⟩ | ⟨h1, h2, h3⟩)
  · exact .inl ⟨t, r', h1, h2, h3, h4, kA.trans h5 (fun _ _ e => e)⟩
  · exact .inr ⟨h1, h2, kA.trans h3 (fun _ _ e => e)⟩

/-- a result of four cells, put into its block at the end -/
theorem put4 {w w1 : World} {q g : Nat} {r : List Tok} {a b c d : Value} {t : TypeId} (hL : LineAt w1 q r) (hK : Kept (· = q) w w1) (hg : w1.heap[g]? = some (.cells #[a, b, c, d] t (0, 0))) (hq : q < g) (hw : w.heap.size ≤ g) (o : Obj) :
    (∀ x y z u, LineAt (((((w1.setCell ⟨g, 0, none⟩ x).setCell ⟨g, 1, none⟩ y).setCell ⟨g, 2, none⟩ z).setCell ⟨g, 3, none⟩ u).alloc o) q r ∧ Kept (· = q) w (((((w1.setCell ⟨g, 0, none⟩ x).setCell ⟨g, 1, none⟩ y).setCell ⟨g, 2, none⟩ z).setCell ⟨g, 3, none⟩ u).alloc o)) ∧
    w1.cell? ⟨g, 0, none⟩ = some a ∧ w1.cell? ⟨g, 1, none⟩ = some b ∧ w1.cell? ⟨g, 2, none⟩ = some c ∧ w1.cell? ⟨g, 3, none⟩ = some d ∧ ∀ o, w1.frozen? ⟨g, o, none⟩ = false := by
  refine ⟨fun x y z u => ?_, by simp [World.cell?, hg], by simp [World.cell?, hg], by simp [World.cell?, hg], by simp [World.cell?, hg], fun o => by simp [World.frozen?, hg]⟩
  have hKK : Kept (· = g) w1 (((((w1.setCell ⟨g, 0, none⟩ x).setCell ⟨g, 1, none⟩ y).setCell ⟨g, 2, none⟩ z).setCell ⟨g, 3, none⟩ u).alloc o) := ((((((Kept.refl _ _).setB 0 x).setB 1 y).setB 2 z).setB 3 u).alloc o)
  exact ⟨hL.after hKK (by intro k hk; omega), hK.trans hKK (fun i hi e => by omega)⟩

set_option maxRecDepth 20000 in
set_option maxHeartbeats 1600000 in
theorem readArg_any (w : World) (q : Nat) (r : List Tok) (h : LineAt w q r) :
    Calls Tryz.prog 109 #[.pointer (some ⟨q, 0, none⟩)] w fun e w' =>
      (∃ a r', pArg r = some (a, r') ∧ e = .returned (.agg #[.string ⟨a.name.toArray⟩, .bool a.isText, .string ⟨a.text.toArray⟩, .int .i64 a.n]) ∧ LineAt w' q r' ∧ Kept (· = q) w w')
      ∨ (pArg r = none ∧ e = fault 1 ∧ Kept (· = q) w w') := by
  have hq := h.lt
  have hqn : q ≠ w.heap.size := by omega
  have HA := hide (h.same ((Kept.refl _ w).alloc (.cells #[.string ⟨#[]⟩, .bool false, .string ⟨#[]⟩, .int .i64 0] 63)))
  have ht := take1_any _ q r HA.out
  simp only [World.size_alloc] at ht
  have HT := hide ht
  clear ht
  have HK0 := hide (show Kept (· = q) w (w.alloc (.cells #[.string ⟨#[]⟩, .bool false, .string ⟨#[]⟩, .int .i64 0] 63)) from (Kept.refl _ w).alloc _)
  have HB0 := hide (heap_alloc_new w (.cells #[.string ⟨#[]⟩, .bool false, .string ⟨#[]⟩, .int .i64 0] 63))
  have hfl := fld_text
  clear h
  go_enter Tryz.func109, Tryz.ntmps109
  go_wp2_with fail
  refine HT.out.mono ?_
  rintro e w1 (⟨a, r1, hr1, ha, rfl, hL1, hK1⟩ | ⟨hr1, rfl, hK1⟩)
  · have HR1 := hide hr1
    have HA1 := hide ha
    have HK1 := hide (kq HK0.out hK1)
    have HB1 := hide (blk_kept HB0.out hK1 hqn.symm)
    clear hr1 ha hK1 HT HA HK0 HB0
    go_wp2_with fail
    refine (sign_any _ q r1 58 hL1).mono ?_
    rintro e w2 (⟨b, r2, hr2, hs2, rfl, hL2, hK2⟩ | ⟨hs2, rfl, hK2⟩)
    · have HR2 := hide hr2
      have HS2 := hide hs2
      have HK2 := hide (kq HK1.out hK2)
      have HB2 := hide (blk_kept HB1.out hK2 hqn.symm)
      clear hr2 hs2 hK2 HK1 HB1 hL1
      go_wp2_with fail
      refine (take23_any _ q r2 hL2).mono ?_
      rintro e w3 (⟨c, r3, hr3, hc, rfl, hL3, hK3⟩ | ⟨hr3, rfl, hK3⟩)
      · have HE := hide (show pArg r = some (⟨a.s, decide (c.k = 3), c.s, c.n⟩, r3) by
          have e1 := HR1.out; have e2 := HR2.out; have e3 := HS2.out
          subst hr3
          subst e2
          subst e1
          exact pArg_some HA1.out e3 hc)
        obtain ⟨hput, n0, n1, n2, n3, nf⟩ := put4 hL3 (kq HK2.out hK3) (blk_kept HB2.out hK3 hqn.symm) hq (Nat.le_refl _) (.cells #[.int .i64 c.k, .string ⟨c.s.toArray⟩, .int .i64 c.n] 58)
        have HPUT := hide hput
        have hw3 : w.heap.size < w3.heap.size := World.block_lt_of_cell? w3 _ n0
        obtain ⟨kb, hkb⟩ : ∃ kb, (c.k == 3) = kb := ⟨_, rfl⟩
        have HKB := hide (show decide (c.k = 3) = kb by rw [← hkb]; rfl)
        clear hr3 hc hK3 HK2 HB2 hL2 hL3 hput HR1 HR2 HS2 HA1
        cases kb
        all_goals
          go_wp2_with fail
          refine bodyPost_ret (v := .agg #[.string ⟨a.s.toArray⟩, .bool (decide (c.k = 3)), .string ⟨c.s.toArray⟩, .int .i64 c.n]) (by rw [HKB.out]; simp [results, Tryz.results109, go_sem, n0, n1, n2, n3, hw3]) rfl (.inl ⟨⟨a.s, decide (c.k = 3), c.s, c.n⟩, r3, HE.out, rfl, ?_⟩)
          exact HPUT.out _ _ _ _
      · have HE := hide (show pArg r = none by
          have e1 := HR1.out; have e2 := HR2.out
          subst e2
          subst e1
          exact pArg_n3 hr3)
        clear hr3
        go_wp2_with fail
        exact ⟨rfl, .inr ⟨HE.out, rfl, kq HK2.out hK3⟩⟩
    · have HE := hide (show pArg r = none by rw [HR1.out, pArg_n2 hs2])
      clear hs2
      go_wp2_with fail
      exact ⟨rfl, .inr ⟨HE.out, rfl, kq HK1.out hK2⟩⟩
  · have HE := hide (show pArg r = none from pArg_n1 hr1)
    clear hr1
    go_wp2_with fail
    exact ⟨rfl, .inr ⟨HE.out, rfl, kq HK0.out hK1⟩⟩

end Go.Proofs.YthiagmhijebbgaaGreatDoor
