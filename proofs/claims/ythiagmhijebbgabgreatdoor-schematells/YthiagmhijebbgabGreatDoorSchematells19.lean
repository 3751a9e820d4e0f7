import Derived.Test.YthiagmhijebbgabGreatDoorSchematells17
import Derived.Test.YthiagmhijebbgabGreatDoorSchematells18
import Derived.Maps.AppendAt
/- What the readers of queries and of schemas both want. -/
namespace Go.Proofs.YthiagmhijebbgabGreatDoor
open Go.RowKit

theorem kq {q : Nat} {a b c : World} (h : Kept (· = q) a b) (k : Kept (· = q) b c) : Kept (· = q) a c := h.trans k (fun _ _ e => e)

/-- a call of a Go function that returns, as one step of a region that draws -/
theorem step_call {P : Program} {ops : Array Oper} {o : Oper} {a : Act} {w : World} {K : Act → World → Prop} {Q : Exit → Act → World → Prop} {E : Prop}
    (hg : o.guard = none) (f : FuncId) (args : Array Operand) (ts : Array TypeId) (hop : o.op = Op.call { callee := Callee.value (.func f), args := args, argTypes := ts })
    (vs : Array Value) (hvs : args.map a.eval = vs) (hcf : ∀ w, (callFunc f vs).run P w = .ok (.enter f vs) w) {R : Ending → World → Prop} (hc : Calls P f vs w R)
    (hK : ∀ e w', R e w' → ∃ v, e = .returned v ∧ K (a.put o.dst v) w') :
    if Region.wanted o (yielded ops a.tmps) = true then Oper.wp P o a w K Q else E := by
  have hw : Region.wanted o (yielded ops a.tmps) = true := by simp [Region.wanted, hg]
  rw [if_pos hw]
  unfold Oper.wp
  have hrun : (execOp a.eval o).run P w = .ok (.enter f vs) w := by
    have h1 := hcf w
    unfold execOp
    simp [hop, resolve, invoke, Deferred.ofValue, hvs, Act.eval, h1]
  rw [hrun, Oper.upon_enter]
  refine hc.mono fun e w' hr => ?_
  obtain ⟨v, rfl, hk⟩ := hK e w' hr
  exact hk

theorem fld_text (k n : Int) (s : ByteArray) (w : World) : (Instr.field 65 (.agg #[.int .i64 k, .string s, .int .i64 n]) 1).run Tryz.prog w = .ok (.string s) w := by kernel_rfl

/-- the cells of a block of one's own are kept where only others are turned -/
theorem blk_kept {X : Nat → Prop} {w w' : World} {g : Nat} {o : Obj} (h : w.heap[g]? = some o) (hk : Kept X w w') (hx : ¬ X g) : w'.heap[g]? = some o := by
  rw [hk.block g (Array.getElem?_eq_some_iff.1 h).1 hx]; exact h

/-- a result of three cells, put into its block at the end -/
theorem put3 {w w1 : World} {q g : Nat} {r : List Tok} {a b c : Value} {t : TypeId} (hL : LineAt w1 q r) (hK : Kept (· = q) w w1) (hg : w1.heap[g]? = some (.cells #[a, b, c] t (0, 0))) (hq : q < g) (hw : w.heap.size ≤ g) :
    (∀ x y z, LineAt (((w1.setCell ⟨g, 0, none⟩ x).setCell ⟨g, 1, none⟩ y).setCell ⟨g, 2, none⟩ z) q r ∧ Kept (· = q) w (((w1.setCell ⟨g, 0, none⟩ x).setCell ⟨g, 1, none⟩ y).setCell ⟨g, 2, none⟩ z)) ∧
    w1.cell? ⟨g, 0, none⟩ = some a ∧ w1.cell? ⟨g, 1, none⟩ = some b ∧ w1.cell? ⟨g, 2, none⟩ = some c ∧ ∀ o, w1.frozen? ⟨g, o, none⟩ = false := by
  refine ⟨fun x y z => ?_, by simp [World.cell?, hg], by simp [World.cell?, hg], by simp [World.cell?, hg], fun o => by simp [World.frozen?, hg]⟩
  have hKK : Kept (· = g) w1 (((w1.setCell ⟨g, 0, none⟩ x).setCell ⟨g, 1, none⟩ y).setCell ⟨g, 2, none⟩ z) := ((((Kept.refl _ _).setB 0 x).setB 1 y).setB 2 z)
  exact ⟨hL.after hKK (by intro k hk; omega), hK.trans hKK (fun i hi e => by omega)⟩

/-- append onto an owned row in a region that draws, with the place of the new row -/
theorem step_append_at {P : Program} {ops : Array Oper} {o : Oper} {a : Act} {w : World} {K : Act → World → Prop} {Q : Exit → Act → World → Prop} {E : Prop}
    (hg : o.guard = none) (s x : Operand) (t : TypeId) (hop : o.op = Op.call { callee := Callee.builtin Builtin.append, args := #[s, x], argTypes := #[t, t] })
    (base : Nat) (e : TypeId) (i : TypeInfo) (z : Value) (size bytes : Nat) (h1 : P.underlying t = some (.slice e)) (h2 : P.info? e = some i) (h3 : i.zero = some z) (h4 : i.size = size) (h5 : i.bytes = bytes) (h6 : z.cells.size = size) (h7 : 0 < size)
    (v : Value) (n : Nat) (xs : List Value) (hs : a.eval s = v) (hown : w.ownsRow base e size v n xs)
    (ad : Addr) (m c : Nat) (news : List Value) (hx : a.eval x = .slice (some ad) m c) (hn : news.length = m * size) (hc : ∀ j u, news[j]? = some u → w.cell? (ad.add j) = some u) (h1c : ∀ u ∈ news, u.oneCell' = true)
    (b1 : n + m ≤ maxLen) (b2 : (n + m) * bytes ≤ 140737488355328) (hb : base ≤ w.heap.size)
    (hK : ∀ v' w', w'.ownsRow base e size v' (n + m) (xs ++ news) → w.grownBy w' v.ownBlock → (v'.ownBlock = v.ownBlock ∨ v'.ownBlock = some w.heap.size) → K (a.put o.dst v') w') :
    if Region.wanted o (yielded ops a.tmps) = true then Oper.wp P o a w K Q else E := by
  have hw : Region.wanted o (yielded ops a.tmps) = true := by simp [Region.wanted, hg]
  rw [if_pos hw]
  obtain ⟨v', w', hrun, r1, r2, _, r4⟩ := run_append_own_at (P := P) w base t o.type e i z size bytes h1 h2 h3 h4 h5 h6 h7 v n xs hown ad m c news hn hc h1c b1 b2 hb
  unfold Oper.wp
  simp [execOp, hop, resolve, invoke, builtin, hs, hx, hrun, Result.andThen]
  exact hK v' w' r1 r2 r4

/-- a call of a Go function that panics, as one step of a region that draws -/
theorem step_dies {P : Program} {ops : Array Oper} {o : Oper} {a : Act} {w : World} {K : Act → World → Prop} {Q : Exit → Act → World → Prop} {E : Prop}
    (hg : o.guard = none) (f : FuncId) (args : Array Operand) (ts : Array TypeId) (hop : o.op = Op.call { callee := Callee.value (.func f), args := args, argTypes := ts })
    (vs : Array Value) (hvs : args.map a.eval = vs) (hcf : ∀ w, (callFunc f vs).run P w = .ok (.enter f vs) w) {R : Ending → World → Prop} (hc : Calls P f vs w R)
    (hK : ∀ e w', R e w' → ∃ c, e = .panicked c ∧ Q (.panic c) a w') :
    if Region.wanted o (yielded ops a.tmps) = true then Oper.wp P o a w K Q else E := by
  have hw : Region.wanted o (yielded ops a.tmps) = true := by simp [Region.wanted, hg]
  rw [if_pos hw]
  unfold Oper.wp
  have hrun : (execOp a.eval o).run P w = .ok (.enter f vs) w := by
    have h1 := hcf w
    unfold execOp
    simp [hop, resolve, invoke, Deferred.ofValue, hvs, Act.eval, h1]
  rw [hrun, Oper.upon_enter]
  refine hc.mono fun e w' hr => ?_
  obtain ⟨v, rfl, hk⟩ := hK e w' hr
  exact hk

/-- a result of two cells, put into its block at the end -/
theorem put2 {w w1 : World} {q g : Nat} {r : List Tok} {a b : Value} {t : TypeId} (hL : LineAt w1 q r) (hK : Kept (· = q) w w1) (hg : w1.heap[g]? = some (.cells #[a, b] t (0, 0))) (hq : q < g) (hw : w.heap.size ≤ g) :
    (∀ x y, LineAt ((w1.setCell ⟨g, 0, none⟩ x).setCell ⟨g, 1, none⟩ y) q r ∧ Kept (· = q) w ((w1.setCell ⟨g, 0, none⟩ x).setCell ⟨g, 1, none⟩ y) ∧ Kept (· = g) w1 ((w1.setCell ⟨g, 0, none⟩ x).setCell ⟨g, 1, none⟩ y)) ∧
    w1.cell? ⟨g, 0, none⟩ = some a ∧ w1.cell? ⟨g, 1, none⟩ = some b ∧ ∀ o, w1.frozen? ⟨g, o, none⟩ = false := by
  refine ⟨fun x y => ?_, by simp [World.cell?, hg], by simp [World.cell?, hg], fun o => by simp [World.frozen?, hg]⟩
  have hKK : Kept (· = g) w1 ((w1.setCell ⟨g, 0, none⟩ x).setCell ⟨g, 1, none⟩ y) := (((Kept.refl _ _).setB 0 x).setB 1 y)
  exact ⟨hL.after hKK (by intro k hk; omega), hK.trans hKK (fun i hi e => by omega), hKK⟩

theorem new_c3 (w : World) (x y z : Value) (t : TypeId) : ∀ j u, [x, y, z][j]? = some u → (w.alloc (.cells #[x, y, z] t)).cell? ((⟨w.heap.size, 0, none⟩ : Addr).add j) = some u := by
  intro j u hj
  rw [add_none, Nat.zero_add, World.cell?_alloc_new]
  simpa using hj

theorem own_up {w : World} {base : Nat} {e : TypeId} {size : Nat} {v : Value} {n : Nat} {xs : List Value} (h : w.ownsRow base e size v n xs) (k : Nat) (hk : v.ownBlock = some k) : base ≤ k ∧ k < w.heap.size := h.lt k hk

theorem grown_kept {w w' : World} {row : Option Nat} (h : w.grownBy w' row) : Kept (fun k => some k = row) w w' :=
  ⟨h.os, h.tape, h.output, h.size, fun k hk hx => h.block k hk hx⟩

/-- Read of a text that is right, and how long its row is -/
theorem read_cap (w : World) (s : ByteArray) (T : List Tok) (h : lexRead s.data.toList = .ok T) (hT : T.length ≤ 300) :
    Calls Tryz.prog 23 #[.string s] w fun e w' => ∃ ao cap, e = .returned (.tuple #[.slice ao T.length cap, .int .i64 0]) ∧ T.length ≤ cap ∧ TokSl w' (.slice ao T.length cap) T ∧ Same w w' := by
  refine (read_any w s).mono ?_
  rintro e w' (⟨T', v, h1, rfl, h2, h3⟩ | ⟨n, h1, _, rfl, h3⟩)
  · rw [h] at h1
    cases h1
    have ht := own_toks h2 (by omega)
    rcases h2.2 with ⟨rfl, h0⟩ | ⟨g, cap, cur, rfl, hg, hb, hc1, _⟩
    · rw [h0] at *
      exact ⟨none, 0, rfl, Nat.le_refl _, ht, h3⟩
    · exact ⟨_, cap, rfl, hc1, ht, h3⟩
  · rw [h] at h1; cases h1

theorem blk1 {w : World} {g : Nat} {x : Value} {t : TypeId} (h : w.heap[g]? = some (.cells #[x] t (0, 0))) : w.cell? ⟨g, 0, none⟩ = some x ∧ w.frozen? ⟨g, 0, none⟩ = false := by simp [World.cell?, World.frozen?, h]

end Go.Proofs.YthiagmhijebbgabGreatDoor

/- schema.Read: its parts. -/
namespace Go.Proofs.YthiagmhijebbgabGreatDoor
open Go.RowKit

set_option maxRecDepth 20000 in
theorem word_any (w : World) (q : Nat) (r : List Tok) (s : List UInt8) (h : LineAt w q r) :
    Calls Tryz.prog 104 #[.pointer (some ⟨q, 0, none⟩), .string ⟨s.toArray⟩] w fun e w' =>
      (∃ t r', r = t :: r' ∧ (t.k = 1 ∧ t.s = s) ∧ e = .returned (.tuple #[]) ∧ LineAt w' q r' ∧ Kept (· = q) w w') ∨ ((∀ t r', r = t :: r' → ¬ (t.k = 1 ∧ t.s = s)) ∧ e = fault 1 ∧ Kept (· = q) w w') := by
  have HT := hide (take1_any w q r h)
  have hfl := fld_text
  clear h
  go_enter Tryz.func104, Tryz.ntmps104
  go_wp2_with fail
  refine HT.out.mono ?_
  rintro e w1 (⟨t, r', hr, hk, rfl, hL, hK⟩ | ⟨hr, rfl, hK⟩)
  · have HR := hide hr
    have HKI := hide hk
    clear hr hk
    by_cases hs : t.s = s
    · have hs' : (t.s == s) = true := by simp [hs]
      have HS := hide hs
      clear hs
      go_wp2_with fail
      go_end0
      exact .inl ⟨t, r', HR.out, ⟨HKI.out, HS.out⟩, rfl, hL, hK⟩
    · have hs' : (t.s == s) = false := by simp [hs]
      have HS := hide hs
      clear hs
      go_wp2_with fail
      refine ⟨rfl, .inr ⟨fun u r2 e h => ?_, rfl, hK⟩⟩
      rw [HR.out] at e
      cases e
      exact HS.out h.2
  · have HR := hide hr
    clear hr
    go_wp2_with fail
    exact ⟨rfl, .inr ⟨fun t r' e h => HR.out t r' e h.1, rfl, hK⟩⟩

def fldC (f : FieldT) : List Value := [.string ⟨f.name.toArray⟩, .int .i64 f.kind, .string ⟨f.of.toArray⟩]

end Go.Proofs.YthiagmhijebbgabGreatDoor

/- schema.readField, whatever comes. -/
namespace Go.Proofs.YthiagmhijebbgabGreatDoor
open Go.RowKit

set_option maxRecDepth 20000 in
set_option maxHeartbeats 1000000 in
theorem readField_any (w : World) (q : Nat) (r : List Tok) (h : LineAt w q r) :
    Calls Tryz.prog 106 #[.pointer (some ⟨q, 0, none⟩)] w fun e w' =>
      (∃ f r', pField r = some (f, r') ∧ e = .returned (.agg #[.string ⟨f.name.toArray⟩, .int .i64 f.kind, .string ⟨f.of.toArray⟩]) ∧ LineAt w' q r' ∧ Kept (· = q) w w')
      ∨ (pField r = none ∧ e = fault 1 ∧ Kept (· = q) w w') := by
  have hq := h.lt
  have hqn : q ≠ w.heap.size := by omega
  have HA := hide (h.same ((Kept.refl _ w).alloc (.cells #[.string ⟨#[]⟩, .int .i64 0, .string ⟨#[]⟩] 40)))
  have ht := take1_any _ q r HA.out
  simp only [World.size_alloc] at ht
  have HT := hide ht
  clear ht
  have HK0 := hide (show Kept (· = q) w (w.alloc (.cells #[.string ⟨#[]⟩, .int .i64 0, .string ⟨#[]⟩] 40)) from (Kept.refl _ w).alloc _)
  have HB0 := hide (heap_alloc_new w (.cells #[.string ⟨#[]⟩, .int .i64 0, .string ⟨#[]⟩] 40))
  have hfl := fld_text
  clear h
  go_enter Tryz.func106, Tryz.ntmps106
  go_wp2_with fail
  refine HT.out.mono ?_
  rintro e w1 (⟨a, r1, hr1, ha, rfl, hL1, hK1⟩ | ⟨hr1, rfl, hK1⟩)
  · have HR1 := hide hr1
    have HA1 := hide ha
    have HK1 := hide (kq HK0.out hK1)
    have HB1 := hide (blk_kept HB0.out hK1 hqn.symm)
    clear hr1 ha hK1 HT HA HK0 HB0
    go_wp2_with fail
    refine (sign_any _ q r1 58 hL1).mono ?_
    rintro e w2 (⟨b, r2, hr2, hs2, rfl, hL2, hK2⟩ | ⟨hs2, rfl, hK2⟩)
    · have HR2 := hide hr2
      have HS2 := hide hs2
      have HK2 := hide (kq HK1.out hK2)
      have HB2 := hide (blk_kept HB1.out hK2 hqn.symm)
      have HP := hide (show pField r = (pKind r2).map (fun x => (⟨a.s, x.1.1, x.1.2⟩, x.2)) by
        rw [HR1.out, HR2.out]
        exact pField_some HA1.out (by rw [← HR2.out]; exact HS2.out))
      clear hr2 hs2 hK2 HR2 HS2 HR1 HA1 HK1 HB1 hL1
      go_wp2_with fail
      refine (skip_any _ q r2 91 hL2).mono ?_
      rintro e w3 (⟨c, r3, hr3, hs3, rfl, hL3, hK3⟩ | ⟨hs3, rfl, rfl⟩)
      · have HR3 := hide hr3
        have HS3 := hide hs3
        have HK3 := hide (kq HK2.out hK3)
        have HB3 := hide (blk_kept HB2.out hK3 hqn.symm)
        clear hr3 hs3 hK3 HK2 HB2 hL2
        go_wp2_with fail
        refine (take1_any _ q r3 hL3).mono ?_
        rintro e w4 (⟨d, r4, hr4, hd, rfl, hL4, hK4⟩ | ⟨hr4, rfl, hK4⟩)
        · have HR4 := hide hr4
          have HD := hide hd
          have HK4 := hide (kq HK3.out hK4)
          have HB4 := hide (blk_kept HB3.out hK4 hqn.symm)
          clear hr4 hd hK4 HK3 HB3 hL3
          go_wp2_with fail
          refine (sign_any _ q r4 93 hL4).mono ?_
          rintro e w5 (⟨x, r5, hr5, hs5, rfl, hL5, hK5⟩ | ⟨hs5, rfl, hK5⟩)
          · have HE := hide (show pField r = some (⟨a.s, 4, d.s⟩, r5) by
              have e1 := HR3.out; have e2 := HR4.out; have e4 := HS3.out
              subst hr5
              subst e2
              subst e1
              rw [HP.out, pKind_many e4 HD.out hs5]
              rfl)
            obtain ⟨hput, n0, n1, n2, nf⟩ := put3 hL5 (kq HK4.out hK5) (blk_kept HB4.out hK5 hqn.symm) hq (Nat.le_refl _)
            have HPUT := hide hput
            have hw5 : w.heap.size < w5.heap.size := World.block_lt_of_cell? w5 _ n0
            clear hr5 hs5 hK5 HK4 HB4 hL4 hL5 hput HP HR3 HS3 HR4 HD
            go_wp2_with fail
            refine bodyPost_ret (v := .agg #[.string ⟨a.s.toArray⟩, .int .i64 4, .string ⟨d.s.toArray⟩]) (by simp [results, Tryz.results106, go_sem, n0, n1, n2]) rfl (.inl ⟨⟨a.s, 4, d.s⟩, r5, HE.out, rfl, ?_⟩)
            exact HPUT.out _ _ _
          · have HE := hide (show pField r = none by
              have e1 := HR3.out; have e2 := HR4.out; have e4 := HS3.out
              subst e2
              subst e1
              rw [HP.out, pKind_many2 e4 hs5]
              rfl)
            clear hs5
            go_wp2_with fail
            exact ⟨rfl, .inr ⟨HE.out, rfl, kq HK4.out hK5⟩⟩
        · have HE := hide (show pField r = none by
            have e1 := HR3.out; have e4 := HS3.out
            subst e1
            rw [HP.out, pKind_many1 e4 hr4]
            rfl)
          clear hr4
          go_wp2_with fail
          exact ⟨rfl, .inr ⟨HE.out, rfl, kq HK3.out hK4⟩⟩
      · have HS3 := hide hs3
        clear hs3
        go_wp2_with fail
        refine (take1_any _ q r2 hL2).mono ?_
        rintro e w4 (⟨d, r4, hr4, hd, rfl, hL4, hK4⟩ | ⟨hr4, rfl, hK4⟩)
        · have HE := hide (show pField r = some (⟨a.s, (if d.s = bNumber then ((1 : Int), ([] : List UInt8)) else if d.s = bText then (2, []) else (3, d.s)).1, (if d.s = bNumber then ((1 : Int), ([] : List UInt8)) else if d.s = bText then (2, []) else (3, d.s)).2⟩, r4) by
            have e1 := hr4; have e4 := HS3.out
            subst e1
            rw [HP.out, pKind_one e4 hd]
            rfl)
          obtain ⟨hput, n0, n1, n2, nf⟩ := put3 hL4 (kq HK2.out hK4) (blk_kept HB2.out hK4 hqn.symm) hq (Nat.le_refl _)
          have HPUT := hide hput
          have hw4 : w.heap.size < w4.heap.size := World.block_lt_of_cell? w4 _ n0
          clear hr4 hd hK4 HK2 HB2 hL2 hL4 hput HP HS3
          by_cases hn : d.s = bNumber
          · have HE2 := hide (show pField r = some (⟨a.s, 1, []⟩, r4) by rw [HE.out, if_pos hn])
            rw [hn]
            clear hn HE
            go_wp2_with fail
            refine bodyPost_ret (v := .agg #[.string ⟨a.s.toArray⟩, .int .i64 1, .string ⟨#[]⟩]) (by simp [results, Tryz.results106, go_sem, n0, n1, n2]) rfl (.inl ⟨⟨a.s, 1, []⟩, r4, HE2.out, rfl, ?_⟩)
            exact HPUT.out _ _ _
          · have hn' : (d.s == [78, 117, 109, 98, 101, 114]) = false := by simpa using hn
            by_cases ht : d.s = bText
            · have HE2 := hide (show pField r = some (⟨a.s, 2, []⟩, r4) by rw [HE.out, if_neg hn, if_pos ht])
              rw [ht]
              clear hn hn' ht HE
              go_wp2_with fail
              refine bodyPost_ret (v := .agg #[.string ⟨a.s.toArray⟩, .int .i64 2, .string ⟨#[]⟩]) (by simp [results, Tryz.results106, go_sem, n0, n1, n2]) rfl (.inl ⟨⟨a.s, 2, []⟩, r4, HE2.out, rfl, ?_⟩)
              exact HPUT.out _ _ _
            · have ht' : (d.s == [84, 101, 120, 116]) = false := by simpa using ht
              have HE2 := hide (show pField r = some (⟨a.s, 3, d.s⟩, r4) by rw [HE.out, if_neg hn, if_neg ht])
              clear hn ht HE
              go_wp2_with fail
              refine bodyPost_ret (v := .agg #[.string ⟨a.s.toArray⟩, .int .i64 3, .string ⟨d.s.toArray⟩]) (by simp [results, Tryz.results106, go_sem, n0, n1, n2]) rfl (.inl ⟨⟨a.s, 3, d.s⟩, r4, HE2.out, rfl, ?_⟩)
              exact HPUT.out _ _ _
        · have HE := hide (show pField r = none by rw [HP.out, pKind_not HS3.out hr4]; rfl)
          clear hr4
          go_wp2_with fail
          exact ⟨rfl, .inr ⟨HE.out, rfl, kq HK2.out hK4⟩⟩
    · have HE := hide (show pField r = none by rw [HR1.out, pField_none2 hs2])
      clear hs2
      go_wp2_with fail
      exact ⟨rfl, .inr ⟨HE.out, rfl, kq HK1.out hK2⟩⟩
  · have HE := hide (show pField r = none from pField_none1 hr1)
    clear hr1
    go_wp2_with fail
    exact ⟨rfl, .inr ⟨HE.out, rfl, kq HK0.out hK1⟩⟩

end Go.Proofs.YthiagmhijebbgabGreatDoor
