import Derived.Test.YtdpacnamliklbabGreatDoorSchematurned18
/- schema.readField, whatever comes. -/
namespace Go.Proofs.YtdpacnamliklbabGreatDoor
open Go.RowKit

set_option maxRecDepth 20000 in
set_option maxHeartbeats 1000000 in
theorem readField_any (w : World) (q : Nat) (r : List Tok) (h : LineAt w q r) :
    Calls Tryz.prog 107 #[.pointer (some ⟨q, 0, none⟩)] w fun e w' =>
      (∃ f r', pField r = some (f, r') ∧ e = .returned (.agg #[.string ⟨f.name.toArray⟩, .int .i64 f.kind, .string ⟨f.of.toArray⟩]) ∧ LineAt w' q r' ∧ Kept (· = q) w w')
      ∨ (pField r = none ∧ e = fault 1 ∧ Kept (· = q) w w') := by
  have hq := h.lt
  have hqn : q ≠ w.heap.size := by omega
  have HA := hide (h.same ((Kept.refl _ w).alloc (.cells #[.string ⟨#[]⟩, .int .i64 0, .string ⟨#[]⟩] 40)))
  have ht := take1_any _ q r HA.out
  simp only [World.size_alloc] at ht
  have HT := hide ht
  clear ht
  have HK0 := hide (show Kept (· = q) w (w.alloc (.cells #[.string ⟨#[]⟩, .int .i64 0, .string ⟨#[]⟩] 40)) from (Kept.refl _ w).alloc _)
  have HB0 := hide (heap_alloc_new w (.cells #[.string ⟨#[]⟩, .int .i64 0, .string ⟨#[]⟩] 40))
  have hfl := fld_text
  clear h
  go_enter Tryz.func107, Tryz.ntmps107
  go_wp2_with fail
  refine HT.out.mono ?_
  rintro e w1 (⟨a, r1, hr1, ha, rfl, hL1, hK1⟩ | ⟨hr1, rfl, hK1⟩)
  · have HR1 := hide hr1
    have HA1 := hide ha
    have HK1 := hide (kq HK0.out hK1)
    have HB1 := hide (blk_kept HB0.out hK1 hqn.symm)
    clear hr1 ha hK1 HT HA HK0 HB0
    go_wp2_with fail
    refine (sign_any _ q r1 58 hL1).mono ?_
    rintro e w2 (⟨b, r2, hr2, hs2, rfl, hL2, hK2⟩ | ⟨hs2, rfl, hK2⟩)
    · have HR2 := hide hr2
      have HS2 := hide hs2
      have HK2 := hide (kq HK1.out hK2)
      have HB2 := hide (blk_kept HB1.out hK2 hqn.symm)
      have HP := hide (show pField r = (pKind r2).map (fun x => (⟨a.s, x.1.1, x.1.2⟩, x.2)) by
        rw [HR1.out, HR2.out]
        exact pField_some HA1.out (by rw [← HR2.out]; exact HS2.out))
      clear hr2 hs2 hK2 HR2 HS2 HR1 HA1 HK1 HB1 hL1
      go_wp2_with fail
      refine (skip_any _ q r2 91 hL2).mono ?_
      rintro e w3 (⟨c, r3, hr3, hs3, rfl, hL3, hK3⟩ | ⟨hs3, rfl, rfl⟩)
      · have HR3 := hide hr3
        have HS3 := hide hs3
        have HK3 := hide (kq HK2.out hK3)
        have HB3 := hide (blk_kept HB2.out hK3 hqn.symm)
        clear hr3 hs3 hK3 HK2 HB2 hL2
        go_wp2_with fail
        refine (take1_any _ q r3 hL3).mono ?_
        rintro e w4 (⟨d, r4, hr4, hd, rfl, hL4, hK4⟩ | ⟨hr4, rfl, hK4⟩)
        · have HR4 := hide hr4
          have HD := hide hd
          have HK4 := hide (kq HK3.out hK4)
          have HB4 := hide (blk_kept HB3.out hK4 hqn.symm)
          clear hr4 hd hK4 HK3 HB3 hL3
          go_wp2_with fail
          refine (sign_any _ q r4 93 hL4).mono ?_
          rintro e w5 (⟨x, r5, hr5, hs5, rfl, hL5, hK5⟩ | ⟨hs5, rfl, hK5⟩)
          · have HE := hide (show pField r = some (⟨a.s, 4, d.s⟩, r5) by
              have e1 := HR3.out; have e2 := HR4.out; have e4 := HS3.out
              subst hr5
              subst e2
              subst e1
              rw [HP.out, pKind_many e4 HD.out hs5]
              rfl)
            obtain ⟨hput, n0, n1, n2, nf⟩ := put3 hL5 (kq HK4.out hK5) (blk_kept HB4.out hK5 hqn.symm) hq (Nat.le_refl _)
            have HPUT := hide hput
            have hw5 : w.heap.size < w5.heap.size := World.block_lt_of_cell? w5 _ n0
            clear hr5 hs5 hK5 HK4 HB4 hL4 hL5 hput HP HR3 HS3 HR4 HD
            go_wp2_with fail
            refine bodyPost_ret (v := .agg #[.string ⟨a.s.toArray⟩, .int .i64 4, .string ⟨d.s.toArray⟩]) (by simp [results, Tryz.results107, go_sem, n0, n1, n2]) rfl (.inl ⟨⟨a.s, 4, d.s⟩, r5, HE.out, rfl, ?_⟩)
            exact HPUT.out _ _ _
          · have HE := hide (show pField r = none by
              have e1 := HR3.out; have e2 := HR4.out; have e4 := HS3.out
              subst e2
              subst e1
              rw [HP.out, pKind_many2 e4 hs5]
              rfl)
            clear hs5
            go_wp2_with fail
            exact ⟨rfl, .inr ⟨HE.out, rfl, kq HK4.out hK5⟩⟩
        · have HE := hide (show pField r = none by
            have e1 := HR3.out; have e4 := HS3.out
            subst e1
            rw [HP.out, pKind_many1 e4 hr4]
            rfl)
          clear hr4
          go_wp2_with fail
          exact ⟨rfl, .inr ⟨HE.out, rfl, kq HK3.out hK4⟩⟩
      · have HS3 := hide hs3
        clear hs3
        go_wp2_with fail
        refine (take1_any _ q r2 hL2).mono ?_
        rintro e w4 (⟨d, r4, hr4, hd, rfl, hL4, hK4⟩ | ⟨hr4, rfl, hK4⟩)
        · have HE := hide (show pField r = some (⟨a.s, (if d.s = bNumber then ((1 : Int), ([] : List UInt8)) else if d.s = bText then (2, []) else (3, d.s)).1, (if d.s = bNumber then ((1 : Int), ([] : List UInt8)) else if d.s = bText then (2, []) else (3, d.s)).2⟩, r4) by
            have e1 := hr4; have e4 := HS3.out
            subst e1
            rw [HP.out, pKind_one e4 hd]
            rfl)
          obtain ⟨hput, n0, n1, n2, nf⟩ := put3 hL4 (kq HK2.out hK4) (blk_kept HB2.out hK4 hqn.symm) hq (Nat.le_refl _)
          have HPUT := hide hput
          have hw4 : w.heap.size < w4.heap.size := World.block_lt_of_cell? w4 _ n0
          clear hr4 hd hK4 HK2 HB2 hL2 hL4 hput HP HS3
          by_cases hn : d.s = bNumber
          · have HE2 := hide (show pField r = some (⟨a.s, 1, []⟩, r4) by rw [HE.out, if_pos hn])
            rw [hn]
            clear hn HE
            go_wp2_with fail
            refine bodyPost_ret (v := .agg #[.string ⟨a.s.toArray⟩, .int .i64 1, .string ⟨#[]⟩]) (by simp [results, Tryz.results107, go_sem, n0, n1, n2]) rfl (.inl ⟨⟨a.s, 1, []⟩, r4, HE2.out, rfl, ?_⟩)
            exact HPUT.out _ _ _
          · have hn' : (d.s == [78, 117, 109, 98, 101, 114]) = false := by simpa using hn
            by_cases ht : d.s = bText
            · have HE2 := hide (show pField r = some (⟨a.s, 2, []⟩, r4) by rw [HE.out, if_neg hn, if_pos ht])
              rw [ht]
              clear hn hn' ht HE
              go_wp2_with fail
              refine bodyPost_ret (v := .agg #[.string ⟨a.s.toArray⟩, .int .i64 2, .string ⟨#[]⟩]) (by simp [results, Tryz.results107, go_sem, n0, n1, n2]) rfl (.inl ⟨⟨a.s, 2, []⟩, r4, HE2.out, rfl, ?_⟩)
              exact HPUT.out _ _ _
            · have ht' : (d.s == [84, 101, 120, 116]) = false := by simpa using ht
              have HE2 := hide (show pField r = some (⟨a.s, 3, d.s⟩, r4) by rw [HE.out, if_neg hn, if_neg ht])
              clear hn ht HE
              go_wp2_with fail
              refine bodyPost_ret (v := .agg #[.string ⟨a.s.toArray⟩, .int .i64 3, .string ⟨d.s.toArray⟩]) (by simp [results, Tryz.results107, go_sem, n0, n1, n2]) rfl (.inl ⟨⟨a.s, 3, d.s⟩, r4, HE2.out, rfl, ?_⟩)
              exact HPUT.out _ _ _
        · have HE := hide (show pField r = none by rw [HP.out, pKind_not HS3.out hr4]; rfl)
          clear hr4
          go_wp2_with fail
          exact ⟨rfl, .inr ⟨HE.out, rfl, kq HK2.out hK4⟩⟩
    · have HE := hide (show pField r = none by rw [HR1.out, pField_none2 hs2])
      clear hs2
      go_wp2_with fail
      exact ⟨rfl, .inr ⟨HE.out, rfl, kq HK1.out hK2⟩⟩
  · have HE := hide (show pField r = none from pField_none1 hr1)
    clear hr1
    go_wp2_with fail
    exact ⟨rfl, .inr ⟨HE.out, rfl, kq HK0.out hK1⟩⟩

end Go.Proofs.YtdpacnamliklbabGreatDoor

/- schema.readType, whatever comes. -/
namespace Go.Proofs.YtdpacnamliklbabGreatDoor
open Go.RowKit

theorem pField_len {r r' : List Tok} {f : FieldT} (h : pField r = some (f, r')) : r'.length + 3 ≤ r.length := by
  match r, h with
  | a :: b :: r, h =>
    rw [pField] at h
    split at h
    · cases hk : pKind r with
      | none => rw [hk] at h; cases h
      | some x =>
        rw [hk] at h
        cases h
        have : x.2.length + 1 ≤ r.length := by
          cases r with
          | nil => cases hk
          | cons a r =>
            unfold pKind at hk
            dsimp only at hk
            split at hk
            · match r, hk with
              | b :: c :: r, hk =>
                dsimp only at hk
                split at hk
                · cases hk; simp
                · cases hk
              | [], hk => cases hk
              | [_], hk => cases hk
            · split at hk
              · cases hk; simp
              · cases hk
        simp; omega
    · cases h
  | [], h => cases h
  | [_], h => cases h

/-- how far the fields have been read: acc are read, rj is next -/
def fRel (r0 : List Tok) (g : Nat) (rj : List Tok) (acc : List FieldT) : Prop := pFields r0.length r0 = (pFields g rj).map (fun x => (acc ++ x.1, x.2))
theorem fRel.start (r0 : List Tok) : fRel r0 r0.length r0 [] := by
  unfold fRel
  cases pFields r0.length r0 <;> simp
theorem fRel.bad {r0 rj : List Tok} {g : Nat} {acc : List FieldT} (h : fRel r0 g rj acc) (hp : pField rj = none) : pFields r0.length r0 = none := by
  rw [h]
  cases g with
  | zero => rfl
  | succ g => rw [pFields, hp]; rfl
theorem fRel.last {r0 rj r1 : List Tok} {g : Nat} {acc : List FieldT} {f : FieldT} (h : fRel r0 (g + 1) rj acc) (hp : pField rj = some (f, r1)) (hs : isS 125 r1 = true) : pFields r0.length r0 = some (acc ++ [f], r1.tail) := by
  rw [h, pFields, hp]
  simp only [hs, if_true, Option.map_some]
theorem fRel.step {r0 rj r1 : List Tok} {g : Nat} {acc : List FieldT} {f : FieldT} (h : fRel r0 (g + 1) rj acc) (hp : pField rj = some (f, r1)) (hs : isS 125 r1 = false) : fRel r0 g r1 (acc ++ [f]) := by
  unfold fRel
  rw [h, pFields, hp]
  simp only [hs]
  cases pFields g r1 <;> simp

def fldCells (l : List FieldT) : List Value := l.flatMap fldC
theorem fldCells_snoc (l : List FieldT) (f : FieldT) : fldCells (l ++ [f]) = fldCells l ++ fldC f := by simp [fldCells]
theorem fldC_one (f : FieldT) : ∀ u ∈ fldC f, u.oneCell' = true := by intro u hu; simp [fldC] at hu; rcases hu with rfl | rfl | rfl <;> rfl

theorem fldCells_get (l : List FieldT) : ∀ (i : Nat) (f : FieldT), l[i]? = some f → (fldCells l)[3 * i]? = some (.string ⟨f.name.toArray⟩) ∧ (fldCells l)[3 * i + 1]? = some (.int .i64 f.kind) ∧ (fldCells l)[3 * i + 2]? = some (.string ⟨f.of.toArray⟩) := by
  induction l with
  | nil => intro i t h; simp at h
  | cons x r ih =>
    intro i t h
    have e : fldCells (x :: r) = .string ⟨x.name.toArray⟩ :: .int .i64 x.kind :: .string ⟨x.of.toArray⟩ :: fldCells r := by simp [fldCells, fldC]
    cases i with
    | zero => simp at h; subst h; rw [e]; simp
    | succ i =>
      simp at h
      have := ih i t h
      rw [e, show 3 * (i + 1) = 3 * i + 1 + 1 + 1 from by omega, show 3 * i + 1 + 1 + 1 + 1 = (3 * i + 1) + 1 + 1 + 1 from rfl, show 3 * i + 1 + 1 + 1 + 2 = (3 * i + 2) + 1 + 1 + 1 from by omega]
      simpa using this

/-- a row of fields that the call owns is a slice of fields -/
theorem own_flds {w : World} {base : Nat} {v : Value} {l : List FieldT} (h : w.ownsRow base 40 3 v l.length (fldCells l)) (hl : l.length ≤ 9000000000000) : FldSl (fun b => base ≤ b) w v l := by
  have hc := fun g => World.ownsRow.cells h (g := g)
  rcases h.2 with ⟨rfl, h0⟩ | ⟨g, cap, cur, rfl, hg, hb, hc1, hc2, hc3, htk⟩
  · obtain rfl : l = [] := List.length_eq_zero_iff.1 h0
    exact FldSl.nil _ w
  · refine ⟨_, cap, rfl, ⟨by unfold maxLen; omega, hc1⟩, fun i t ht => ⟨g, 0, rfl, hg, ?_⟩⟩
    obtain ⟨h1, h2, h3⟩ := fldCells_get l i t ht
    have k1 := hc g rfl _ _ h1
    have k2 := hc g rfl _ _ h2
    have k3 := hc g rfl _ _ h3
    rw [add_none] at k1 k2 k3
    rw [show 0 + i * 3 = 0 + 3 * i from by omega]
    exact ⟨k1, k2, k3⟩

theorem infoF : (Tryz.prog.info? 40).map (fun i => (i.zero, i.size, i.bytes)) = some (some (.agg #[.string ⟨#[]⟩, .int .i64 0, .string ⟨#[]⟩]), 3, 40) := by kernel_rfl

/-- append onto an owned row in a region that draws, with the place of the new row -/
theorem step_append_at {P : Program} {ops : Array Oper} {o : Oper} {a : Act} {w : World} {K : Act → World → Prop} {Q : Exit → Act → World → Prop} {E : Prop}
    (hg : o.guard = none) (s x : Operand) (t : TypeId) (hop : o.op = Op.call { callee := Callee.builtin Builtin.append, args := #[s, x], argTypes := #[t, t] })
    (base : Nat) (e : TypeId) (i : TypeInfo) (z : Value) (size bytes : Nat) (h1 : P.underlying t = some (.slice e)) (h2 : P.info? e = some i) (h3 : i.zero = some z) (h4 : i.size = size) (h5 : i.bytes = bytes) (h6 : z.cells.size = size) (h7 : 0 < size)
    (v : Value) (n : Nat) (xs : List Value) (hs : a.eval s = v) (hown : w.ownsRow base e size v n xs)
    (ad : Addr) (m c : Nat) (news : List Value) (hx : a.eval x = .slice (some ad) m c) (hn : news.length = m * size) (hc : ∀ j u, news[j]? = some u → w.cell? (ad.add j) = some u) (h1c : ∀ u ∈ news, u.oneCell' = true)
    (b1 : n + m ≤ maxLen) (b2 : (n + m) * bytes ≤ 140737488355328) (hb : base ≤ w.heap.size)
    (hK : ∀ v' w', w'.ownsRow base e size v' (n + m) (xs ++ news) → w.grownBy w' v.ownBlock → (v'.ownBlock = v.ownBlock ∨ v'.ownBlock = some w.heap.size) → K (a.put o.dst v') w') :
    if Region.wanted o (yielded ops a.tmps) = true then Oper.wp P o a w K Q else E := by
  have hw : Region.wanted o (yielded ops a.tmps) = true := by simp [Region.wanted, hg]
  rw [if_pos hw]
  obtain ⟨v', w', hrun, r1, r2, _, r4⟩ := run_append_own_at (P := P) w base t o.type e i z size bytes h1 h2 h3 h4 h5 h6 h7 v n xs hown ad m c news hn hc h1c b1 b2 hb
  unfold Oper.wp
  simp [execOp, hop, resolve, invoke, builtin, hs, hx, hrun, Result.andThen]
  exact hK v' w' r1 r2 r4

/-- a call of a Go function that panics, as one step of a region that draws -/
theorem step_dies {P : Program} {ops : Array Oper} {o : Oper} {a : Act} {w : World} {K : Act → World → Prop} {Q : Exit → Act → World → Prop} {E : Prop}
    (hg : o.guard = none) (f : FuncId) (args : Array Operand) (ts : Array TypeId) (hop : o.op = Op.call { callee := Callee.value (.func f), args := args, argTypes := ts })
    (vs : Array Value) (hvs : args.map a.eval = vs) (hcf : ∀ w, (callFunc f vs).run P w = .ok (.enter f vs) w) {R : Ending → World → Prop} (hc : Calls P f vs w R)
    (hK : ∀ e w', R e w' → ∃ c, e = .panicked c ∧ Q (.panic c) a w') :
    if Region.wanted o (yielded ops a.tmps) = true then Oper.wp P o a w K Q else E := by
  have hw : Region.wanted o (yielded ops a.tmps) = true := by simp [Region.wanted, hg]
  rw [if_pos hw]
  unfold Oper.wp
  have hrun : (execOp a.eval o).run P w = .ok (.enter f vs) w := by
    have h1 := hcf w
    unfold execOp
    simp [hop, resolve, invoke, Deferred.ofValue, hvs, Act.eval, h1]
  rw [hrun, Oper.upon_enter]
  refine hc.mono fun e w' hr => ?_
  obtain ⟨v, rfl, hk⟩ := hK e w' hr
  exact hk

/-- a result of two cells, put into its block at the end -/
theorem put2 {w w1 : World} {q g : Nat} {r : List Tok} {a b : Value} {t : TypeId} (hL : LineAt w1 q r) (hK : Kept (· = q) w w1) (hg : w1.heap[g]? = some (.cells #[a, b] t (0, 0))) (hq : q < g) (hw : w.heap.size ≤ g) :
    (∀ x y, LineAt ((w1.setCell ⟨g, 0, none⟩ x).setCell ⟨g, 1, none⟩ y) q r ∧ Kept (· = q) w ((w1.setCell ⟨g, 0, none⟩ x).setCell ⟨g, 1, none⟩ y) ∧ Kept (· = g) w1 ((w1.setCell ⟨g, 0, none⟩ x).setCell ⟨g, 1, none⟩ y)) ∧
    w1.cell? ⟨g, 0, none⟩ = some a ∧ w1.cell? ⟨g, 1, none⟩ = some b ∧ ∀ o, w1.frozen? ⟨g, o, none⟩ = false := by
  refine ⟨fun x y => ?_, by simp [World.cell?, hg], by simp [World.cell?, hg], fun o => by simp [World.frozen?, hg]⟩
  have hKK : Kept (· = g) w1 ((w1.setCell ⟨g, 0, none⟩ x).setCell ⟨g, 1, none⟩ y) := (((Kept.refl _ _).setB 0 x).setB 1 y)
  exact ⟨hL.after hKK (by intro k hk; omega), hK.trans hKK (fun i hi e => by omega), hKK⟩

theorem new_c3 (w : World) (x y z : Value) (t : TypeId) : ∀ j u, [x, y, z][j]? = some u → (w.alloc (.cells #[x, y, z] t)).cell? ((⟨w.heap.size, 0, none⟩ : Addr).add j) = some u := by
  intro j u hj
  rw [add_none, Nat.zero_add, World.cell?_alloc_new]
  simpa using hj

theorem own_up {w : World} {base : Nat} {e : TypeId} {size : Nat} {v : Value} {n : Nat} {xs : List Value} (h : w.ownsRow base e size v n xs) (k : Nat) (hk : v.ownBlock = some k) : base ≤ k ∧ k < w.heap.size := h.lt k hk

theorem grown_kept {w w' : World} {row : Option Nat} (h : w.grownBy w' row) : Kept (fun k => some k = row) w w' :=
  ⟨h.os, h.tape, h.output, h.size, fun k hk hx => h.block k hk hx⟩

theorem enters_readField (args : Array Value) (w : World) : (callFunc 107 args).run Tryz.prog w = .ok (.enter 107 args) w := by kernel_rfl

theorem readField_ok (w : World) (q : Nat) (r r' : List Tok) (f : FieldT) (h : LineAt w q r) (hp : pField r = some (f, r')) :
    Calls Tryz.prog 107 #[.pointer (some ⟨q, 0, none⟩)] w fun e w' => e = .returned (.agg #[.string ⟨f.name.toArray⟩, .int .i64 f.kind, .string ⟨f.of.toArray⟩]) ∧ LineAt w' q r' ∧ Kept (· = q) w w' := by
  refine (readField_any w q r h).mono ?_
  rintro e w' (⟨f', r2, h1, h2, h3, h4⟩ | ⟨h1, _, _⟩)
  · rw [hp] at h1; cases h1; exact ⟨h2, h3, h4⟩
  · rw [hp] at h1; cases h1
theorem readField_no (w : World) (q : Nat) (r : List Tok) (h : LineAt w q r) (hp : pField r = none) :
    Calls Tryz.prog 107 #[.pointer (some ⟨q, 0, none⟩)] w fun e w' => e = fault 1 ∧ Kept (· = q) w w' := by
  refine (readField_any w q r h).mono ?_
  rintro e w' (⟨f', r2, h1, h2, h3, h4⟩ | ⟨_, h2, h3⟩)
  · rw [hp] at h1; cases h1
  · exact ⟨h2, h3⟩

theorem pType_none1 {r : List Tok} (h : ∀ t r', r = t :: r' → ¬ (t.k = 1 ∧ t.s = bType)) : pType r = none := by
  match r with
  | [] => rfl
  | [_] => rfl
  | [_, _] => rfl
  | a :: b :: c :: r => rw [pType, if_neg (fun e => h a _ rfl e.1)]
theorem pType_none2 {a : Tok} {r : List Tok} (h : ∀ t r', r = t :: r' → t.k ≠ 1) : pType (a :: r) = none := by
  match r with
  | [] => rfl
  | [_] => rfl
  | b :: c :: r => rw [pType, if_neg (fun e => h b _ rfl e.2.1)]
theorem pType_none3 {a b : Tok} {r : List Tok} (h : isS 123 r = false) : pType (a :: b :: r) = none := by
  match r with
  | [] => rfl
  | c :: r => rw [pType, if_neg (fun e => by rw [isS_of.2 e.2.2] at h; cases h)]
theorem pType_some {a b c : Tok} {r : List Tok} (h1 : a.k = 1 ∧ a.s = bType) (h2 : b.k = 1) (h3 : isS 123 (c :: r) = true) : pType (a :: b :: c :: r) = (pFields r.length r).map (fun x => (⟨b.s, x.1⟩, x.2)) := by
  rw [pType, if_pos ⟨h1, h2, isS_of.1 h3⟩]

end Go.Proofs.YtdpacnamliklbabGreatDoor
