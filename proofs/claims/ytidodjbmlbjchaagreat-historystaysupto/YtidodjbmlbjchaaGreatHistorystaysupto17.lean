import Derived.Test.YtidodjbmlbjchaaGreatHistorystaysupto13
import Derived.Test.YtidodjbmlbjchaaGreatHistorystaysupto16
import Derived.Test.YtidodjbmlbjchaaGreatHistorystaysupto11
import Derived.Test.YtidodjbmlbjchaaGreatHistorystaysupto14
import Derived.Maps.AppendAt
/- state: what is wrong with a cell. -/
namespace Go.Proofs.YtidodjbmlbjchaaGreat
open Go.RowKit

theorem isIndex_is (w : World) (i : Int) (n : Nat) (q : Bool) (hq : isIx i n = q) :
    Calls Tryz.prog 52 #[.int .i64 i, .int .i64 n] w fun e w' => e = .returned (.bool q) ∧ w' = w :=
  (pIsIndex i n w).mono (fun e w' h => ⟨by rw [h.1, ← isIx_I, hq], h.2⟩)
theorem isId_is (w : World) (i : Int) (q : Bool) (hq : isIdT i = q) :
    Calls Tryz.prog 53 #[.int .i64 i] w fun e w' => e = .returned (.bool q) ∧ w' = w :=
  (pIsId i w).mono (fun e w' h => ⟨by rw [h.1, hq], h.2⟩)

theorem mostIds_is (w : World) (k : Int) : Calls Tryz.prog 93 #[.int .i64 k] w fun e w' => e = .returned (.int .i64 (mostI k)) ∧ w' = w := by
  by_cases h : k = 3
  · subst h
    go_enter Tryz.func93, Tryz.ntmps93
    go_wp2_with fail
    go_ret
    exact ⟨rfl, rfl⟩
  · have HF := hide (show (mostI k : Int) = 6 by unfold mostI; rw [if_neg h]; rfl)
    have hb : (k == 3) = false := by simp [h]
    clear h
    go_enter Tryz.func93, Tryz.ntmps93
    go_wp2_with fail
    go_ret
    exact ⟨ret_int HF.out.symm, rfl⟩

theorem onlyNamed_is (w : World) (k : Int) (c : CellT) (ai : Option Addr) (ci : Nat) (q : Bool) (hq : onlyN k c = q) :
    Calls Tryz.prog 91 #[.int .i64 k, ceV c (.slice ai c.ids.length ci)] w fun e w' => e = .returned (.bool q) ∧ Same w w' := by
  obtain ⟨n, tx, ids⟩ := c
  have HQ := hide hq
  clear hq
  unfold onlyN at HQ
  simp only at HQ
  obtain ⟨m, hm⟩ : ∃ m, m = ids.length := ⟨_, rfl⟩
  rw [← hm] at HQ ⊢
  clear hm
  by_cases h1 : k = 1
  · subst h1
    go_enter Tryz.func91, Tryz.ntmps91
    go_wp2_with fail
    all_goals (go_ret; refine ⟨ret_bool ?_, (by repeat' (first | assumption | exact Kept.refl _ _ | refine Kept.drewN ?_ _ | refine Kept.drew ?_ | refine Kept.alloc ?_ _ | refine Kept.setB ?_ _ _))⟩; rw [← HQ.out, Bool.eq_iff_iff]; simp [*]; try omega)
  · by_cases h2 : k = 2
    · subst h2
      go_enter Tryz.func91, Tryz.ntmps91
      go_wp2_with fail
      all_goals (go_ret; refine ⟨ret_bool ?_, (by repeat' (first | assumption | exact Kept.refl _ _ | refine Kept.drewN ?_ _ | refine Kept.drew ?_ | refine Kept.alloc ?_ _ | refine Kept.setB ?_ _ _))⟩; rw [← HQ.out, Bool.eq_iff_iff]; simp [*]; try omega)
    · have b1 : (k == 1) = false := by simp [h1]
      have b2 : (k == 2) = false := by simp [h2]
      rw [if_neg h1, if_neg h2] at HQ
      clear h1 h2
      go_enter Tryz.func91, Tryz.ntmps91
      go_wp2_with fail
      all_goals (go_ret; refine ⟨ret_bool ?_, (by repeat' (first | assumption | exact Kept.refl _ _ | refine Kept.drewN ?_ _ | refine Kept.drew ?_ | refine Kept.alloc ?_ _ | refine Kept.setB ?_ _ _))⟩; rw [← HQ.out, Bool.eq_iff_iff]; simp [*]; try omega)

theorem riseI_drop (l : List Int) (j : Nat) (h : j + 1 < l.length) : riseI (l.drop j) = (decide (l[j] < l[j + 1]) && riseI (l.drop (j + 1))) := by
  rw [List.drop_eq_getElem_cons (by omega : j < l.length), List.drop_eq_getElem_cons h, riseI]
theorem riseI_short (l : List Int) (j : Nat) (h : ¬ j + 1 < l.length) : riseI (l.drop j) = true := by
  have : (l.drop j).length ≤ 1 := by rw [List.length_drop]; omega
  match hh : l.drop j, this with
  | [], _ => rfl
  | [_], _ => rfl
  | _ :: _ :: _, h => simp at h

set_option maxRecDepth 20000 in
theorem rise_any (w : World) (v : Value) (l : List Int) (P : Nat → Prop) (h : IdsSl P w v l) :
    Calls Tryz.prog 94 #[v] w fun e w' => e = .returned (.bool (riseI l)) ∧ ∃ n, w' = w.drewN n := by
  obtain ⟨ao, cap, rfl, _, _⟩ := id h
  obtain ⟨_, hmax, _⟩ := h.len
  have H := hide h
  clear h
  obtain ⟨q, hq⟩ : ∃ q, riseI l = q := ⟨_, rfl⟩
  rw [hq]
  have HQ := hide hq
  clear hq
  go_enter Tryz.func94, Tryz.ntmps94
  go_wp2_with fail
  go_loopg [3] l.length (fun g i wr => ∃ j n : Nat, j + g = l.length ∧ i = .int .i64 (j + 1) ∧ wr = w.drewN n ∧ Hid (riseI (l.drop j) = q))
  case atStart => exact ⟨0, 0, by omega, rfl, rfl, hide (by simpa using HQ.out)⟩
  case round =>
    obtain ⟨j, n, hj, rfl, rfl, HR⟩ := hrel
    by_cases hlt : j + 1 < l.length
    · obtain ⟨b1, o1, e1, _, x1⟩ := H.out.at j (by omega)
      obtain ⟨b2, o2, e2, _, x2⟩ := H.out.at (j + 1) hlt
      subst e1
      cases e2
      have hr := riseI_drop l j hlt
      rw [HR.out] at hr
      have HR2 := hide hr
      have hs : ((j : Int) + 1 - 1) = j := by omega
      clear hr
      obtain ⟨x, hx⟩ : ∃ x, x = l[j] := ⟨_, rfl⟩
      obtain ⟨y, hy⟩ : ∃ y, y = l[j + 1] := ⟨_, rfl⟩
      rw [← hx] at x1 HR2
      rw [← hy] at x2 HR2
      clear hx hy
      by_cases hxy : x < y
      · have HR3 := hide (show riseI (l.drop (j + 1)) = q by rw [HR2.out, decide_eq_true hxy, Bool.true_and])
        have hge : ¬ y ≤ x := by omega
        go_wp2_with fail
        go_region
        go_wp2_with fail
        go_roundg (gk - 1)
        case measure => omega
        case rel => exact ⟨j + 1, _, by omega, by go_num, rfl, HR3.out⟩
      · have HR3 := hide (show false = q by rw [HR2.out, decide_eq_false hxy, Bool.false_and])
        have hge : y ≤ x := by omega
        clear hxy
        go_wp2_with fail
        go_region
        go_wp2_with fail
        go_ret
        exact ⟨ret_bool HR3.out, _, rfl⟩
    · have HR3 := hide (show true = q by rw [← HR.out, riseI_short l j hlt])
      go_wp2_with fail
      go_ret
      exact ⟨ret_bool HR3.out, _, rfl⟩

/-- a field as a value -/
abbrev flV (f : FieldT) : Value := .agg #[.string ⟨f.name.toArray⟩, .int .i64 f.kind, .string ⟨f.of.toArray⟩]

set_option maxRecDepth 20000 in
set_option maxHeartbeats 1600000 in
theorem wrongCell_any (w : World) (f : FieldT) (c : CellT) (vi : Value) (P : Nat → Prop) (h : IdsSl P w vi c.ids) :
    Calls Tryz.prog 65 #[flV f, ceV c vi] w fun e w' => e = .returned (.int .i64 (wrongC f c)) ∧ Same w w' := by
  obtain ⟨ai, ci, rfl, _, _⟩ := id h
  obtain ⟨_, hmax, _⟩ := h.len
  obtain ⟨fn, fk, fo⟩ := f
  obtain ⟨m, hm⟩ : ∃ m, wrongC ⟨fn, fk, fo⟩ c = m := ⟨_, rfl⟩
  rw [hm]
  have HM := hide hm
  have H := hide h
  have HMI := hide mostIds_is
  clear hm h
  obtain ⟨q1, hq1⟩ : ∃ q, onlyN fk c = q := ⟨_, rfl⟩
  have HON := hide (fun w => onlyNamed_is w fk c ai ci q1 hq1)
  have HQ1 := hide hq1
  clear hq1
  obtain ⟨n, tx, ids⟩ := c
  simp only [wrongC] at HM
  rw [HQ1.out] at HM
  cases q1
  · have HF := hide (show 1 = m by rw [← HM.out, if_pos rfl])
    go_enter Tryz.func65, Tryz.ntmps65
    go_wp2_with fail
    refine (HON.out _).mono ?_
    rintro e w1 ⟨rfl, hK1⟩
    go_wp2_with fail
    go_ret
    exact ⟨ret_int HF.out, hK1.unA.unA⟩
  · have hm2 : (if n < -999999999 ∨ 999999999 < n then 3 else if 40 < tx.length ∨ mostI fk < ids.length then 2 else if riseI ids = false then 4 else 0) = m := by
      have h9 := HM.out
      rwa [if_neg (by decide)] at h9
    clear HM
    have HM := hide hm2
    clear hm2
    go_enter Tryz.func65, Tryz.ntmps65
    go_wp2_with fail
    refine (HON.out _).mono ?_
    rintro e w1 ⟨rfl, hK1⟩
    have hb1 := new_kept hK1.unA (fun f => f)
    have hb2 := new_kept hK1 (fun f => f)
    simp only [World.size_alloc] at hb2
    obtain ⟨f0, f1, f2⟩ := blk3 hb1
    obtain ⟨g0, g1, g2⟩ := blk3 hb2
    have hKa : Same w w1 := hK1.unA.unA
    clear hb1 hb2 hK1 HON
    have HI := hide (H.out.same hKa)
    have HPI := hide (fun wx => pIsInt n wx)
    obtain ⟨qi, hqi⟩ : ∃ q, pIntB n = q := ⟨_, rfl⟩
    rw [hqi] at HPI
    have HQI := hide hqi
    clear hqi
    cases qi
    · have HF := hide (show 3 = m by
        rw [← HM.out, if_pos]
        have := HQI.out
        unfold pIntB at this
        simp at this
        omega)
      go_wp2_with fail
      refine (HPI.out _).mono ?_
      rintro e w2 ⟨rfl, rfl⟩
      go_wp2_with fail
      go_ret
      exact ⟨ret_int HF.out, hKa⟩
    · have hm2 : (if 40 < tx.length ∨ mostI fk < ids.length then 2 else if riseI ids = false then 4 else 0) = m := by
        have h9 := HM.out
        rwa [if_neg (by
          have := HQI.out
          unfold pIntB at this
          simp at this
          omega)] at h9
      clear HM
      have HM := hide hm2
      clear hm2
      go_wp2_with fail
      refine (HPI.out _).mono ?_
      rintro e w2 ⟨rfl, rfl⟩
      skip
      · skip
        by_cases h4 : 40 < tx.length
        · have HF := hide (show 2 = m by rw [← HM.out, if_pos (.inl h4)])
          have h4b : ((40 : Int) < tx.length) := by omega
          clear h4
          go_wp2_with fail
          go_quiet (fail)
          go_wp2_with fail
          go_ret
          exact ⟨ret_int HF.out, (by repeat' (first | assumption | exact Kept.refl _ _ | refine Kept.drewN ?_ _ | refine Kept.drew ?_ | refine Kept.alloc ?_ _ | refine Kept.setB ?_ _ _))⟩
        · have h4b : ¬ ((40 : Int) < tx.length) := by omega
          obtain ⟨mi, hmi⟩ : ∃ mi, mi = mostI fk := ⟨_, rfl⟩
          have HMJ := hide (fun w => hmi ▸ mostIds_is w fk)
          rw [← hmi] at HM
          clear hmi HMI
          by_cases h5 : mi < ids.length
          · have HF := hide (show 2 = m by rw [← HM.out, if_pos (.inr h5)])
            have h5b : ((mi : Int) < ids.length) := by omega
            clear h4 h5
            go_wp2_with fail
            go_quiet ((go_at_call 93; refine Calls.quiet_of_same (HMJ.out _)))
            go_wp2_with fail
            go_ret
            exact ⟨ret_int HF.out, (by repeat' (first | assumption | exact Kept.refl _ _ | refine Kept.drewN ?_ _ | refine Kept.drew ?_ | refine Kept.alloc ?_ _ | refine Kept.setB ?_ _ _))⟩
          · have h5b : ¬ ((mi : Int) < ids.length) := by omega
            have HF := hide (show (if riseI ids = false then 4 else 0) = m by have h9 := HM.out; rwa [if_neg (by omega)] at h9)
            clear h4 h5
            go_wp2_with fail
            go_quiet ((go_at_call 93; refine Calls.quiet_of_same (HMJ.out _)))
            go_wp2_with fail
            refine (rise_any _ _ ids P (HI.out.same (by exact (by repeat' (first | assumption | exact Kept.refl _ _ | refine Kept.drewN ?_ _ | refine Kept.drew ?_ | refine Kept.alloc ?_ _ | refine Kept.setB ?_ _ _))))).mono ?_
            rintro e w3 ⟨rfl, n3, rfl⟩
            obtain ⟨q, hq⟩ : ∃ q, riseI ids = q := ⟨_, rfl⟩
            rw [hq] at HF
            simp only [hq]
            clear hq
            cases q
            · go_wp2_with fail
              go_ret
              exact ⟨ret_int (by rw [← HF.out]; rfl), (by repeat' (first | assumption | exact Kept.refl _ _ | refine Kept.drewN ?_ _ | refine Kept.drew ?_ | refine Kept.alloc ?_ _ | refine Kept.setB ?_ _ _))⟩
            · go_wp2_with fail
              go_ret
              exact ⟨ret_int (by rw [← HF.out]; rfl), (by repeat' (first | assumption | exact Kept.refl _ _ | refine Kept.drewN ?_ _ | refine Kept.drew ?_ | refine Kept.alloc ?_ _ | refine Kept.setB ?_ _ _))⟩

end Go.Proofs.YtidodjbmlbjchaaGreat

/- Steps of regions that draw, blocks that are kept: over any program. -/
namespace Go.Proofs.YtidodjbmlbjchaaGreat
open Go.RowKit

theorem kq {q : Nat} {a b c : World} (h : Kept (· = q) a b) (k : Kept (· = q) b c) : Kept (· = q) a c := h.trans k (fun _ _ e => e)

/-- a call of a Go function that returns, as one step of a region that draws -/
theorem step_call {P : Program} {ops : Array Oper} {o : Oper} {a : Act} {w : World} {K : Act → World → Prop} {Q : Exit → Act → World → Prop} {E : Prop}
    (hg : o.guard = none) (f : FuncId) (args : Array Operand) (ts : Array TypeId) (hop : o.op = Op.call { callee := Callee.value (.func f), args := args, argTypes := ts })
    (vs : Array Value) (hvs : args.map a.eval = vs) (hcf : ∀ w, (callFunc f vs).run P w = .ok (.enter f vs) w) {R : Ending → World → Prop} (hc : Calls P f vs w R)
    (hK : ∀ e w', R e w' → ∃ v, e = .returned v ∧ K (a.put o.dst v) w') :
    if Region.wanted o (yielded ops a.tmps) = true then Oper.wp P o a w K Q else E := by
  have hw : Region.wanted o (yielded ops a.tmps) = true := by simp [Region.wanted, hg]
  rw [if_pos hw]
  unfold Oper.wp
  have hrun : (execOp a.eval o).run P w = .ok (.enter f vs) w := by
    have h1 := hcf w
    unfold execOp
    simp [hop, resolve, invoke, Deferred.ofValue, hvs, Act.eval, h1]
  rw [hrun, Oper.upon_enter]
  refine hc.mono fun e w' hr => ?_
  obtain ⟨v, rfl, hk⟩ := hK e w' hr
  exact hk

/-- the cells of a block of one's own are kept where only others are turned -/
theorem blk_kept {X : Nat → Prop} {w w' : World} {g : Nat} {o : Obj} (h : w.heap[g]? = some o) (hk : Kept X w w') (hx : ¬ X g) : w'.heap[g]? = some o := by
  rw [hk.block g (Array.getElem?_eq_some_iff.1 h).1 hx]; exact h

/-- append onto an owned row in a region that draws, with the place of the new row -/
theorem step_append_at {P : Program} {ops : Array Oper} {o : Oper} {a : Act} {w : World} {K : Act → World → Prop} {Q : Exit → Act → World → Prop} {E : Prop}
    (hg : o.guard = none) (s x : Operand) (t : TypeId) (hop : o.op = Op.call { callee := Callee.builtin Builtin.append, args := #[s, x], argTypes := #[t, t] })
    (base : Nat) (e : TypeId) (i : TypeInfo) (z : Value) (size bytes : Nat) (h1 : P.underlying t = some (.slice e)) (h2 : P.info? e = some i) (h3 : i.zero = some z) (h4 : i.size = size) (h5 : i.bytes = bytes) (h6 : z.cells.size = size) (h7 : 0 < size)
    (v : Value) (n : Nat) (xs : List Value) (hs : a.eval s = v) (hown : w.ownsRow base e size v n xs)
    (ad : Addr) (m c : Nat) (news : List Value) (hx : a.eval x = .slice (some ad) m c) (hn : news.length = m * size) (hc : ∀ j u, news[j]? = some u → w.cell? (ad.add j) = some u) (h1c : ∀ u ∈ news, u.oneCell' = true)
    (b1 : n + m ≤ maxLen) (b2 : (n + m) * bytes ≤ 140737488355328) (hb : base ≤ w.heap.size)
    (hK : ∀ v' w', w'.ownsRow base e size v' (n + m) (xs ++ news) → w.grownBy w' v.ownBlock → (v'.ownBlock = v.ownBlock ∨ v'.ownBlock = some w.heap.size) → K (a.put o.dst v') w') :
    if Region.wanted o (yielded ops a.tmps) = true then Oper.wp P o a w K Q else E := by
  have hw : Region.wanted o (yielded ops a.tmps) = true := by simp [Region.wanted, hg]
  rw [if_pos hw]
  obtain ⟨v', w', hrun, r1, r2, _, r4⟩ := run_append_own_at (P := P) w base t o.type e i z size bytes h1 h2 h3 h4 h5 h6 h7 v n xs hown ad m c news hn hc h1c b1 b2 hb
  unfold Oper.wp
  simp [execOp, hop, resolve, invoke, builtin, hs, hx, hrun, Result.andThen]
  exact hK v' w' r1 r2 r4

/-- a call of a Go function that panics, as one step of a region that draws -/
theorem step_dies {P : Program} {ops : Array Oper} {o : Oper} {a : Act} {w : World} {K : Act → World → Prop} {Q : Exit → Act → World → Prop} {E : Prop}
    (hg : o.guard = none) (f : FuncId) (args : Array Operand) (ts : Array TypeId) (hop : o.op = Op.call { callee := Callee.value (.func f), args := args, argTypes := ts })
    (vs : Array Value) (hvs : args.map a.eval = vs) (hcf : ∀ w, (callFunc f vs).run P w = .ok (.enter f vs) w) {R : Ending → World → Prop} (hc : Calls P f vs w R)
    (hK : ∀ e w', R e w' → ∃ c, e = .panicked c ∧ Q (.panic c) a w') :
    if Region.wanted o (yielded ops a.tmps) = true then Oper.wp P o a w K Q else E := by
  have hw : Region.wanted o (yielded ops a.tmps) = true := by simp [Region.wanted, hg]
  rw [if_pos hw]
  unfold Oper.wp
  have hrun : (execOp a.eval o).run P w = .ok (.enter f vs) w := by
    have h1 := hcf w
    unfold execOp
    simp [hop, resolve, invoke, Deferred.ofValue, hvs, Act.eval, h1]
  rw [hrun, Oper.upon_enter]
  refine hc.mono fun e w' hr => ?_
  obtain ⟨v, rfl, hk⟩ := hK e w' hr
  exact hk

theorem own_up {w : World} {base : Nat} {e : TypeId} {size : Nat} {v : Value} {n : Nat} {xs : List Value} (h : w.ownsRow base e size v n xs) (k : Nat) (hk : v.ownBlock = some k) : base ≤ k ∧ k < w.heap.size := h.lt k hk

theorem grown_kept {w w' : World} {row : Option Nat} (h : w.grownBy w' row) : Kept (fun k => some k = row) w w' :=
  ⟨h.os, h.tape, h.output, h.size, fun k hk hx => h.block k hk hx⟩

theorem blk1 {w : World} {g : Nat} {x : Value} {t : TypeId} (h : w.heap[g]? = some (.cells #[x] t (0, 0))) : w.cell? ⟨g, 0, none⟩ = some x ∧ w.frozen? ⟨g, 0, none⟩ = false := by simp [World.cell?, World.frozen?, h]

end Go.Proofs.YtidodjbmlbjchaaGreat

/- Steps of regions that draw, blocks that are kept: over any program. -/
namespace Go.Proofs.YtidodjbmlbjchaaGreat
open Go.RowKit

theorem new_c3 (w : World) (x y z : Value) (t : TypeId) : ∀ j u, [x, y, z][j]? = some u → (w.alloc (.cells #[x, y, z] t)).cell? ((⟨w.heap.size, 0, none⟩ : Addr).add j) = some u := by
  intro j u hj
  rw [add_none, Nat.zero_add, World.cell?_alloc_new]
  simpa using hj

end Go.Proofs.YtidodjbmlbjchaaGreat
