import Derived.Test.YtidodjbmlbjchaaGreatHistorystaysupto26
import Derived.Test.YtidodjbmlbjchaaGreatHistorystaysupto11
import Derived.Laws.CopyRow
import Derived.Laws.IdiomCopy
import Derived.Lib.AppendZeros
import Derived.Lib.SliceRun
import Derived.Lib.JoinLaws
/- parts.CloneTypes, CloneState. -/
namespace Go.Proofs.YtidodjbmlbjchaaGreat
open Go.RowKit

theorem TyO.same {lo hi : Nat} {w w' : World} {v : Value} {l : List TypeT} (h : TyO lo hi w v l) (hk : Same w w') : TyO lo hi w' v l := by
  obtain ⟨cp, D, h1, h2, h3, h4, h5, h6, h7⟩ := h
  exact ⟨cp, D, h1, own_kept h2 hk (fun _ _ f => f), h3, h4, h5, h6, fun i p hp => (h7 i p hp).same hk⟩
theorem ThO.same {lo hi : Nat} {w w' : World} {v : Value} {l : List ThingT} (h : ThO lo hi w v l) (hk : Same w w') : ThO lo hi w' v l := by
  obtain ⟨cp, D, h1, h2, h3, h4, h5, h6, h7⟩ := h
  exact ⟨cp, D, h1, own_kept h2 hk (fun _ _ f => f), h3, h4, h5, h6, fun i p hp => (h7 i p hp).same hk⟩
theorem ThO.keep {lo hi : Nat} {X : Nat → Prop} {w w' : World} {v : Value} {l : List ThingT} (h : ThO lo hi w v l) (hk : Kept X w w') (hx : ∀ k, lo ≤ k → k < hi → ¬ X k) : ThO lo hi w' v l := by
  obtain ⟨cp, D, h1, h2, h3, h4, h5, h6, h7⟩ := h
  refine ⟨cp, D, h1, own_kept2 h2 hk (fun k hr => hx k (own_up h2 k hr).1 (h3 k hr)), h3, h4, h5, h6, fun i p hp => (h7 i p hp).keep hk (fun k e3 e4 => ?_)⟩
  have hi : i < cp.length := (List.getElem?_eq_some_iff.1 hp).1
  have e1 := D_mono h5 i 0 (by omega) (by omega)
  have e2 := D_mono h5 cp.length (i + 1) (by omega) (Nat.le_refl _)
  exact hx k (by omega) (by omega)

theorem TyO.keep {lo hi : Nat} {X : Nat → Prop} {w w' : World} {v : Value} {l : List TypeT} (h : TyO lo hi w v l) (hk : Kept X w w') (hx : ∀ k, lo ≤ k → k < hi → ¬ X k) : TyO lo hi w' v l := by
  obtain ⟨cp, D, h1, h2, h3, h4, h5, h6, h7⟩ := h
  refine ⟨cp, D, h1, own_kept2 h2 hk (fun k hr => hx k (own_up h2 k hr).1 (h3 k hr)), h3, h4, h5, h6, fun i p hp => (h7 i p hp).keep hk (fun k hr => ?_)⟩
  have hi : i < cp.length := (List.getElem?_eq_some_iff.1 hp).1
  have e1 := D_mono h5 i 0 (by omega) (by omega)
  have e2 := D_mono h5 cp.length (i + 1) (by omega) (Nat.le_refl _)
  have e3 := (own_up (h7 i p hp).1 k hr).1
  have e4 := (h7 i p hp).2 k hr
  exact hx k (by omega) (by omega)
theorem st_fin {w wa wz : World} {vt vh : Value} {types : List TypeT} {l : List ThingT} {lo1 hi1 lo2 hi2 g1 : Nat} (hK : Kept (· = g1) wa wz) (hty : TyO lo1 hi1 wa vt types) (hth : ThO lo2 hi2 wa vh l) (h0 : w.heap.size ≤ g1) (h1 : g1 < lo1) (h2 : g1 < lo2) (h3 : hi1 ≤ lo2 ∨ hi2 ≤ lo1) (h4 : hi1 ≤ wa.heap.size) (h5 : hi2 ≤ wa.heap.size) :
    ∃ lo1 hi1 lo2 hi2, TyO lo1 hi1 wz vt types ∧ ThO lo2 hi2 wz vh l ∧ (w.heap.size ≤ lo1 ∧ w.heap.size ≤ lo2 ∧ (hi1 ≤ lo2 ∨ hi2 ≤ lo1) ∧ hi1 ≤ wz.heap.size ∧ hi2 ≤ wz.heap.size) := by
  have hs := hK.size
  exact ⟨lo1, hi1, lo2, hi2, hty.keep hK (fun k a b e => by omega), hth.keep hK (fun k a b e => by omega), by omega, by omega, h3, by omega, by omega⟩

theorem cloneTs_any (P : Nat → Prop) (w : World) (v : Value) (l : List TypeT) (h : TypSl P w v l) (hl : l.length ≤ 1000) (hi6 : ∀ c ∈ l, c.fields.length ≤ 1000) :
    Calls Tryz.prog 54 #[v] w fun r w' => ∃ a c, r = .returned (.slice a l.length c) ∧ TyO w.heap.size w'.heap.size w' (.slice a l.length c) l ∧ Same w w' := by
  obtain ⟨ao, cap, rfl, _, _⟩ := id h
  have HC := hide (clonedY_any P w _ l h hl hi6)
  clear h
  go_enter Tryz.func54, Tryz.ntmps54
  go_wp2_with fail
  refine HC.out.mono ?_
  rintro r w1 ⟨a, c, rfl, h1, h2⟩
  have H1 := hide (And.intro h1 h2)
  clear h1 h2
  go_wp2_with fail
  go_ret
  exact ⟨a, c, rfl, H1.out⟩

/-- what is small enough to be copied -/
def Small (types : List TypeT) (l : List ThingT) : Prop := types.length ≤ 1000 ∧ (∀ c ∈ types, c.fields.length ≤ 1000) ∧ l.length ≤ 1000 ∧ ∀ t ∈ l, t.cells.length ≤ 1000 ∧ ∀ c ∈ t.cells, c.ids.length ≤ 1000

set_option maxRecDepth 20000 in
set_option maxHeartbeats 3200000 in
theorem cloneSt_any (P : Nat → Prop) (w : World) (vt vh : Value) (types : List TypeT) (l : List ThingT) (ht : TypSl P w vt types) (hh : ThgSl P w vh l) (hs : Small types l) :
    Calls Tryz.prog 26 #[stV vt vh] w fun r w' => ∃ a1 c1 a2 c2 lo1 hi1 lo2 hi2, r = .returned (stV (.slice a1 types.length c1) (.slice a2 l.length c2)) ∧ TyO lo1 hi1 w' (.slice a1 types.length c1) types ∧ ThO lo2 hi2 w' (.slice a2 l.length c2) l ∧
      (w.heap.size ≤ lo1 ∧ w.heap.size ≤ lo2 ∧ (hi1 ≤ lo2 ∨ hi2 ≤ lo1) ∧ hi1 ≤ w'.heap.size ∧ hi2 ≤ w'.heap.size) ∧ Same w w' := by
  obtain ⟨at', ct, rfl, _, _⟩ := id ht
  obtain ⟨ah, ch, rfl, _, _⟩ := id hh
  obtain ⟨s1, s2, s3, s4⟩ := hs
  obtain ⟨W, hW⟩ : ∃ W, W = (w.alloc (.cells #[.slice at' types.length ct, .slice ah l.length ch] 25)).alloc (.cells #[.slice none 0 0, .slice none 0 0] 25) := ⟨_, rfl⟩
  obtain ⟨g, hg⟩ : ∃ g, g = w.heap.size := ⟨_, rfl⟩
  obtain ⟨g1, hg1⟩ : ∃ g, g = w.heap.size + 1 := ⟨_, rfl⟩
  have HKW := hide (show Same w W by rw [hW]; exact ((Kept.refl _ w).alloc _).alloc _)
  have HG := hide (show W.heap[g]? = some (.cells #[.slice at' types.length ct, .slice ah l.length ch] 25 (0, 0)) by rw [hW, hg]; exact al_o _ _ _)
  have HR := hide (show W.heap[g1]? = some (.cells #[.slice none 0 0, .slice none 0 0] 25 (0, 0)) by rw [hW, hg1]; exact al_n _ _ _)
  have HCT := hide (fun wy (hy : Same W wy) => cloneTs_any P wy _ types (ht.same (tra HKW.out hy)) s1 s2)
  have HCH := hide (fun wy (hy : Same W wy) => clonedT_any P wy _ l (hh.same (tra HKW.out hy)) s3 s4)
  have hWs : g < g1 ∧ g1 < W.heap.size ∧ w.heap.size ≤ g := by rw [hW, hg, hg1]; simp
  obtain ⟨hs1, hs2, hs3⟩ := hWs
  obtain ⟨c0, c1⟩ := blk2' HG.out
  have HALL := hide (fun wy (hy : Same W wy) => (⟨hy.cell c0 (fun f => f), hy.cell c1 (fun f => f)⟩ : wy.cell? ⟨g, 0, none⟩ = _ ∧ wy.cell? ⟨g, 1, none⟩ = _))
  have hKc : Same W W := Kept.refl _ _
  have hne : g1 ≠ g := by omega
  have hne' : g ≠ g1 := by omega
  obtain ⟨p0, p1⟩ := blk2' HR.out
  have p2 := fro2' HR.out
  clear ht hh s1 s2 s3 s4
  go_enter Tryz.func26, Tryz.ntmps26
  go_wp2_with fail
  rw [← hW, ← hg1, ← hg]
  clear hW hg hg1
  go_region_held3 (fun w' => w'.cell? ⟨g, 0, none⟩ = some (.slice at' types.length ct) ∧ w'.cell? ⟨g, 1, none⟩ = some (.slice ah l.length ch)) (go_keep) (first
    | (go_at_call 54; refine (HCT.out _ (by first | exact hKc.drewN _ | exact hKc.drew | exact hKc)).mono ?_; rintro e wt ⟨a1, c1', rfl, hty, hKt⟩; have hKc := tra (by first | exact hKc.drewN _ | exact hKc.drew | exact hKc) hKt; obtain ⟨c0, c1⟩ := HALL.out _ hKc; obtain ⟨p0, p1⟩ := blk2' (blk_kept HR.out hKc (fun f => f)); have p2 := fro2' (blk_kept HR.out hKc (fun f => f)))
    | (go_at_call 55; refine (HCH.out _ (by first | exact hKc.drewN _ | exact hKc.drew | exact hKc)).mono ?_; rintro e wh ⟨a2, c2', rfl, hth, hKh⟩; have hKc := tra (by first | exact hKc.drewN _ | exact hKc.drew | exact hKc) hKh; obtain ⟨c0, c1⟩ := HALL.out _ hKc; obtain ⟨p0, p1⟩ := blk2' (blk_kept HR.out hKc (fun f => f)); have p2 := fro2' (blk_kept HR.out hKc (fun f => f))))
  · have hKW := HKW.out
    have hR1 := blk_kept HR.out hKc (fun f => f)
    obtain ⟨q0, q1⟩ := blk2' (set2b' hR1 (.slice a1 types.length c1') (.slice a2 l.length c2'))
    have hz := hKW.size
    have hz1 : W.heap.size ≤ wt.heap.size := hKt.size
    have hX : Same wt wh := by first | exact hKh | exact hKh.unD | exact hKh.unN
    have hz2 := hX.size
    have hK3 : Kept (· = g1) wh ((wh.setCell ⟨g1, 0, none⟩ (.slice a1 types.length c1')).setCell ⟨g1, 1, none⟩ (.slice a2 l.length c2')) := ((Kept.refl _ wh).setB 0 _).setB 1 _
    have HF := hide (st_fin (w := w) hK3 (hty.same hX) hth (by omega) (Nat.lt_of_lt_of_le hs2 (by first | exact Nat.le_refl _ | exact hz1)) (Nat.lt_of_lt_of_le hs2 (by first | exact Nat.le_refl _ | exact hz1)) (.inl (Nat.le_refl _)) (by omega) (by omega))
    have HS := hide (show Same w ((wh.setCell ⟨g1, 0, none⟩ (.slice a1 types.length c1')).setCell ⟨g1, 1, none⟩ (.slice a2 l.length c2')) from (tra hKW hKc).trans hK3 (fun i hi e => by omega))
    clear hty hth hKt hKh hR1 hz hz1 hz2 hX hK3 hKW
    go_wp2_with fail
    obtain ⟨lo1, hi1, lo2, hi2, f1, f2, f3⟩ := HF.out
    exact bodyPost_ret (v := stV (.slice a1 types.length c1') (.slice a2 l.length c2')) (by simp [results, Tryz.results26, go_sem, q0, q1]) rfl ⟨a1, c1', a2, c2', lo1, hi1, lo2, hi2, rfl, f1, f2, f3, HS.out⟩

end Go.Proofs.YtidodjbmlbjchaaGreat

/- copy, clear, append in place over rows of elements of any size: over any program. -/
namespace Go.Proofs.YtidodjbmlbjchaaGreat
open Go Go.RowKit

section
variable {P : Program}

theorem run_copy_cells (w : World) (dT sT ty elem : TypeId) (i : TypeInfo) (g o dLen dCap : Nat) (a : Addr) (sLen sCap : Nat) (cur : Array Value) (t : TypeId) (cs : List Value)
    (hu : P.underlying dT = some (.slice elem)) (hi : P.info? elem = some i)
    (hg : w.heap[g]? = some (.cells cur t (0, 0))) (hn : cs.length = Nat.min sLen dLen * i.size)
    (hsrc : ∀ j v, cs[j]? = some v → w.cell? (a.add j) = some v) (hfit : o + cs.length ≤ cur.size) (h1 : ∀ v ∈ cs, v.oneCell' = true) :
    (Builtin.copy_ #[dT, sT] ty #[.slice (some ⟨g, o, none⟩) dLen dCap, .slice (some a) sLen sCap]).run P w =
      .ok (goInt (Nat.min sLen dLen)) (w.setRow g (cur.toList.take o ++ cs ++ cur.toList.drop (o + cs.length)).toArray) := by
  have hl := run_loadCells_list (P := P) w a cs hsrc
  have hst := run_storeCells_at P g o t cs 0 cur w hg (by simpa using hfit) h1
  rw [hn] at hl
  simp [Builtin.copy_, run_underlying hu, Builtin.lenOf, Builtin.firstCells, sizeOf, typeInfo, hi, hl, hst]

/-- append where there is room: in place -/
theorem run_append_room (w : World) (t ty elem : TypeId) (i : TypeInfo) (g n cap : Nat) (a : Addr) (m c : Nat) (cur : Array Value) (e : TypeId) (cs : List Value)
    (hu : P.underlying t = some (.slice elem)) (hi : P.info? elem = some i) (hroom : n + m ≤ cap) (_h63 : n + m ≤ 9223372036854775807)
    (hg : w.heap[g]? = some (.cells cur e (0, 0))) (hn : cs.length = m * i.size)
    (hsrc : ∀ j v, cs[j]? = some v → w.cell? (a.add j) = some v) (hfit : n * i.size + cs.length ≤ cur.size) (h1 : ∀ v ∈ cs, v.oneCell' = true) :
    (Builtin.append_ #[t, t] ty #[.slice (some ⟨g, 0, none⟩) n cap, .slice (some a) m c]).run P w =
      .ok (.slice (some ⟨g, 0, none⟩) (n + m) cap) (w.setRow g (cur.toList.take (n * i.size) ++ cs ++ cur.toList.drop (n * i.size + cs.length)).toArray) := by
  have hl := run_loadCells_list (P := P) w a cs hsrc
  have hst := run_storeCells_at P g (n * i.size) e cs 0 cur w hg (by simpa using hfit) h1
  rw [hn] at hl
  have hng : ¬ cap < n + m := by omega
  have had : (⟨g, 0, none⟩ : Addr).add (n * i.size) = ⟨g, n * i.size, none⟩ := by unfold Addr.add; split <;> simp_all
  simp [Builtin.append_, run_underlying hu, Builtin.lenOf, Builtin.firstCells, sizeOf, typeInfo, hi, hl, hroom, had]
  rw [hst]
  simp

theorem run_clear_cells (w : World) (t ty elem : TypeId) (i : TypeInfo) (z : Value) (g o n c : Nat) (cur : Array Value) (e : TypeId)
    (hu : P.underlying t = some (.slice elem)) (hi : P.info? elem = some i) (hz : i.zero = some z) (h0 : 0 < n)
    (hg : w.heap[g]? = some (.cells cur e (0, 0))) (hfit : o + (Builtin.zeroCells z.cells n).toList.length ≤ cur.size) (h1 : ∀ v ∈ (Builtin.zeroCells z.cells n).toList, v.oneCell' = true) :
    (Builtin.clear_ #[t] ty #[.slice (some ⟨g, o, none⟩) n c]).run P w =
      .ok (.tuple #[]) (w.setRow g (cur.toList.take o ++ (Builtin.zeroCells z.cells n).toList ++ cur.toList.drop (o + (Builtin.zeroCells z.cells n).toList.length)).toArray) := by
  have hst := run_storeCells_at P g o e (Builtin.zeroCells z.cells n).toList 0 cur w hg (by simpa using hfit) h1
  cases n with
  | zero => omega
  | succ n => simp [Builtin.clear_, run_underlying hu, zeroValue, typeInfo, hi, hz, hst]

/-! operations whose run is known by an equation -/
theorem step_append_eq {ops : Array Oper} {o : Oper} {a : Act} {w : World} {K : Act → World → Prop} {Q : Exit → Act → World → Prop} {E : Prop}
    (hg : o.guard = none) (d x : Operand) (dT sT : TypeId) (hop : o.op = Op.call { callee := Callee.builtin Builtin.append, args := #[d, x], argTypes := #[dT, sT] })
    (v u : Value) (hd : a.eval d = v) (hx : a.eval x = u) {v' : Value} {w' : World} (hr : (Builtin.append_ #[dT, sT] o.type #[v, u]).run P w = .ok v' w') (hK : K (a.put o.dst v') w') :
    if Region.wanted o (yielded ops a.tmps) = true then Oper.wp P o a w K Q else E := by
  have hw : Region.wanted o (yielded ops a.tmps) = true := by simp [Region.wanted, hg]
  rw [if_pos hw]
  exact Lib.wp_append_run w d x dT sT hop v u hd hx v' w' hr hK
theorem wp_copy_eq (w : World) {o : Oper} {a : Act} {K : Act → World → Prop} {Q : Exit → Act → World → Prop} (d s : Operand) (t t' : TypeId)
    (ho : o.op = .call { callee := .builtin .copy, args := #[d, s], argTypes := #[t, t'] }) (v u : Value) (hd : a.eval d = v) (hs : a.eval s = u) {v' : Value} {w' : World}
    (hr : (Builtin.copy_ #[t, t'] o.type #[v, u]).run P w = .ok v' w') (h : K (a.put o.dst v') w') : o.wp P a w K Q := by
  unfold Oper.wp execOp
  simp only [ho, resolve, invoke, builtin, Sem.run_bind, Sem.run_pure, Result.andThen_ok, List.map_toArray, List.map_cons, List.map_nil, hd, hs, hr]
  exact h
theorem wpList_copy_eq (w : World) {ops : Array Oper} {rest : List Oper} {o : Oper} {a : Act} {Q : Exit → Act → World → Prop} (hgd : o.guard = none) (d s : Operand) (t t' : TypeId)
    (ho : o.op = .call { callee := .builtin .copy, args := #[d, s], argTypes := #[t, t'] }) (v u : Value) (hd : a.eval d = v) (hs : a.eval s = u) {v' : Value} {w' : World}
    (hr : (Builtin.copy_ #[t, t'] o.type #[v, u]).run P w = .ok v' w') (h : wpList P ops Q rest (a.put o.dst v') w') : wpList P ops Q (o :: rest) a w :=
  wpList_plain hgd fun _ hK => wp_copy_eq w d s t t' ho v u hd hs hr (hK _ _ h)
theorem step_copy_eq {ops : Array Oper} {o : Oper} {a : Act} {w : World} {K : Act → World → Prop} {Q : Exit → Act → World → Prop} {E : Prop}
    (hg : o.guard = none) (d x : Operand) (dT sT : TypeId) (hop : o.op = Op.call { callee := Callee.builtin Builtin.copy, args := #[d, x], argTypes := #[dT, sT] })
    (v u : Value) (hd : a.eval d = v) (hx : a.eval x = u) {v' : Value} {w' : World} (hr : (Builtin.copy_ #[dT, sT] o.type #[v, u]).run P w = .ok v' w') (hK : K (a.put o.dst v') w') :
    if Region.wanted o (yielded ops a.tmps) = true then Oper.wp P o a w K Q else E := by
  have hw : Region.wanted o (yielded ops a.tmps) = true := by simp [Region.wanted, hg]
  rw [if_pos hw]
  exact wp_copy_eq w d x dT sT hop v u hd hx hr hK
theorem wpList_clear_eq (w : World) {ops : Array Oper} {rest : List Oper} {o : Oper} {a : Act} {Q : Exit → Act → World → Prop} (hgd : o.guard = none) (s : Operand) (t : TypeId)
    (ho : o.op = .call { callee := .builtin .clear, args := #[s], argTypes := #[t] }) (v : Value) (hs : a.eval s = v) {v' : Value} {w' : World}
    (hr : (Builtin.clear_ #[t] o.type #[v]).run P w = .ok v' w') (h : wpList P ops Q rest (a.put o.dst v') w') : wpList P ops Q (o :: rest) a w := by
  refine wpList_plain hgd fun _ hK => ?_
  unfold Oper.wp execOp
  simp only [ho, resolve, invoke, builtin, Sem.run_bind, Sem.run_pure, Result.andThen_ok, List.map_toArray, List.map_cons, List.map_nil, hs, hr]
  exact hK _ _ h

theorem wpList_copy_R {w : World} {ops : Array Oper} {rest : List Oper} {o : Oper} {a : Act} {Q : Exit → Act → World → Prop} (hgd : o.guard = none) (d s : Operand) (t t' : TypeId)
    (ho : o.op = .call { callee := .builtin .copy, args := #[d, s], argTypes := #[t, t'] }) (v u : Value) (hd : a.eval d = v) (hs : a.eval s = u) {v' : Value} {R : World → Prop}
    (hr : ∃ w', (Builtin.copy_ #[t, t'] o.type #[v, u]).run P w = .ok v' w' ∧ R w') (h : ∀ w', R w' → wpList P ops Q rest (a.put o.dst v') w') : wpList P ops Q (o :: rest) a w := by
  obtain ⟨w', h1, h2⟩ := hr
  exact wpList_copy_eq w hgd d s t t' ho v u hd hs h1 (h w' h2)
theorem step_copy_R {ops : Array Oper} {o : Oper} {a : Act} {w : World} {K : Act → World → Prop} {Q : Exit → Act → World → Prop} {E : Prop}
    (hg : o.guard = none) (d x : Operand) (dT sT : TypeId) (hop : o.op = Op.call { callee := Callee.builtin Builtin.copy, args := #[d, x], argTypes := #[dT, sT] })
    (v u : Value) (hd : a.eval d = v) (hx : a.eval x = u) {v' : Value} {R : World → Prop} (hr : ∃ w', (Builtin.copy_ #[dT, sT] o.type #[v, u]).run P w = .ok v' w' ∧ R w') (hK : ∀ w', R w' → K (a.put o.dst v') w') :
    if Region.wanted o (yielded ops a.tmps) = true then Oper.wp P o a w K Q else E := by
  obtain ⟨w', h1, h2⟩ := hr
  exact step_copy_eq hg d x dT sT hop v u hd hx h1 (hK w' h2)
theorem wpList_append_R {w : World} {ops : Array Oper} {rest : List Oper} {o : Oper} {a : Act} {Q : Exit → Act → World → Prop} (hgd : o.guard = none) (s x : Operand) (t tn : TypeId)
    (ho : o.op = .call { callee := .builtin .append, args := #[s, x], argTypes := #[t, tn] }) (vs vx : Value) (hs : a.eval s = vs) (hx : a.eval x = vx) {v' : Value} {R : World → Prop}
    (hr : ∃ w', (Builtin.append_ #[t, tn] o.type #[vs, vx]).run P w = .ok v' w' ∧ R w') (h : ∀ w', R w' → wpList P ops Q rest (a.put o.dst v') w') : wpList P ops Q (o :: rest) a w := by
  obtain ⟨w', h1, h2⟩ := hr
  exact Lib.wpList_append_run w hgd s x t tn ho vs vx hs hx v' w' h1 (h w' h2)

theorem kept_row (w : World) (g : Nat) (cs : Array Value) : Kept (· = g) w (w.setRow g cs) :=
  ⟨rfl, rfl, rfl, by simp [World.setRow], fun k _ hk => setRow_other w g k cs hk⟩
theorem row_heap {w : World} {g : Nat} {cur : Array Value} {e : TypeId} (h : w.heap[g]? = some (.cells cur e (0, 0))) (cs : Array Value) : (w.setRow g cs).heap[g]? = some (.cells cs e (0, 0)) := setRow_heap w g cur cs e _ h

end

end Go.Proofs.YtidodjbmlbjchaaGreat
