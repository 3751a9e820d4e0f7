import Derived.Test.YtillhpepfpldcaaDisktells01
import Derived.Deep.Strs
import Derived.Carry
import Derived.Lib.SmallJoins
import Derived.Test.YtillhpepfpldcaaDisktells15
import Derived.Test.YtillhpepfpldcaaDisktells16
import Derived.Test.YtillhpepfpldcaaDisktells24
/- Arguments that hold events: what the row's reading says of them. -/
namespace Go.Proofs.Ytillhpepfpldcaa
open Go.ChangeShapes Go.WideShapes Go.RowKit

def anyE (_ : Nat) : Prop := True

set_option maxRecDepth 20000 in
set_option maxHeartbeats 800000 in
theorem evs_trod {H : Type} {enc : TypeId × Value → H} {W : World} {fuel : Nat} {cs : List Value} {x : DataW H × List MemPlace} {sp : Nat → Bool} {held : Bool}
    (hf : DataW.trod enc Try.prog W 0 sp held fuel 22 cs = some x) : ∃ v l, cs = [v] ∧ EvSl anyE W v l := by
  have hcells : Try.prog.cellsOf 66 = 6 := by kernel_rfl
  have hint : Try.prog.cellsOf 3 = 1 := by kernel_rfl
  have hstr : Try.prog.cellsOf 9 = 1 := by kernel_rfl
  rcases Deep.open_slice Try.underlying22 hf with ⟨rfl, _⟩ | ⟨a, len, cap, m, n, D, Pl, rfl, hb, hl, hm, hmm, hx, hall⟩
  · exact ⟨_, [], rfl, EvSl.nil _ W⟩
  · have hlm : len ≤ m := by rw [hmm]; split <;> omega
    rw [hcells] at hall
    have each : ∀ i, i < len → ∃ t : EventT, W.cell? (a.add (i * 6)) = some (.int .i64 t.kind) ∧ W.cell? (a.add (i * 6 + 1)) = some (.int .i64 t.ty) ∧ W.cell? (a.add (i * 6 + 2)) = some (.int .i64 t.id) ∧
        W.cell? (a.add (i * 6 + 3)) = some (.int .i64 t.field) ∧ W.cell? (a.add (i * 6 + 4)) = some (.int .i64 t.n) ∧ W.cell? (a.add (i * 6 + 5)) = some (.string ⟨t.text.toArray⟩) := by
      intro i hi
      obtain ⟨cs', h1, h2⟩ := hall i (by omega)
      obtain ⟨_, hlen, hcell⟩ := World.cells?_some h1
      obtain ⟨xs, q, _, _, _, hxl, hfd⟩ := DataW.trod_struct Try.underlying66 h2
      match xs, hxl, cs', hlen with
      | [y0, y1, y2, y3, y4, y5], _, [v0, v1, v2, v3, v4, v5], _ =>
        have g0 := hfd 0 _ rfl
        have g1 := hfd 1 _ rfl
        have g2 := hfd 2 _ rfl
        have g3 := hfd 3 _ rfl
        have g4 := hfd 4 _ rfl
        have g5 := hfd 5 _ rfl
        simp [hint, hstr] at g0 g1 g2 g3 g4 g5
        obtain ⟨z0, e0, _, _⟩ := DataW.trod_int Try.underlying3 g0
        obtain ⟨z1, e1, _, _⟩ := DataW.trod_int Try.underlying3 g1
        obtain ⟨z2, e2, _, _⟩ := DataW.trod_int Try.underlying3 g2
        obtain ⟨z3, e3, _, _⟩ := DataW.trod_int Try.underlying3 g3
        obtain ⟨z4, e4, _, _⟩ := DataW.trod_int Try.underlying3 g4
        obtain ⟨z5, e5, _, _⟩ := DataW.trod_string Try.underlying9 g5
        simp only [List.cons.injEq, and_true] at e0 e1 e2 e3 e4 e5
        subst e0 e1 e2 e3 e4 e5
        have c0 := hcell 0 (by omega)
        have c1 := hcell 1 (by omega)
        have c2 := hcell 2 (by omega)
        have c3 := hcell 3 (by omega)
        have c4 := hcell 4 (by omega)
        have c5 := hcell 5 (by omega)
        rw [Deep.add_add] at c0 c1 c2 c3 c4 c5
        exact ⟨⟨z0, z1, z2, z3, z4, z5.data.toList⟩, by simpa using c0, by simpa using c1, by simpa using c2, by simpa using c3, by simpa using c4, by simpa using c5⟩
    have : Inhabited EventT := ⟨event0⟩
    obtain ⟨T, hT⟩ := Deep.choose_lt each
    have hlen : ((List.range len).map T).length = len := by simp
    refine ⟨_, (List.range len).map T, rfl, some a, cap, by rw [hlen], by rw [hlen]; exact ⟨by omega, hl⟩, ?_⟩
    intro i t ht
    obtain ⟨hi, ht⟩ := List.getElem?_eq_some_iff.1 ht
    rw [hlen] at hi
    simp only [List.getElem_map, List.getElem_range] at ht
    subst ht
    obtain ⟨c0, c1, c2, c3, c4, c5⟩ := hT i hi
    obtain ⟨b, off, spot⟩ := a
    have hspot : spot = none := by
      have := World.cell?_spot (hT 0 (by omega)).1
      simpa [Addr.add] using this
    subst hspot
    rw [addr_add] at c0 c1 c2 c3 c4 c5
    exact ⟨b, off, rfl, trivial, c0, by rw [Nat.add_assoc]; exact c1, by rw [Nat.add_assoc]; exact c2, by rw [Nat.add_assoc]; exact c3, by rw [Nat.add_assoc]; exact c4, by rw [Nat.add_assoc]; exact c5⟩

end Go.Proofs.Ytillhpepfpldcaa

/- An argument that is a disk. -/
namespace Go.Proofs.Ytillhpepfpldcaa
open Go.ChangeShapes Go.WideShapes Go.RowKit

set_option maxRecDepth 20000 in
set_option maxHeartbeats 800000 in
theorem sts_trod {H : Type} {enc : TypeId × Value → H} {W : World} {fuel : Nat} {cs : List Value} {x : DataW H × List MemPlace} {sp : Nat → Bool} {held : Bool}
    (hf : DataW.trod enc Try.prog W 0 sp held fuel 36 cs = some x) : ∃ v l, cs = [v] ∧ StSl anyE W v l := by
  have hcells : Try.prog.cellsOf 9 = 1 := by kernel_rfl
  rcases Deep.open_slice Try.underlying36 hf with ⟨rfl, _⟩ | ⟨a, len, cap, m, n, D, Pl, rfl, hb, hl, hm, hmm, hx, hall⟩
  · exact ⟨_, [], rfl, StSl.nil _ W⟩
  · have hlm : len ≤ m := by rw [hmm]; split <;> omega
    rw [hcells] at hall
    have each : ∀ i, i < len → ∃ t : List UInt8, W.cell? (a.add i) = some (.string ⟨t.toArray⟩) := by
      intro i hi
      obtain ⟨cs', h1, h2⟩ := hall i (by omega)
      obtain ⟨_, hlen, hcell⟩ := World.cells?_some h1
      match cs', hlen with
      | [v0], _ =>
        obtain ⟨z0, e0, _, _⟩ := DataW.trod_string Try.underlying9 h2
        simp only [List.cons.injEq, and_true] at e0
        subst e0
        have c0 := hcell 0 (by omega)
        rw [Deep.add_add] at c0
        exact ⟨z0.data.toList, by simpa using c0⟩
    have : Inhabited (List UInt8) := ⟨[]⟩
    obtain ⟨T, hT⟩ := Deep.choose_lt each
    have hlen : ((List.range len).map T).length = len := by simp
    refine ⟨_, (List.range len).map T, rfl, some a, cap, by rw [hlen], by rw [hlen]; exact ⟨by omega, hl, fun e => by cases e⟩, ?_⟩
    intro i t ht
    obtain ⟨hi, ht⟩ := List.getElem?_eq_some_iff.1 ht
    rw [hlen] at hi
    simp only [List.getElem_map, List.getElem_range] at ht
    subst ht
    have c0 := hT i hi
    obtain ⟨b, off, spot⟩ := a
    have hspot : spot = none := by
      have := World.cell?_spot (hT 0 (by omega))
      simpa [Addr.add] using this
    subst hspot
    rw [addr_add] at c0
    exact ⟨b, off, rfl, trivial, c0⟩

set_option maxRecDepth 20000 in
theorem disk_of {H : Type} {enc : TypeId × Value → H} {W : World} {r : Reach} {b0 : Nat} {v : Value} {d : DataW H} {ps : List MemPlace} {sp : Nat → Bool} {held : Bool}
    (hval : Value.okWide Try.prog W r b0 38 v) (h : DataW.Trod enc Try.prog W 0 sp held 38 v d ps) : ∃ (d : DiskT) (ve : Value), v = diV ve d.synced ∧ StSl anyE W ve d.segs := by
  obtain ⟨v0, v1, y0, y1, n, rfl, _, _, h0, h1⟩ := Joins.open_agg2 Try.underlying38 (by kernel_rfl) (by kernel_rfl) hval h
  obtain ⟨u, l, e0, hs⟩ := sts_trod h0
  obtain ⟨z1, e1, _, _⟩ := DataW.trod_int Try.underlying3 h1
  simp only [List.cons.injEq, and_true] at e0 e1
  subst e0 e1
  exact ⟨⟨l, z1⟩, _, rfl, hs⟩

end Go.Proofs.Ytillhpepfpldcaa

/- append onto rows of batches. -/
namespace Go.Proofs.Ytillhpepfpldcaa
open Go.RowKit

/-- append from a slice, nil or not, onto an owned row, as one step of a region that draws; guarded or not -/
theorem step_append_w {P : Program} {ops : Array Oper} {o : Oper} {a : Act} {w : World} {K : Act → World → Prop} {Q : Exit → Act → World → Prop} {E : Prop}
    (hw : Region.wanted o (yielded ops a.tmps) = true) (s x : Operand) (t : TypeId) (hop : o.op = Op.call { callee := Callee.builtin Builtin.append, args := #[s, x], argTypes := #[t, t] })
    (base : Nat) (e : TypeId) (i : TypeInfo) (z : Value) (size bytes : Nat) (h1 : P.underlying t = some (.slice e)) (h2 : P.info? e = some i) (h3 : i.zero = some z) (h4 : i.size = size) (h5 : i.bytes = bytes) (h6 : z.cells.size = size) (h7 : 0 < size)
    (v : Value) (n : Nat) (xs : List Value) (hs : a.eval s = v) (hown : w.ownsRow base e size v n xs)
    (ao : Option Addr) (m c : Nat) (news : List Value) (hx : a.eval x = .slice ao m c) (hnone : ao = none → m = 0 ∧ c = 0) (hn : news.length = m * size) (hc : ∀ ad, ao = some ad → ∀ j u, news[j]? = some u → w.cell? (ad.add j) = some u) (h1c : ∀ u ∈ news, u.oneCell' = true)
    (b1 : n + m ≤ maxLen) (b2 : (n + m) * bytes ≤ 140737488355328) (hb : base ≤ w.heap.size)
    (hK : ∀ v' w', w'.ownsRow base e size v' (n + m) (xs ++ news) → w.grownBy w' v.ownBlock → K (a.put o.dst v') w') :
    if Region.wanted o (yielded ops a.tmps) = true then Oper.wp P o a w K Q else E := by
  rw [if_pos hw]
  cases ao with
  | some ad =>
    obtain ⟨v', w', hrun, r1, r2, _⟩ := run_append_own (P := P) w base t o.type e i z size bytes h1 h2 h3 h4 h5 h6 h7 v n xs hown ad m c news hn (hc ad rfl) h1c b1 b2 hb
    unfold Oper.wp
    simp [execOp, hop, resolve, invoke, builtin, hs, hx, hrun, Result.andThen]
    exact hK v' w' r1 r2
  | none =>
    obtain ⟨rfl, rfl⟩ := hnone rfl
    obtain rfl : news = [] := List.length_eq_zero_iff.1 (by simpa using hn)
    have hrun := run_append_owned_none (P := P) (w := w) base t o.type e i size h1 h2 v n xs hown
    unfold Oper.wp
    simp only [execOp, hop, resolve, invoke, builtin, Sem.run_bind, Sem.run_pure, Result.andThen_ok, List.map_toArray, List.map_cons, List.map_nil, hs, hx, hrun]
    exact hK v w (by simpa using hown) ⟨rfl, rfl, rfl, Nat.le_refl _, fun _ _ _ => rfl⟩

/-- a call of a Go function that returns, as one step of a region that draws; guarded or not -/
theorem step_call_w {P : Program} {ops : Array Oper} {o : Oper} {a : Act} {w : World} {K : Act → World → Prop} {Q : Exit → Act → World → Prop} {E : Prop}
    (hw : Region.wanted o (yielded ops a.tmps) = true) (f : FuncId) (args : Array Operand) (ts : Array TypeId) (hop : o.op = Op.call { callee := Callee.value (.func f), args := args, argTypes := ts })
    (vs : Array Value) (hvs : args.map a.eval = vs) (hcf : ∀ w, (callFunc f vs).run P w = .ok (.enter f vs) w) {R : Ending → World → Prop} (hc : Calls P f vs w R)
    (hK : ∀ e w', R e w' → ∃ v, e = .returned v ∧ K (a.put o.dst v) w') :
    if Region.wanted o (yielded ops a.tmps) = true then Oper.wp P o a w K Q else E := by
  rw [if_pos hw]
  unfold Oper.wp
  have hrun : (execOp a.eval o).run P w = .ok (.enter f vs) w := by
    have h1 := hcf w
    unfold execOp
    simp [hop, resolve, invoke, Deferred.ofValue, hvs, Act.eval, h1]
  rw [hrun, Oper.upon_enter]
  refine hc.mono fun e w' hr => ?_
  obtain ⟨v, rfl, hk⟩ := hK e w' hr
  exact hk

/-- a slice of batches, its batches with the values of their events -/
theorem BaSl.pairs {P : Nat → Prop} {w : World} {ao : Option Addr} {n cap : Nat} {l : List BatchT} (h : BaSl P w (.slice ao n cap) l) :
    ∃ bp : List (BatchT × Value), bp.map Prod.fst = l ∧ bp.length = n ∧ (ao = none → n = 0 ∧ cap = 0) ∧ (∀ ad, ao = some ad → ∀ j u, (bpCells bp)[j]? = some u → w.cell? (ad.add j) = some u) ∧ (∀ p ∈ bp, EvSl P w p.2 p.1.events) := by
  obtain ⟨ao', cap', hv, hl, hc⟩ := h
  cases hv
  have hnone : ao = none → l.length = 0 ∧ cap = 0 := by
    intro e
    refine ⟨?_, hl.2.2 e⟩
    cases l with
    | nil => rfl
    | cons x t => obtain ⟨b, off, ve, ha, _⟩ := hc 0 x rfl; rw [e] at ha; cases ha
  cases ao with
  | none =>
    have h0 := (hnone rfl).1
    obtain rfl : l = [] := List.length_eq_zero_iff.1 h0
    exact ⟨[], rfl, rfl, hnone, (fun ad e => by cases e), (fun p hp => by cases hp)⟩
  | some ad =>
    have each : ∀ i, i < l.length → ∃ ve : Value, ∃ (_ : ∃ b off, ad = ⟨b, off, none⟩ ∧ P b), w.cell? (ad.add (i * 2)) = some (.int .i64 (l[i]?.getD ⟨0, []⟩).number) ∧ w.cell? (ad.add (i * 2 + 1)) = some ve ∧ EvSl P w ve (l[i]?.getD ⟨0, []⟩).events := by
      intro i hi
      obtain ⟨b, off, ve, ha, hp, h0, h1, h2⟩ := hc i l[i] (List.getElem?_eq_getElem hi)
      cases ha
      rw [List.getElem?_eq_getElem hi]
      exact ⟨ve, ⟨b, off, rfl, hp⟩, by rw [addr_add]; exact h0, by rw [addr_add]; exact h1, h2⟩
    have : Inhabited Value := ⟨undef⟩
    obtain ⟨T, hT⟩ := Deep.choose_lt each
    refine ⟨(List.range l.length).map (fun i => (l[i]?.getD ⟨0, []⟩, T i)), ?_, by simp, hnone, ?_, ?_⟩
    · apply List.ext_getElem?
      intro i
      simp only [List.map_map, List.getElem?_map]
      by_cases hi : i < l.length
      · rw [List.getElem?_range hi]; simp [hi]
      · rw [List.getElem?_eq_none (by simpa using hi), List.getElem?_eq_none (by omega)]; rfl
    · intro ad' e j u hj
      cases e
      have hjl : j < l.length * 2 := by have := (List.getElem?_eq_some_iff.1 hj).1; rw [bpCells_len] at this; simpa using this
      have hi : j / 2 < l.length := by omega
      have hp : ((List.range l.length).map (fun i => (l[i]?.getD ⟨0, []⟩, T i)))[j / 2]? = some (l[j / 2]?.getD ⟨0, []⟩, T (j / 2)) := by
        rw [List.getElem?_map, List.getElem?_range hi]; rfl
      obtain ⟨g1, g2⟩ := bp_get hp
      obtain ⟨_, c0, c1, _⟩ := hT (j / 2) hi
      rcases Nat.mod_two_eq_zero_or_one j with hm | hm
      · have e : j = j / 2 * 2 := by omega
        rw [e] at hj ⊢
        rw [g1] at hj
        cases hj
        exact c0
      · have e : j = j / 2 * 2 + 1 := by omega
        rw [e] at hj ⊢
        rw [g2] at hj
        cases hj
        exact c1
    · intro p hp
      obtain ⟨i, hi, rfl⟩ := List.mem_map.1 hp
      exact (hT i (by simpa using hi)).2.2.2

theorem enters_sb (args : Array Value) (w : World) : (callFunc 15 args).run Try.prog w = .ok (.enter 15 args) w := by kernel_rfl
theorem le_al (w : World) (o : Obj) : w.heap.size ≤ (w.alloc o).heap.size := by simp
theorem own_lit0 {B : Nat} (w : World) (hb : B ≤ w.heap.size) : (w.alloc (.cells #[] 24)).ownsRow B 24 2 (.slice (some ⟨w.heap.size, 0, none⟩) 0 0) 0 [] := World.ownsRow_lit (size := 2) (base := B) (e := 24) w #[] 0 hb (by unfold maxLen; omega) rfl

theorem own_lit1 (w : World) (o : Obj) : ((w.alloc o).alloc (.cells #[] 24)).ownsRow w.heap.size 24 2 (.slice (some ⟨w.heap.size + 1, 0, none⟩) 0 0) 0 [] := by
  have := own_lit0 (w.alloc o) (le_al w o)
  rw [World.size_alloc] at this
  exact this

theorem own_bas {B : Nat} {w : World} {v : Value} {bp : List (BatchT × Value)} (hown : w.ownsRow B 24 2 v bp.length (bpCells bp)) {P : Nat → Prop} (hev : ∀ p ∈ bp, EvSl P w p.2 p.1.events) (hl : bp.length ≤ 1000000) {l : List BatchT} (he : bp.map Prod.fst = l) : BaSl (fun _ => True) w v l := by
  subst he
  rcases hown.2 with ⟨rfl, h0⟩ | ⟨b, cap, cur, rfl, hb, hh, hc1, hc2, hc3, htk⟩
  · obtain rfl : bp = [] := List.length_eq_zero_iff.1 h0
    exact BaSl.nil _ _
  · refine ⟨some ⟨b, 0, none⟩, cap, by rw [List.length_map], by rw [List.length_map]; exact ⟨by unfold maxLen; omega, hc1, fun e => (by cases e)⟩, fun i x hx => ?_⟩
    rw [List.getElem?_map] at hx
    cases hp : bp[i]? with
    | none => rw [hp] at hx; cases hx
    | some p =>
      rw [hp] at hx
      simp only [Option.map_some, Option.some.injEq] at hx
      subst hx
      obtain ⟨g1, g2⟩ := bp_get hp
      have hi : i < bp.length := (List.getElem?_eq_some_iff.1 hp).1
      have c1 := World.ownsRow.cellAt hown (i * 2) (by omega)
      have c2 := World.ownsRow.cellAt hown (i * 2 + 1) (by omega)
      rw [g1] at c1
      rw [g2] at c2
      exact ⟨b, 0, p.2, rfl, trivial, by rw [Nat.zero_add]; exact c1, by rw [Nat.zero_add]; exact c2, (hev p (List.mem_of_getElem? hp)).mono (fun _ _ _ => trivial)⟩

theorem bpCells_one {bp : List (BatchT × Value)} {P : Nat → Prop} {w : World} (hev : ∀ p ∈ bp, EvSl P w p.2 p.1.events) : ∀ u ∈ bpCells bp, u.oneCell' = true := by
  intro u hu
  unfold bpCells at hu
  rw [List.mem_flatMap] at hu
  obtain ⟨p, hp, hu⟩ := hu
  obtain ⟨ao, cap, he⟩ := (hev p hp).form
  simp only [List.mem_cons, List.not_mem_nil, or_false] at hu
  rcases hu with rfl | rfl
  · rfl
  · rw [he]; rfl

theorem BaSl.take {P : Nat → Prop} {w : World} {ao : Option Addr} {n cap : Nat} {l : List BatchT} (h : BaSl P w (.slice ao n cap) l) (j : Nat) (hj : j ≤ l.length) : BaSl P w (.slice ao j cap) (l.take j) := by
  obtain ⟨ao', cap', hv, hl, hc⟩ := h
  cases hv
  have e : (l.take j).length = j := by rw [List.length_take]; omega
  refine ⟨ao, cap, by rw [e], by rw [e]; exact ⟨by have := hl.1; omega, by have := hl.2.1; omega, hl.2.2⟩, fun i t ht => hc i t ?_⟩
  rw [List.getElem?_take] at ht
  split at ht
  · exact ht
  · cases ht

theorem OAns.ok2 {d : DiskT} {w : World} {r : Ending} {w' : World} (hc : checkD d = 0) {o : DiskT} (ho : openD d = o) {l : List BatchT} (hl : batchesD d.segs = l) (h : OAns d w r w') : ∃ ab cb ao cap, r = .returned (.tuple #[.slice ab l.length cb, diV (.slice ao o.segs.length cap) o.synced, .int .i64 0]) ∧ BaSl (w.heap.size ≤ ·) w' (.slice ab l.length cb) l ∧ StSl (w.heap.size ≤ ·) w' (.slice ao o.segs.length cap) o.segs ∧ Same w w' := by
  subst ho hl
  exact h.ok hc
theorem OAns.no {d : DiskT} {w : World} {r : Ending} {w' : World} (hc : checkD d ≠ 0) (h : OAns d w r w') : r = .returned (.tuple #[.slice none 0 0, diV (.slice none 0 0) 0, .int .i64 (checkD d)]) ∧ Same w w' := by
  rcases h with ⟨h1, _⟩ | ⟨_, h2, h3⟩
  · exact absurd h1 hc
  · exact ⟨h2, h3⟩

theorem crash_ok {d : DiskT} (hc : checkD d = 0) {keep : Int} (hk : 0 ≤ keep) : crashD d keep = .ok (cutD d keep) := by
  unfold crashD
  rw [if_neg (by simp [hc]), if_neg (by omega)]

end Go.Proofs.Ytillhpepfpldcaa
