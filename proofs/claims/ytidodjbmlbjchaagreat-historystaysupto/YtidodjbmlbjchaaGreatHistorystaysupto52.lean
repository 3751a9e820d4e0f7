import Derived.Test.YtidodjbmlbjchaaGreatHistorystaysupto13
import Derived.Deep.Strs
import Derived.Carry
import Derived.Lib.SmallJoins
import Derived.Test.YtidodjbmlbjchaaGreatHistorystaysupto23
import Derived.Test.YtidodjbmlbjchaaGreatRows
/- Arguments that are states, and events. -/
namespace Go.Proofs.YtidodjbmlbjchaaGreat
open Go.ChangeShapes Go.WideShapes Go.RowKit

set_option maxRecDepth 20000 in
set_option maxHeartbeats 800000 in
theorem ids_trod {H : Type} {enc : TypeId × Value → H} {W : World} {fuel : Nat} {cs : List Value} {x : DataW H × List MemPlace} {sp : Nat → Bool} {held : Bool}
    (hf : DataW.trod enc Tryz.prog W 0 sp held fuel 63 cs = some x) : ∃ v l, cs = [v] ∧ IdsSl anyB W v l := by
  have hcells : Tryz.prog.cellsOf 3 = 1 := by kernel_rfl
  rcases Deep.open_slice Tryz.underlying63 hf with ⟨rfl, _⟩ | ⟨a, len, cap, m, n, D, Pl, rfl, hb, hl, hm, hmm, hx, hall⟩
  · exact ⟨_, [], rfl, IdsSl.nil _ W⟩
  · have hlm : len ≤ m := by rw [hmm]; split <;> omega
    rw [hcells] at hall
    have each : ∀ i, i < len → ∃ t : Int, W.cell? (a.add i) = some (.int .i64 t) := by
      intro i hi
      obtain ⟨cs', h1, h2⟩ := hall i (by omega)
      obtain ⟨_, hlen, hcell⟩ := World.cells?_some h1
      match cs', hlen with
      | [v0], _ =>
        obtain ⟨z0, e0, _, _⟩ := DataW.trod_int Tryz.underlying3 h2
        simp only [List.cons.injEq, and_true] at e0
        subst e0
        have c0 := hcell 0 (by omega)
        rw [Deep.add_add] at c0
        exact ⟨z0, by simpa using c0⟩
    obtain ⟨T, hT⟩ := Deep.choose_lt each
    have hlen : ((List.range len).map T).length = len := by simp
    refine ⟨_, (List.range len).map T, rfl, some a, cap, by rw [hlen], by rw [hlen]; exact ⟨by omega, hl⟩, ?_⟩
    intro i t ht
    obtain ⟨hi, ht⟩ := List.getElem?_eq_some_iff.1 ht
    rw [hlen] at hi
    simp only [List.getElem_map, List.getElem_range] at ht
    subst ht
    have c0 := hT i hi
    obtain ⟨b, off, spot⟩ := a
    have hspot : spot = none := by
      have := World.cell?_spot (hT 0 (by omega))
      simpa [Addr.add] using this
    subst hspot
    rw [add_none] at c0
    exact ⟨b, off, rfl, trivial, c0⟩

set_option maxRecDepth 20000 in
set_option maxHeartbeats 800000 in
theorem cels_trod {H : Type} {enc : TypeId × Value → H} {W : World} {fuel : Nat} {cs : List Value} {x : DataW H × List MemPlace} {sp : Nat → Bool} {held : Bool}
    (hf : DataW.trod enc Tryz.prog W 0 sp held fuel 66 cs = some x) : ∃ v l, cs = [v] ∧ CelSl anyB W v l := by
  have hcells : Tryz.prog.cellsOf 65 = 3 := by kernel_rfl
  have hfl : Tryz.prog.cellsOf 63 = 1 := by kernel_rfl
  have hstr : Tryz.prog.cellsOf 9 = 1 := by kernel_rfl
  have hint : Tryz.prog.cellsOf 3 = 1 := by kernel_rfl
  rcases Deep.open_slice Tryz.underlying66 hf with ⟨rfl, _⟩ | ⟨a, len, cap, m, n, D, Pl, rfl, hb, hl, hm, hmm, hx, hall⟩
  · exact ⟨_, [], rfl, CelSl.nil _ W⟩
  · have hlm : len ≤ m := by rw [hmm]; split <;> omega
    rw [hcells] at hall
    have each : ∀ i, i < len → ∃ t : CellT, W.cell? (a.add (i * 3)) = some (.int .i64 t.n) ∧ W.cell? (a.add (i * 3 + 1)) = some (.string ⟨t.text.toArray⟩) ∧ ∃ vf, W.cell? (a.add (i * 3 + 2)) = some vf ∧ IdsSl anyB W vf t.ids := by
      intro i hi
      obtain ⟨cs', h1, h2⟩ := hall i (by omega)
      obtain ⟨_, hlen, hcell⟩ := World.cells?_some h1
      obtain ⟨xs, q, _, _, _, hxl, hfd⟩ := DataW.trod_struct Tryz.underlying65 h2
      match xs, hxl, cs', hlen with
      | [y0, y1, y2], _, [v0, v1, v2], _ =>
        have g0 := hfd 0 _ rfl
        have g1 := hfd 1 _ rfl
        have g2 := hfd 2 _ rfl
        simp [hfl, hstr, hint] at g0 g1 g2
        obtain ⟨z0, e0, _, _⟩ := DataW.trod_int Tryz.underlying3 g0
        obtain ⟨z1, e1, _, _⟩ := DataW.trod_string Tryz.underlying9 g1
        obtain ⟨u1, l1, e2, s1⟩ := ids_trod g2
        simp only [List.cons.injEq, and_true] at e0 e1 e2
        subst e0 e1 e2
        have c0 := hcell 0 (by omega)
        have c1 := hcell 1 (by omega)
        have c2 := hcell 2 (by omega)
        rw [Deep.add_add] at c0 c1 c2
        exact ⟨⟨z0, z1.data.toList, l1⟩, by simpa using c0, by simpa using c1, v2, by simpa using c2, s1⟩
    have : Inhabited CellT := ⟨cell0⟩
    obtain ⟨T, hT⟩ := Deep.choose_lt each
    have hlen : ((List.range len).map T).length = len := by simp
    refine ⟨_, (List.range len).map T, rfl, some a, cap, by rw [hlen], by rw [hlen]; exact ⟨by omega, hl⟩, ?_⟩
    intro i t ht
    obtain ⟨hi, ht⟩ := List.getElem?_eq_some_iff.1 ht
    rw [hlen] at hi
    simp only [List.getElem_map, List.getElem_range] at ht
    subst ht
    obtain ⟨c0, c1, vf, c2, hs⟩ := hT i hi
    obtain ⟨b, off, spot⟩ := a
    have hspot : spot = none := by
      have := World.cell?_spot (hT 0 (by omega)).1
      simpa [Addr.add] using this
    subst hspot
    rw [add_none] at c0 c1 c2
    exact ⟨b, off, vf, rfl, trivial, c0, by rw [Nat.add_assoc]; exact c1, by rw [Nat.add_assoc]; exact c2, hs⟩

set_option maxRecDepth 20000 in
set_option maxHeartbeats 800000 in
theorem ths_trod {H : Type} {enc : TypeId × Value → H} {W : World} {fuel : Nat} {cs : List Value} {x : DataW H × List MemPlace} {sp : Nat → Bool} {held : Bool}
    (hf : DataW.trod enc Tryz.prog W 0 sp held fuel 23 cs = some x) : ∃ v l, cs = [v] ∧ ThgSl anyB W v l := by
  have hcells : Tryz.prog.cellsOf 68 = 3 := by kernel_rfl
  have hfl : Tryz.prog.cellsOf 66 = 1 := by kernel_rfl
  have hstr : Tryz.prog.cellsOf 9 = 1 := by kernel_rfl
  have hint : Tryz.prog.cellsOf 3 = 1 := by kernel_rfl
  rcases Deep.open_slice Tryz.underlying23 hf with ⟨rfl, _⟩ | ⟨a, len, cap, m, n, D, Pl, rfl, hb, hl, hm, hmm, hx, hall⟩
  · exact ⟨_, [], rfl, ThgSl.nil _ W⟩
  · have hlm : len ≤ m := by rw [hmm]; split <;> omega
    rw [hcells] at hall
    have each : ∀ i, i < len → ∃ t : ThingT, W.cell? (a.add (i * 3)) = some (.int .i64 t.ty) ∧ W.cell? (a.add (i * 3 + 1)) = some (.int .i64 t.id) ∧ ∃ vf, W.cell? (a.add (i * 3 + 2)) = some vf ∧ CelSl anyB W vf t.cells := by
      intro i hi
      obtain ⟨cs', h1, h2⟩ := hall i (by omega)
      obtain ⟨_, hlen, hcell⟩ := World.cells?_some h1
      obtain ⟨xs, q, _, _, _, hxl, hfd⟩ := DataW.trod_struct Tryz.underlying68 h2
      match xs, hxl, cs', hlen with
      | [y0, y1, y2], _, [v0, v1, v2], _ =>
        have g0 := hfd 0 _ rfl
        have g1 := hfd 1 _ rfl
        have g2 := hfd 2 _ rfl
        simp [hfl, hint] at g0 g1 g2
        obtain ⟨z0, e0, _, _⟩ := DataW.trod_int Tryz.underlying3 g0
        obtain ⟨z1, e1, _, _⟩ := DataW.trod_int Tryz.underlying3 g1
        obtain ⟨u1, l1, e2, s1⟩ := cels_trod g2
        simp only [List.cons.injEq, and_true] at e0 e1 e2
        subst e0 e1 e2
        have c0 := hcell 0 (by omega)
        have c1 := hcell 1 (by omega)
        have c2 := hcell 2 (by omega)
        rw [Deep.add_add] at c0 c1 c2
        exact ⟨⟨z0, z1, l1⟩, by simpa using c0, by simpa using c1, v2, by simpa using c2, s1⟩
    have : Inhabited ThingT := ⟨thing0⟩
    obtain ⟨T, hT⟩ := Deep.choose_lt each
    have hlen : ((List.range len).map T).length = len := by simp
    refine ⟨_, (List.range len).map T, rfl, some a, cap, by rw [hlen], by rw [hlen]; exact ⟨by omega, hl⟩, ?_⟩
    intro i t ht
    obtain ⟨hi, ht⟩ := List.getElem?_eq_some_iff.1 ht
    rw [hlen] at hi
    simp only [List.getElem_map, List.getElem_range] at ht
    subst ht
    obtain ⟨c0, c1, vf, c2, hs⟩ := hT i hi
    obtain ⟨b, off, spot⟩ := a
    have hspot : spot = none := by
      have := World.cell?_spot (hT 0 (by omega)).1
      simpa [Addr.add] using this
    subst hspot
    rw [add_none] at c0 c1 c2
    exact ⟨b, off, vf, rfl, trivial, c0, by rw [Nat.add_assoc]; exact c1, by rw [Nat.add_assoc]; exact c2, hs⟩

set_option maxRecDepth 20000 in
theorem state_of {H : Type} {enc : TypeId × Value → H} {W : World} {r : Reach} {b0 : Nat} {v : Value} {d : DataW H} {ps : List MemPlace} {sp : Nat → Bool} {held : Bool}
    (hval : Value.okWide Tryz.prog W r b0 25 v) (h : DataW.Trod enc Tryz.prog W 0 sp held 25 v d ps) : ∃ (s : StateT) (vt vh : Value), v = stV vt vh ∧ TypSl anyB W vt s.types ∧ ThgSl anyB W vh s.things := by
  obtain ⟨v0, v1, y0, y1, n, rfl, _, _, h0, h1⟩ := Joins.open_agg2 Tryz.underlying25 (by kernel_rfl) (by kernel_rfl) hval h
  obtain ⟨u, l, e0, hs⟩ := typs_trod h0
  obtain ⟨u1, l1, e1, hs1⟩ := ths_trod h1
  simp only [List.cons.injEq, and_true] at e0 e1
  subst e0 e1
  exact ⟨⟨l, l1⟩, _, _, rfl, hs, hs1⟩

set_option maxRecDepth 20000 in
theorem event_of {H : Type} {enc : TypeId × Value → H} {W : World} {r : Reach} {b0 : Nat} {v : Value} {d : DataW H} {ps : List MemPlace} {sp : Nat → Bool} {held : Bool}
    (hval : Value.okWide Tryz.prog W r b0 27 v) (h : DataW.Trod enc Tryz.prog W 0 sp held 27 v d ps) : ∃ e : EventT, v = evV e := by
  have hcells : Tryz.prog.cellsOf 27 = 6 := by kernel_rfl
  have hint : Tryz.prog.cellsOf 3 = 1 := by kernel_rfl
  have hstr : Tryz.prog.cellsOf 9 = 1 := by kernel_rfl
  obtain ⟨⟨cs⟩, rfl, hsz⟩ := okWide_struct Tryz.underlying27 hval
  rw [hcells] at hsz
  obtain ⟨fuel, hf⟩ := h
  obtain ⟨xs, q, _, _, _, hxl, hfd⟩ := DataW.trod_struct Tryz.underlying27 hf
  match xs, hxl, cs, hsz with
  | [y0, y1, y2, y3, y4, y5], _, [v0, v1, v2, v3, v4, v5], _ =>
    have g0 := hfd 0 _ rfl
    have g1 := hfd 1 _ rfl
    have g2 := hfd 2 _ rfl
    have g3 := hfd 3 _ rfl
    have g4 := hfd 4 _ rfl
    have g5 := hfd 5 _ rfl
    simp [hint, hstr, Value.cells] at g0 g1 g2 g3 g4 g5
    obtain ⟨z0, e0, _, _⟩ := DataW.trod_int Tryz.underlying3 g0
    obtain ⟨z1, e1, _, _⟩ := DataW.trod_int Tryz.underlying3 g1
    obtain ⟨z2, e2, _, _⟩ := DataW.trod_int Tryz.underlying3 g2
    obtain ⟨z3, e3, _, _⟩ := DataW.trod_int Tryz.underlying3 g3
    obtain ⟨z4, e4, _, _⟩ := DataW.trod_int Tryz.underlying3 g4
    obtain ⟨z5, e5, _, _⟩ := DataW.trod_string Tryz.underlying9 g5
    simp only [List.cons.injEq, and_true] at e0 e1 e2 e3 e4 e5
    subst e0 e1 e2 e3 e4 e5
    exact ⟨⟨z0, z1, z2, z3, z4, z5.data.toList⟩, rfl⟩

end Go.Proofs.YtidodjbmlbjchaaGreat

/- Arguments that hold events: what the row's reading says of them. -/
namespace Go.Proofs.YtidodjbmlbjchaaGreat
open Go.ChangeShapes Go.WideShapes Go.RowKit

def anyE (_ : Nat) : Prop := True

set_option maxRecDepth 20000 in
set_option maxHeartbeats 800000 in
theorem evs_trod {H : Type} {enc : TypeId × Value → H} {W : World} {fuel : Nat} {cs : List Value} {x : DataW H × List MemPlace} {sp : Nat → Bool} {held : Bool}
    (hf : DataW.trod enc Tryz.prog W 0 sp held fuel 37 cs = some x) : ∃ v l, cs = [v] ∧ EvSl anyE W v l := by
  have hcells : Tryz.prog.cellsOf 27 = 6 := by kernel_rfl
  have hint : Tryz.prog.cellsOf 3 = 1 := by kernel_rfl
  have hstr : Tryz.prog.cellsOf 9 = 1 := by kernel_rfl
  rcases Deep.open_slice Tryz.underlying37 hf with ⟨rfl, _⟩ | ⟨a, len, cap, m, n, D, Pl, rfl, hb, hl, hm, hmm, hx, hall⟩
  · exact ⟨_, [], rfl, EvSl.nil _ W⟩
  · have hlm : len ≤ m := by rw [hmm]; split <;> omega
    rw [hcells] at hall
    have each : ∀ i, i < len → ∃ t : EventT, W.cell? (a.add (i * 6)) = some (.int .i64 t.kind) ∧ W.cell? (a.add (i * 6 + 1)) = some (.int .i64 t.ty) ∧ W.cell? (a.add (i * 6 + 2)) = some (.int .i64 t.id) ∧
        W.cell? (a.add (i * 6 + 3)) = some (.int .i64 t.field) ∧ W.cell? (a.add (i * 6 + 4)) = some (.int .i64 t.n) ∧ W.cell? (a.add (i * 6 + 5)) = some (.string ⟨t.text.toArray⟩) := by
      intro i hi
      obtain ⟨cs', h1, h2⟩ := hall i (by omega)
      obtain ⟨_, hlen, hcell⟩ := World.cells?_some h1
      obtain ⟨xs, q, _, _, _, hxl, hfd⟩ := DataW.trod_struct Tryz.underlying27 h2
      match xs, hxl, cs', hlen with
      | [y0, y1, y2, y3, y4, y5], _, [v0, v1, v2, v3, v4, v5], _ =>
        have g0 := hfd 0 _ rfl
        have g1 := hfd 1 _ rfl
        have g2 := hfd 2 _ rfl
        have g3 := hfd 3 _ rfl
        have g4 := hfd 4 _ rfl
        have g5 := hfd 5 _ rfl
        simp [hint, hstr] at g0 g1 g2 g3 g4 g5
        obtain ⟨z0, e0, _, _⟩ := DataW.trod_int Tryz.underlying3 g0
        obtain ⟨z1, e1, _, _⟩ := DataW.trod_int Tryz.underlying3 g1
        obtain ⟨z2, e2, _, _⟩ := DataW.trod_int Tryz.underlying3 g2
        obtain ⟨z3, e3, _, _⟩ := DataW.trod_int Tryz.underlying3 g3
        obtain ⟨z4, e4, _, _⟩ := DataW.trod_int Tryz.underlying3 g4
        obtain ⟨z5, e5, _, _⟩ := DataW.trod_string Tryz.underlying9 g5
        simp only [List.cons.injEq, and_true] at e0 e1 e2 e3 e4 e5
        subst e0 e1 e2 e3 e4 e5
        have c0 := hcell 0 (by omega)
        have c1 := hcell 1 (by omega)
        have c2 := hcell 2 (by omega)
        have c3 := hcell 3 (by omega)
        have c4 := hcell 4 (by omega)
        have c5 := hcell 5 (by omega)
        rw [Deep.add_add] at c0 c1 c2 c3 c4 c5
        exact ⟨⟨z0, z1, z2, z3, z4, z5.data.toList⟩, by simpa using c0, by simpa using c1, by simpa using c2, by simpa using c3, by simpa using c4, by simpa using c5⟩
    have : Inhabited EventT := ⟨event0⟩
    obtain ⟨T, hT⟩ := Deep.choose_lt each
    have hlen : ((List.range len).map T).length = len := by simp
    refine ⟨_, (List.range len).map T, rfl, some a, cap, by rw [hlen], by rw [hlen]; exact ⟨by omega, hl⟩, ?_⟩
    intro i t ht
    obtain ⟨hi, ht⟩ := List.getElem?_eq_some_iff.1 ht
    rw [hlen] at hi
    simp only [List.getElem_map, List.getElem_range] at ht
    subst ht
    obtain ⟨c0, c1, c2, c3, c4, c5⟩ := hT i hi
    obtain ⟨b, off, spot⟩ := a
    have hspot : spot = none := by
      have := World.cell?_spot (hT 0 (by omega)).1
      simpa [Addr.add] using this
    subst hspot
    rw [addr_add] at c0 c1 c2 c3 c4 c5
    exact ⟨b, off, rfl, trivial, c0, by rw [Nat.add_assoc]; exact c1, by rw [Nat.add_assoc]; exact c2, by rw [Nat.add_assoc]; exact c3, by rw [Nat.add_assoc]; exact c4, by rw [Nat.add_assoc]; exact c5⟩

end Go.Proofs.YtidodjbmlbjchaaGreat

/- An argument that is a slice of events. -/
namespace Go.Proofs.YtidodjbmlbjchaaGreat
open Go.ChangeShapes Go.WideShapes Go.RowKit

set_option maxRecDepth 20000 in
theorem events_of {H : Type} {enc : TypeId × Value → H} {W : World} {r : Reach} {b0 : Nat} {v : Value} {d : DataW H} {ps : List MemPlace} {sp : Nat → Bool} {held : Bool}
    (hval : Value.okWide Tryz.prog W r b0 37 v) (h : DataW.Trod enc Tryz.prog W 0 sp held 37 v d ps) : ∃ l, EvSl anyB W v l := by
  obtain ⟨ao, len, cap, rfl⟩ := okWide_slice Tryz.underlying37 hval
  obtain ⟨fuel, hf⟩ := h
  obtain ⟨v, f, e, hs⟩ := evs_trod hf
  simp only [Value.cells, List.cons.injEq, and_true] at e
  subst e
  exact ⟨f, hs⟩

end Go.Proofs.YtidodjbmlbjchaaGreat

/- An argument that is a slice of events, no more of them than its bulk. -/
namespace Go.Proofs.YtidodjbmlbjchaaGreat
open Go.ChangeShapes Go.WideShapes Go.RowKit

theorem bulk_one {H : Type} (d : DataW H) : 1 ≤ Rows.uptoBulk d := by
  cases d with
  | lit l => cases l <;> simp [Rows.uptoBulk]
  | nil => simp [Rows.uptoBulk]
  | ptr d => simp [Rows.uptoBulk]
  | slice a b => simp [Rows.uptoBulk]
  | agg a => simp [Rows.uptoBulk]
  | iface a b => simp [Rows.uptoBulk]
  | map a => simp [Rows.uptoBulk]
  | held a => simp [Rows.uptoBulk]
theorem bulk_len {H : Type} : ∀ l : List (DataW H), l.length ≤ Rows.uptoBulkAll l
  | [] => Nat.zero_le _
  | d :: r => by
    have h1 := bulk_one d
    have h2 := bulk_len r
    simp only [Rows.uptoBulkAll, List.length_cons]
    omega

set_option maxRecDepth 20000 in
theorem events_of_b {H : Type} {enc : TypeId × Value → H} {W : World} {r : Reach} {b0 : Nat} {v : Value} {d : DataW H} {ps : List MemPlace} {sp : Nat → Bool} {held : Bool}
    (hval : Value.okWide Tryz.prog W r b0 37 v) (h : DataW.Trod enc Tryz.prog W 0 sp held 37 v d ps) : ∃ l, EvSl anyB W v l ∧ l.length ≤ Rows.uptoBulk d := by
  obtain ⟨ao, len, cap, rfl⟩ := okWide_slice Tryz.underlying37 hval
  obtain ⟨fuel, hf⟩ := h
  obtain ⟨v, f, e, hs⟩ := evs_trod hf
  simp only [Value.cells, List.cons.injEq, and_true] at e
  subst e
  obtain ⟨hn, _, _⟩ := hs.len
  refine ⟨f, hs, ?_⟩
  rcases Deep.open_slice Tryz.underlying37 hf with ⟨hc, _⟩ | ⟨a, len', cap', m, n, D, Pl, hc, hb, hl, hm, hmm, hx, hall⟩
  · simp only [Value.cells, List.cons.injEq, Value.slice.injEq, and_true] at hc
    have := hc.2.1
    omega
  · simp only [Value.cells, List.cons.injEq, Value.slice.injEq, and_true] at hc
    have h2 := hc.2.1
    have hd := (Prod.mk.inj hx).1
    subst hd
    simp only [Rows.uptoBulk]
    have h3 := bulk_len ((List.range len').map D)
    simp only [List.length_map, List.length_range] at h3
    omega

theorem EvSl.news {P : Nat → Prop} {w : World} {ao : Option Addr} {n cap : Nat} {l : List EventT} (h : EvSl P w (.slice ao n cap) l) : (ao = none → l.length = 0) ∧ ∀ ad, ao = some ad → ∀ j u, (evCells l)[j]? = some u → w.cell? (ad.add j) = some u := by
  obtain ⟨ao', cap', hv, _, hc⟩ := h
  cases hv
  constructor
  · intro e
    cases l with
    | nil => rfl
    | cons x r =>
      obtain ⟨b, off, hb, _⟩ := hc 0 x rfl
      rw [e] at hb
      cases hb
  · intro ad had j u hj
    have hjl : j < (evCells l).length := (List.getElem?_eq_some_iff.1 hj).1
    rw [evCells_len] at hjl
    have hi : j / 6 < l.length := by omega
    obtain ⟨b, off, hb, _, f0, f1, f2, f3, f4, f5⟩ := hc (j / 6) l[j / 6] (List.getElem?_eq_getElem hi)
    rw [had] at hb
    cases hb
    have hg := evCells_get l (j / 6) l[j / 6] (List.getElem?_eq_getElem hi) (j % 6) (by omega)
    rw [show j / 6 * 6 + j % 6 = j by omega, hj] at hg
    rw [addr_add]
    generalize l[j / 6] = e at hg f0 f1 f2 f3 f4 f5
    have hr : j % 6 = 0 ∨ j % 6 = 1 ∨ j % 6 = 2 ∨ j % 6 = 3 ∨ j % 6 = 4 ∨ j % 6 = 5 := by omega
    rcases hr with hr | hr | hr | hr | hr | hr
    · rw [hr] at hg; simp [evC] at hg; subst hg; rw [show off + j = off + j / 6 * 6 by omega]; exact f0
    · rw [hr] at hg; simp [evC] at hg; subst hg; rw [show off + j = off + j / 6 * 6 + 1 by omega]; exact f1
    · rw [hr] at hg; simp [evC] at hg; subst hg; rw [show off + j = off + j / 6 * 6 + 2 by omega]; exact f2
    · rw [hr] at hg; simp [evC] at hg; subst hg; rw [show off + j = off + j / 6 * 6 + 3 by omega]; exact f3
    · rw [hr] at hg; simp [evC] at hg; subst hg; rw [show off + j = off + j / 6 * 6 + 4 by omega]; exact f4
    · rw [hr] at hg; simp [evC] at hg; subst hg; rw [show off + j = off + j / 6 * 6 + 5 by omega]; exact f5

end Go.Proofs.YtidodjbmlbjchaaGreat
