import Derived.Test.YtkkjchfhgjfclaaGreatDoorQuerytellsupto01
import Derived.Deep.Strs
import Derived.Carry
/- Arguments that are slices of tokens: what the row's reading says of them. -/
namespace Go.Proofs.YtkkjchfhgjfclaaGreatDoor
open Go.ChangeShapes Go.WideShapes Go.RowKit

theorem add_none (b off j : Nat) : ((⟨b, off, none⟩ : Addr).add j) = ⟨b, off + j, none⟩ := by
  unfold Addr.add
  split
  · rename_i h; rw [h]; rfl
  · rfl

set_option maxRecDepth 20000 in
/-- an argument's slice of tokens -/
theorem toks_of {H : Type} {enc : TypeId × Value → H} {W : World} {r : Reach} {b0 : Nat} {v : Value} {d : DataW H} {ps : List MemPlace} {sp : Nat → Bool} {held : Bool}
    (hval : Value.okWide Tryz.prog W r b0 35 v) (h : DataW.Trod enc Tryz.prog W 0 sp held 35 v d ps)
    (hsz : ∀ elems spare, d = .slice elems spare → (elems.length + spare.length) * Tryz.prog.bytesOf 58 ≤ reachBytes) : ∃ l, TokSl W v l := by
  obtain ⟨ao, len, cap, rfl⟩ := okWide_slice Tryz.underlying35 hval
  obtain ⟨fuel, hf⟩ := h
  have hcells : Tryz.prog.cellsOf 58 = 3 := by kernel_rfl
  have hbytes : Tryz.prog.bytesOf 58 = 32 := by kernel_rfl
  have hint : Tryz.prog.cellsOf 3 = 1 := by kernel_rfl
  have hstr : Tryz.prog.cellsOf 9 = 1 := by kernel_rfl
  rcases Deep.open_slice Tryz.underlying35 hf with ⟨hc, _⟩ | ⟨a, len', cap', m, n, D, Pl, hc, hb, hl, hm, hmm, hx, hall⟩
  · simp only [Value.cells, List.cons.injEq, Value.slice.injEq, and_true] at hc
    obtain ⟨rfl, rfl, rfl⟩ := hc
    exact ⟨[], TokSl.nil W⟩
  · simp only [Value.cells, List.cons.injEq, Value.slice.injEq, and_true] at hc
    obtain ⟨rfl, rfl, rfl⟩ := hc
    have hlm : len ≤ m := by rw [hmm]; split <;> omega
    rw [hcells] at hall
    have each : ∀ i, i < len → ∃ t : Tok, W.cell? (a.add (i * 3)) = some (.int .i64 t.k) ∧ W.cell? (a.add (i * 3 + 1)) = some (.string ⟨t.s.toArray⟩) ∧ W.cell? (a.add (i * 3 + 2)) = some (.int .i64 t.n) := by
      intro i hi
      obtain ⟨cs', h1, h2⟩ := hall i (by omega)
      obtain ⟨_, hlen, hcell⟩ := World.cells?_some h1
      obtain ⟨y0, y1, y2, k, _, _, g0, g1, g2⟩ := Deep.trod_struct3 Tryz.underlying58 h2
      match cs', hlen with
      | [v0, v1, v2], _ =>
        simp only [hint, hstr, List.drop_zero, List.drop_succ_cons, List.take_succ_cons, List.take_zero] at g0 g1 g2
        obtain ⟨z0, e0, _, _⟩ := DataW.trod_int Tryz.underlying3 g0
        obtain ⟨z1, e1, _, _⟩ := DataW.trod_string Tryz.underlying9 g1
        obtain ⟨z2, e2, _, _⟩ := DataW.trod_int Tryz.underlying3 g2
        simp only [List.cons.injEq, and_true] at e0 e1 e2
        subst e0 e1 e2
        have c0 := hcell 0 (by omega)
        have c1 := hcell 1 (by omega)
        have c2 := hcell 2 (by omega)
        rw [Deep.add_add] at c0 c1 c2
        exact ⟨⟨z0, z1.data.toList, z2⟩, by simpa using c0, by simpa using c1, by simpa using c2⟩
    have : Inhabited Tok := ⟨⟨0, [], 0⟩⟩
    obtain ⟨T, hT⟩ := Deep.choose_lt each
    have hlen : ((List.range len).map T).length = len := by simp
    have hle : len ≤ 9000000000000 := by
      have e := hsz _ _ (Prod.mk.inj hx).1
      rw [hbytes] at e
      simp only [List.length_map, List.length_range] at e
      have : reachBytes < 2 ^ 47 := by decide
      omega
    refine ⟨(List.range len).map T, some a, cap, by rw [hlen], by rw [hlen]; exact hle, ?_⟩
    intro i t ht
    obtain ⟨hi, ht⟩ := List.getElem?_eq_some_iff.1 ht
    rw [hlen] at hi
    simp only [List.getElem_map, List.getElem_range] at ht
    subst ht
    obtain ⟨c0, c1, c2⟩ := hT i hi
    obtain ⟨b, off, spot⟩ := a
    have hspot : spot = none := by
      have := World.cell?_spot (hT 0 (by omega)).1
      simpa [Addr.add] using this
    subst hspot
    rw [add_none] at c0 c1 c2
    exact ⟨b, off, rfl, c0, by rw [Nat.add_assoc]; exact c1, by rw [Nat.add_assoc]; exact c2⟩

end Go.Proofs.YtkkjchfhgjfclaaGreatDoor

/- Slices of arguments and of selects in memory, and as a row's arguments. -/
namespace Go.Proofs.YtkkjchfhgjfclaaGreatDoor
open Go.ChangeShapes Go.WideShapes Go.RowKit

/-- v is a slice of the arguments l, in w -/
def ArgSl (w : World) (v : Value) (l : List ArgT) : Prop :=
  ∃ ao cap, v = .slice ao l.length cap ∧ (l.length ≤ maxLen ∧ l.length ≤ cap) ∧ ∀ i a, l[i]? = some a → ∃ b off, ao = some ⟨b, off, none⟩ ∧
    w.cell? ⟨b, off + i * 4, none⟩ = some (.string ⟨a.name.toArray⟩) ∧ w.cell? ⟨b, off + i * 4 + 1, none⟩ = some (.bool a.isText) ∧ w.cell? ⟨b, off + i * 4 + 2, none⟩ = some (.string ⟨a.text.toArray⟩) ∧ w.cell? ⟨b, off + i * 4 + 3, none⟩ = some (.int .i64 a.n)

/-- the selects f lie in block b from off on, in w -/
def SelAt (w : World) : Sels → Nat → Nat → Prop
  | .nil, _, _ => True
  | .cons al nm args k r, b, off =>
    w.cell? ⟨b, off, none⟩ = some (.string ⟨al.toArray⟩) ∧ w.cell? ⟨b, off + 1, none⟩ = some (.string ⟨nm.toArray⟩) ∧
    (∃ va, w.cell? ⟨b, off + 2, none⟩ = some va ∧ ArgSl w va args) ∧
    (∃ ao cap, w.cell? ⟨b, off + 3, none⟩ = some (.slice ao k.len cap) ∧ (k.len ≤ maxLen ∧ k.len ≤ cap) ∧ (k = .nil ∨ ∃ b' o', ao = some ⟨b', o', none⟩ ∧ SelAt w k b' o')) ∧
    SelAt w r b (off + 4)

/-- v is a slice of the selects f, in w -/
def SelSl (w : World) (v : Value) (f : Sels) : Prop :=
  ∃ ao cap, v = .slice ao f.len cap ∧ (f.len ≤ maxLen ∧ f.len ≤ cap) ∧ (f = .nil ∨ ∃ b o, ao = some ⟨b, o, none⟩ ∧ SelAt w f b o)

theorem ArgSl.same {w w' : World} {v : Value} {l : List ArgT} (h : ArgSl w v l) (hk : Same w w') : ArgSl w' v l := by
  obtain ⟨ao, cap, hv, hl, hc⟩ := h
  refine ⟨ao, cap, hv, hl, fun i t ht => ?_⟩
  obtain ⟨b, off, ha, h0, h1, h2, h3⟩ := hc i t ht
  exact ⟨b, off, ha, hk.cell h0 (fun f => f), hk.cell h1 (fun f => f), hk.cell h2 (fun f => f), hk.cell h3 (fun f => f)⟩

theorem SelAt.same {w w' : World} (hk : Same w w') : ∀ (f : Sels) (b off : Nat), SelAt w f b off → SelAt w' f b off := by
  intro f
  induction f with
  | nil => intro b off _; trivial
  | cons al nm args k r ihk ihr =>
    intro b off h
    obtain ⟨h0, h1, ⟨va, h2, ha⟩, ⟨ao, cap, h3, hl, hs⟩, hr⟩ := h
    refine ⟨hk.cell h0 (fun f => f), hk.cell h1 (fun f => f), ⟨va, hk.cell h2 (fun f => f), ha.same hk⟩, ⟨ao, cap, hk.cell h3 (fun f => f), hl, ?_⟩, ihr _ _ hr⟩
    rcases hs with rfl | ⟨b', o', e, hs⟩
    · exact .inl rfl
    · exact .inr ⟨b', o', e, ihk _ _ hs⟩

theorem SelSl.same {w w' : World} {v : Value} {f : Sels} (h : SelSl w v f) (hk : Same w w') : SelSl w' v f := by
  obtain ⟨ao, cap, hv, hl, hs⟩ := h
  refine ⟨ao, cap, hv, hl, ?_⟩
  rcases hs with rfl | ⟨b, o, e, hs⟩
  · exact .inl rfl
  · exact .inr ⟨b, o, e, SelAt.same hk _ _ _ hs⟩

theorem SelSl.nil (w : World) : SelSl w (.slice none 0 0) .nil := ⟨none, 0, rfl, ⟨Nat.zero_le _, Nat.le_refl _⟩, .inl rfl⟩

set_option maxRecDepth 20000 in
/-- an argument's slice of arguments, as cells -/
theorem args_of {H : Type} {enc : TypeId × Value → H} {W : World} {fuel : Nat} {cs : List Value} {x : DataW H × List MemPlace} {sp : Nat → Bool} {held : Bool}
    (hf : DataW.trod enc Tryz.prog W 0 sp held fuel 26 cs = some x) : ∃ v l, cs = [v] ∧ ArgSl W v l := by
  have hcells : Tryz.prog.cellsOf 63 = 4 := by kernel_rfl
  have hint : Tryz.prog.cellsOf 3 = 1 := by kernel_rfl
  have hstr : Tryz.prog.cellsOf 9 = 1 := by kernel_rfl
  have hboo : Tryz.prog.cellsOf 4 = 1 := by kernel_rfl
  rcases Deep.open_slice Tryz.underlying26 hf with ⟨rfl, _⟩ | ⟨a, len, cap, m, n, D, Pl, rfl, hb, hl, hm, hmm, hx, hall⟩
  · exact ⟨_, [], rfl, none, 0, rfl, ⟨Nat.zero_le _, Nat.le_refl _⟩, fun i t h => by simp at h⟩
  · have hlm : len ≤ m := by rw [hmm]; split <;> omega
    rw [hcells] at hall
    have each : ∀ i, i < len → ∃ t : ArgT, W.cell? (a.add (i * 4)) = some (.string ⟨t.name.toArray⟩) ∧ W.cell? (a.add (i * 4 + 1)) = some (.bool t.isText) ∧ W.cell? (a.add (i * 4 + 2)) = some (.string ⟨t.text.toArray⟩) ∧ W.cell? (a.add (i * 4 + 3)) = some (.int .i64 t.n) := by
      intro i hi
      obtain ⟨cs', h1, h2⟩ := hall i (by omega)
      obtain ⟨_, hlen, hcell⟩ := World.cells?_some h1
      obtain ⟨xs, q, _, _, _, hxl, hfd⟩ := DataW.trod_struct Tryz.underlying63 h2
      match xs, hxl, cs', hlen with
      | [y0, y1, y2, y3], _, [v0, v1, v2, v3], _ =>
        have g0 := hfd 0 _ rfl
        have g1 := hfd 1 _ rfl
        have g2 := hfd 2 _ rfl
        have g3 := hfd 3 _ rfl
        simp [hint, hstr, hboo] at g0 g1 g2 g3
        obtain ⟨z0, e0, _, _⟩ := DataW.trod_string Tryz.underlying9 g0
        obtain ⟨z1, e1, _⟩ := DataW.trod_bool Tryz.underlying4 g1
        obtain ⟨z2, e2, _, _⟩ := DataW.trod_string Tryz.underlying9 g2
        obtain ⟨z3, e3, _, _⟩ := DataW.trod_int Tryz.underlying3 g3
        simp only [List.cons.injEq, and_true] at e0 e1 e2 e3
        subst e0 e1 e2 e3
        have c0 := hcell 0 (by omega)
        have c1 := hcell 1 (by omega)
        have c2 := hcell 2 (by omega)
        have c3 := hcell 3 (by omega)
        rw [Deep.add_add] at c0 c1 c2 c3
        exact ⟨⟨z0.data.toList, z1, z2.data.toList, z3⟩, by simpa using c0, by simpa using c1, by simpa using c2, by simpa using c3⟩
    have : Inhabited ArgT := ⟨⟨[], false, [], 0⟩⟩
    obtain ⟨T, hT⟩ := Deep.choose_lt each
    have hlen : ((List.range len).map T).length = len := by simp
    refine ⟨_, (List.range len).map T, rfl, some a, cap, by rw [hlen], by rw [hlen]; exact ⟨by omega, hl⟩, ?_⟩
    intro i t ht
    obtain ⟨hi, ht⟩ := List.getElem?_eq_some_iff.1 ht
    rw [hlen] at hi
    simp only [List.getElem_map, List.getElem_range] at ht
    subst ht
    obtain ⟨c0, c1, c2, c3⟩ := hT i hi
    obtain ⟨b, off, spot⟩ := a
    have hspot : spot = none := by
      have := World.cell?_spot (hT 0 (by omega)).1
      simpa [Addr.add] using this
    subst hspot
    rw [add_none] at c0 c1 c2 c3
    exact ⟨b, off, rfl, c0, by rw [Nat.add_assoc]; exact c1, by rw [Nat.add_assoc]; exact c2, by rw [Nat.add_assoc]; exact c3⟩

end Go.Proofs.YtkkjchfhgjfclaaGreatDoor

/- query.fits, whatever it is handed. -/
namespace Go.Proofs.YtkkjchfhgjfclaaGreatDoor
open Go.RowKit

def Sels.size : Sels → Nat
  | .nil => 0
  | .cons _ _ _ k r => k.size + r.size + 1

/-- the counter at q holds n -/
def Lft (w : World) (q : Nat) (n : Int) : Prop := w.heap[q]? = some (.cells #[.int .i64 n] 3 (0, 0))

theorem Lft.al {w : World} {q : Nat} {n : Int} (h : Lft w q n) (o : Obj) : Lft (w.alloc o) q n := by
  have hq : q < w.heap.size := by
    rcases Nat.lt_or_ge q w.heap.size with h' | h'
    · exact h'
    · unfold Lft at h; simp [Array.getElem?_eq_none h'] at h
  unfold Lft at *
  rw [Below.heap_alloc _ _ _ hq]; exact h
theorem Lft.lt {w : World} {q : Nat} {n : Int} (h : Lft w q n) : q < w.heap.size := by
  rcases Nat.lt_or_ge q w.heap.size with h' | h'
  · exact h'
  · unfold Lft at h; simp [Array.getElem?_eq_none h'] at h
theorem Lft.c {w : World} {q : Nat} {n : Int} (h : Lft w q n) : w.cell? ⟨q, 0, none⟩ = some (.int .i64 n) := by simp [Lft] at h; simp [World.cell?, h]
theorem Lft.f {w : World} {q : Nat} {n : Int} (h : Lft w q n) : w.frozen? ⟨q, 0, none⟩ = false := by simp [Lft] at h; simp [World.frozen?, h]
theorem Lft.set {w : World} {q : Nat} {n m : Int} (h : Lft w q n) : Lft (w.setCell ⟨q, 0, none⟩ (.int .i64 m)) q m := by
  unfold Lft at *
  simp [World.setCell, Array.getElem?_modify, h]

theorem keptq {w0 w : World} {q : Nat} (hq : w0.heap.size ≤ q) (h : Kept (· = q) w0 w) {p : Addr} {v : Value} (hv : w0.cell? p = some v) : w.cell? p = some v :=
  h.cell hv (fun e => by have := World.block_lt_of_cell? w0 p hv; omega)

set_option maxRecDepth 20000 in
set_option maxHeartbeats 1600000 in
theorem fits_any (m : Nat) : ∀ (f : Sels), f.size ≤ m → ∀ (w0 w : World) (v : Value) (q d left : Nat), SelSl w0 v f → w0.heap.size ≤ q → Kept (· = q) w0 w → Lft w q left → d ≤ 6 → left ≤ 40 →
    Calls Tryz.prog 15 #[v, .int .i64 d, .pointer (some ⟨q, 0, none⟩)] w fun e w' =>
      (∃ n : Nat, fitsQ f d left = some n ∧ n ≤ 40 ∧ e = .returned (.bool true) ∧ Lft w' q n ∧ Kept (· = q) w w') ∨ (fitsQ f d left = none ∧ e = .returned (.bool false) ∧ Kept (· = q) w w') := by
  induction m with
  | zero =>
    intro f hf w0 w v q d left hv hq hK hL hd hl
    obtain ⟨ao, cap, rfl, hlen, hs⟩ := hv
    cases f with
    | cons al nm args k r => simp [Sels.size] at hf
    | nil =>
      go_enter Tryz.func15, Tryz.ntmps15
      go_wp2_with fail
      go_loopg [11] 1 (fun g i wr => wr = w ∧ i = .int .i64 0)
      case atStart => exact ⟨rfl, rfl⟩
      case round =>
        obtain ⟨rfl, rfl⟩ := hrel
        simp only [Sels.len]
        go_wp2_with fail
        go_ret
        exact .inl ⟨left, rfl, hl, rfl, hL, Kept.refl _ _⟩
  | succ m ih =>
    intro f hf w0 w v q d left hv hq hK hL hd hl
    obtain ⟨ao, cap, rfl, hlen, hs⟩ := hv
    have IH := hide ih
    have HS0 := hide hs
    clear ih hs
    have hlen2 : f.len ≤ 9223372036854775807 := hlen.1
    clear hlen
    go_enter Tryz.func15, Tryz.ntmps15
    go_wp2_with fail
    go_loopg [11] f.len (fun g i wr => ∃ (j : Nat) (s : Sels) (lf : Nat), s.len ≤ g ∧ g ≤ s.len ∧ j + s.len ≤ f.len ∧ f.len ≤ j + s.len ∧ i = .int .i64 j ∧ lf ≤ 40 ∧ s.size ≤ m + 1 ∧ Lft wr q lf ∧ Kept (· = q) w wr ∧ Hid (fitsQ f d left = fitsQ s d lf) ∧ Hid (s = .nil ∨ ∃ b o, ao = some ⟨b, o, none⟩ ∧ SelAt w0 s b (o + j * 4)))
    case atStart =>
      refine ⟨0, f, left, Nat.le_refl _, Nat.le_refl _, by omega, by omega, rfl, hl, hf, hL, Kept.refl _ _, rfl, ?_⟩
      rcases HS0.out with h | ⟨b, o, e, h⟩
      · exact .inl h
      · exact .inr ⟨b, o, e, by simpa using h⟩
    case round =>
      obtain ⟨j, s, lf, hg1, hg2, hj1, hj2, rfl, hlf, hsz, hLr, hKr, HF, HS⟩ := hrel
      cases s with
      | nil =>
        simp only [Sels.len] at hg1 hg2 hj1 hj2
        go_wp2_with fail
        go_ret
        exact .inl ⟨lf, HF.out, hlf, rfl, hLr, hKr⟩
      | cons al nm args k r =>
        simp only [Sels.len] at hg1 hg2 hj1 hj2
        simp only [Sels.size] at hsz
        obtain ⟨b, o, rfl, h0, h1, ⟨va, h2, ha⟩, ⟨ao', cap', h3, hl3, hs3⟩, hr⟩ : ∃ b o, ao = some ⟨b, o, none⟩ ∧ SelAt w0 (.cons al nm args k r) b (o + j * 4) := by
          rcases HS.out with h | h
          · cases h
          · exact h
        obtain ⟨aoa, capa, rfl, _, _⟩ := id ha
        have hK0 : Kept (· = q) w0 wr := hK.trans hKr (fun _ _ e => e)
        have c0 := keptq hq hK0 h0
        have c1 := keptq hq hK0 h1
        have c2 := keptq hq hK0 h2
        have c3 := keptq hq hK0 h3
        have HR := hide hr
        have HK3 := hide (show SelSl w0 (.slice ao' k.len cap') k from ⟨ao', cap', rfl, hl3, hs3⟩)
        have hqw := hLr.lt
        have cq : ∀ ob, (wr.alloc ob).cell? ⟨q, 0, none⟩ = some (.int .i64 lf) := fun ob => (hLr.al ob).c
        have fq : ∀ ob, (wr.alloc ob).frozen? ⟨q, 0, none⟩ = false := fun ob => (hLr.al ob).f
        have cs : ∀ (z : Int) ob, ((wr.setCell ⟨q, 0, none⟩ (.int .i64 z)).alloc ob).cell? ⟨q, 0, none⟩ = some (.int .i64 z) := fun z ob => ((hLr.set (m := z)).al ob).c
        clear h0 h1 h2 h3 hr ha hs3 hl3 HS
        by_cases hz : lf = 0
        · subst hz
          go_wp2_with fail
          go_ret
          exact .inr ⟨by rw [HF.out, fitsQ, if_pos (.inl rfl)], rfl, (hKr.setB 0 _).alloc _⟩
        · have hpos : (0 : Int) < lf := by omega
          have HZ := hide hz
          clear hz
          by_cases h5 : 5 < d
          · have h5' : (5 : Int) < d := by omega
            go_wp2_with fail
            go_ret
            exact .inr ⟨by rw [HF.out, fitsQ, if_pos (.inr h5)], rfl, (hKr.setB 0 _).alloc _⟩
          · have h5' : (d : Int) ≤ 5 := by omega
            have h1 : ∀ ob, Lft ((wr.setCell ⟨q, 0, none⟩ (.int .i64 ((lf : Int) - 1))).alloc ob) q ((lf - 1 : Nat) : Int) := fun ob => by
              have h := (hLr.set (m := (lf : Int) - 1)).al ob
              rw [show ((lf - 1 : Nat) : Int) = (lf : Int) - 1 from by omega]
              exact h
            have HL1 := hide h1
            clear h1
            go_wp2_with fail
            refine (IH.out k (by omega) w0 _ _ q (d + 1) (lf - 1) HK3.out hq (hK0.trans ((Kept.refl (· = q) wr).setB 0 _ |>.alloc _) (fun _ _ e => e)) (HL1.out _) (by omega) (by omega)).mono ?_
            rintro e w2 (⟨n, hn, hn40, rfl, hL2, hK2⟩ | ⟨hn, rfl, hK2⟩)
            · have HN := hide hn
              have HFF := hide (show fitsQ f d left = fitsQ r d n by rw [HF.out, fitsQ, if_neg (by have := HZ.out; omega), HN.out]; rfl)
              clear hn
              have hKw : Kept (· = q) w w2 := ((hKr.setB 0 _).alloc _).trans hK2 (fun _ _ e => e)
              go_wp2_with fail
              go_roundg (gk - 1)
              case measure => omega
              case rel => exact ⟨j + 1, r, n, by omega, by omega, by omega, by omega, by go_num, hn40, by omega, hL2, hKw, HFF, .inr ⟨b, o, rfl, by rw [show o + (j + 1) * 4 = o + j * 4 + 4 from by omega]; exact HR.out⟩⟩
            · have HN := hide hn
              have HFF := hide (show fitsQ f d left = none by rw [HF.out, fitsQ, if_neg (by have := HZ.out; omega), HN.out]; rfl)
              clear hn
              have hKw : Kept (· = q) w w2 := ((hKr.setB 0 _).alloc _).trans hK2 (fun _ _ e => e)
              go_wp2_with fail
              go_ret
              exact .inr ⟨HFF.out, rfl, hKw⟩

end Go.Proofs.YtkkjchfhgjfclaaGreatDoor
