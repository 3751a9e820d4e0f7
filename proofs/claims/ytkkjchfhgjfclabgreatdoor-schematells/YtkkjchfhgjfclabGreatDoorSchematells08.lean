import Derived.Test.YtkkjchfhgjfclabGreatDoorSchematells06
import Derived.Test.YtkkjchfhgjfclabGreatDoorSchematells07
import Derived.Test.YtkkjchfhgjfclabGreatDoorChecked
import Derived.Test.YtkkjchfhgjfclabGreatDoorSchematells01
import Derived.Lib.Bytealg
/- Slices of fields and of types in memory, and as a row's arguments. -/
namespace Go.Proofs.YtkkjchfhgjfclabGreatDoor
open Go.ChangeShapes Go.WideShapes Go.RowKit

/-- v is a slice of the fields l, in w, in a block of which P holds -/
def FldSl (P : Nat → Prop) (w : World) (v : Value) (l : List FieldT) : Prop :=
  ∃ ao cap, v = .slice ao l.length cap ∧ (l.length ≤ maxLen ∧ l.length ≤ cap) ∧ ∀ i f, l[i]? = some f → ∃ b off, ao = some ⟨b, off, none⟩ ∧ P b ∧
    w.cell? ⟨b, off + i * 3, none⟩ = some (.string ⟨f.name.toArray⟩) ∧ w.cell? ⟨b, off + i * 3 + 1, none⟩ = some (.int .i64 f.kind) ∧ w.cell? ⟨b, off + i * 3 + 2, none⟩ = some (.string ⟨f.of.toArray⟩)

/-- v is a slice of the types l, in w; their fields in blocks of which P holds -/
def TypSl (P : Nat → Prop) (w : World) (v : Value) (l : List TypeT) : Prop :=
  ∃ ao cap, v = .slice ao l.length cap ∧ (l.length ≤ maxLen ∧ l.length ≤ cap) ∧ ∀ i t, l[i]? = some t → ∃ b off vf, ao = some ⟨b, off, none⟩ ∧ P b ∧
    w.cell? ⟨b, off + i * 2, none⟩ = some (.string ⟨t.name.toArray⟩) ∧ w.cell? ⟨b, off + i * 2 + 1, none⟩ = some vf ∧ FldSl P w vf t.fields

def anyB : Nat → Prop := fun _ => True

theorem FldSl.keep {P X : Nat → Prop} {w w' : World} {v : Value} {l : List FieldT} (h : FldSl P w v l) (hk : Kept X w w') (hx : ∀ b, P b → ¬ X b) : FldSl P w' v l := by
  obtain ⟨ao, cap, hv, hl, hc⟩ := h
  refine ⟨ao, cap, hv, hl, fun i t ht => ?_⟩
  obtain ⟨b, off, ha, hp, h0, h1, h2⟩ := hc i t ht
  exact ⟨b, off, ha, hp, hk.cell h0 (hx b hp), hk.cell h1 (hx b hp), hk.cell h2 (hx b hp)⟩

theorem FldSl.mono {P Q : Nat → Prop} {w : World} {v : Value} {l : List FieldT} (h : FldSl P w v l) (hq : ∀ b, b < w.heap.size → P b → Q b) : FldSl Q w v l := by
  obtain ⟨ao, cap, hv, hl, hc⟩ := h
  refine ⟨ao, cap, hv, hl, fun i t ht => ?_⟩
  obtain ⟨b, off, ha, hp, h0, h1, h2⟩ := hc i t ht
  exact ⟨b, off, ha, hq b (World.block_lt_of_cell? w _ h0) hp, h0, h1, h2⟩

theorem FldSl.same {P : Nat → Prop} {w w' : World} {v : Value} {l : List FieldT} (h : FldSl P w v l) (hk : Same w w') : FldSl P w' v l := h.keep hk (fun _ _ f => f)

theorem FldSl.any {P : Nat → Prop} {w : World} {v : Value} {l : List FieldT} (h : FldSl P w v l) : FldSl anyB w v l := h.mono (fun _ _ _ => trivial)

theorem TypSl.keep {P X : Nat → Prop} {w w' : World} {v : Value} {l : List TypeT} (h : TypSl P w v l) (hk : Kept X w w') (hx : ∀ b, P b → ¬ X b) : TypSl P w' v l := by
  obtain ⟨ao, cap, hv, hl, hc⟩ := h
  refine ⟨ao, cap, hv, hl, fun i t ht => ?_⟩
  obtain ⟨b, off, vf, ha, hp, h0, h1, h2⟩ := hc i t ht
  exact ⟨b, off, vf, ha, hp, hk.cell h0 (hx b hp), hk.cell h1 (hx b hp), h2.keep hk hx⟩

theorem TypSl.same {P : Nat → Prop} {w w' : World} {v : Value} {l : List TypeT} (h : TypSl P w v l) (hk : Same w w') : TypSl P w' v l := h.keep hk (fun _ _ f => f)

theorem TypSl.mono {P Q : Nat → Prop} {w : World} {v : Value} {l : List TypeT} (h : TypSl P w v l) (hq : ∀ b, b < w.heap.size → P b → Q b) : TypSl Q w v l := by
  obtain ⟨ao, cap, hv, hl, hc⟩ := h
  refine ⟨ao, cap, hv, hl, fun i t ht => ?_⟩
  obtain ⟨b, off, vf, ha, hp, h0, h1, h2⟩ := hc i t ht
  exact ⟨b, off, vf, ha, hq b (World.block_lt_of_cell? w _ h0) hp, h0, h1, h2.mono hq⟩

theorem TypSl.any {P : Nat → Prop} {w : World} {v : Value} {l : List TypeT} (h : TypSl P w v l) : TypSl anyB w v l := h.mono (fun _ _ _ => trivial)

theorem FldSl.at {P : Nat → Prop} {w : World} {ao : Option Addr} {n cap : Nat} {l : List FieldT} (h : FldSl P w (.slice ao n cap) l) (i : Nat) (hi : i < l.length) : ∃ b off, ao = some ⟨b, off, none⟩ ∧
    w.cell? ⟨b, off + i * 3, none⟩ = some (.string ⟨l[i].name.toArray⟩) ∧ w.cell? ⟨b, off + i * 3 + 1, none⟩ = some (.int .i64 l[i].kind) ∧ w.cell? ⟨b, off + i * 3 + 2, none⟩ = some (.string ⟨l[i].of.toArray⟩) := by
  obtain ⟨ao', cap', hv, _, h3⟩ := h
  cases hv
  obtain ⟨b, off, ha, _, h⟩ := h3 i l[i] (List.getElem?_eq_getElem hi)
  exact ⟨b, off, ha, h⟩

theorem TypSl.at {P : Nat → Prop} {w : World} {ao : Option Addr} {n cap : Nat} {l : List TypeT} (h : TypSl P w (.slice ao n cap) l) (i : Nat) (hi : i < l.length) : ∃ b off af nf cf, ao = some ⟨b, off, none⟩ ∧
    w.cell? ⟨b, off + i * 2, none⟩ = some (.string ⟨l[i].name.toArray⟩) ∧ w.cell? ⟨b, off + i * 2 + 1, none⟩ = some (.slice af nf cf) ∧ nf = l[i].fields.length ∧ FldSl P w (.slice af nf cf) l[i].fields := by
  obtain ⟨ao', cap', hv, _, h3⟩ := h
  cases hv
  obtain ⟨b, off, vf, ha, _, h0, h1, h2⟩ := h3 i l[i] (List.getElem?_eq_getElem hi)
  obtain ⟨af, cf, rfl, _, _⟩ := id h2
  exact ⟨b, off, af, _, cf, ha, h0, h1, rfl, h2⟩

theorem FldSl.take {P : Nat → Prop} {w : World} {ao : Option Addr} {n cap : Nat} {l : List FieldT} (h : FldSl P w (.slice ao n cap) l) (j : Nat) (hj : j ≤ l.length) : FldSl P w (.slice ao j cap) (l.take j) := by
  obtain ⟨ao', cap', hv, hm, h3⟩ := h
  cases hv
  refine ⟨ao, cap, by rw [List.length_take, Nat.min_eq_left hj], by rw [List.length_take]; exact ⟨by omega, by omega⟩, fun i a ha => ?_⟩
  rw [List.getElem?_take] at ha
  split at ha
  · exact h3 i a ha
  · cases ha

theorem TypSl.take {P : Nat → Prop} {w : World} {ao : Option Addr} {n cap : Nat} {l : List TypeT} (h : TypSl P w (.slice ao n cap) l) (j : Nat) (hj : j ≤ l.length) : TypSl P w (.slice ao j cap) (l.take j) := by
  obtain ⟨ao', cap', hv, hm, h3⟩ := h
  cases hv
  refine ⟨ao, cap, by rw [List.length_take, Nat.min_eq_left hj], by rw [List.length_take]; exact ⟨by omega, by omega⟩, fun i a ha => ?_⟩
  rw [List.getElem?_take] at ha
  split at ha
  · exact h3 i a ha
  · cases ha

theorem FldSl.nil (P : Nat → Prop) (w : World) : FldSl P w (.slice none 0 0) [] := ⟨none, 0, rfl, ⟨Nat.zero_le _, Nat.le_refl _⟩, fun i t h => by simp at h⟩
theorem TypSl.nil (P : Nat → Prop) (w : World) : TypSl P w (.slice none 0 0) [] := ⟨none, 0, rfl, ⟨Nat.zero_le _, Nat.le_refl _⟩, fun i t h => by simp at h⟩

set_option maxRecDepth 20000 in
/-- an argument's slice of fields, as cells -/
theorem flds_of {H : Type} {enc : TypeId × Value → H} {W : World} {fuel : Nat} {cs : List Value} {x : DataW H × List MemPlace} {sp : Nat → Bool} {held : Bool}
    (hf : DataW.trod enc Tryz.prog W 0 sp held fuel 36 cs = some x) : ∃ v l, cs = [v] ∧ FldSl anyB W v l := by
  have hcells : Tryz.prog.cellsOf 40 = 3 := by kernel_rfl
  have hint : Tryz.prog.cellsOf 3 = 1 := by kernel_rfl
  have hstr : Tryz.prog.cellsOf 9 = 1 := by kernel_rfl
  rcases Deep.open_slice Tryz.underlying36 hf with ⟨rfl, _⟩ | ⟨a, len, cap, m, n, D, Pl, rfl, hb, hl, hm, hmm, hx, hall⟩
  · exact ⟨_, [], rfl, FldSl.nil _ W⟩
  · have hlm : len ≤ m := by rw [hmm]; split <;> omega
    rw [hcells] at hall
    have each : ∀ i, i < len → ∃ t : FieldT, W.cell? (a.add (i * 3)) = some (.string ⟨t.name.toArray⟩) ∧ W.cell? (a.add (i * 3 + 1)) = some (.int .i64 t.kind) ∧ W.cell? (a.add (i * 3 + 2)) = some (.string ⟨t.of.toArray⟩) := by
      intro i hi
      obtain ⟨cs', h1, h2⟩ := hall i (by omega)
      obtain ⟨_, hlen, hcell⟩ := World.cells?_some h1
      obtain ⟨xs, q, _, _, _, hxl, hfd⟩ := DataW.trod_struct Tryz.underlying40 h2
      match xs, hxl, cs', hlen with
      | [y0, y1, y2], _, [v0, v1, v2], _ =>
        have g0 := hfd 0 _ rfl
        have g1 := hfd 1 _ rfl
        have g2 := hfd 2 _ rfl
        simp [hint, hstr] at g0 g1 g2
        obtain ⟨z0, e0, _, _⟩ := DataW.trod_string Tryz.underlying9 g0
        obtain ⟨z1, e1, _, _⟩ := DataW.trod_int Tryz.underlying3 g1
        obtain ⟨z2, e2, _, _⟩ := DataW.trod_string Tryz.underlying9 g2
        simp only [List.cons.injEq, and_true] at e0 e1 e2
        subst e0 e1 e2
        have c0 := hcell 0 (by omega)
        have c1 := hcell 1 (by omega)
        have c2 := hcell 2 (by omega)
        rw [Deep.add_add] at c0 c1 c2
        exact ⟨⟨z0.data.toList, z1, z2.data.toList⟩, by simpa using c0, by simpa using c1, by simpa using c2⟩
    have : Inhabited FieldT := ⟨⟨[], 0, []⟩⟩
    obtain ⟨T, hT⟩ := Deep.choose_lt each
    have hlen : ((List.range len).map T).length = len := by simp
    refine ⟨_, (List.range len).map T, rfl, some a, cap, by rw [hlen], by rw [hlen]; exact ⟨by omega, hl⟩, ?_⟩
    intro i t ht
    obtain ⟨hi, ht⟩ := List.getElem?_eq_some_iff.1 ht
    rw [hlen] at hi
    simp only [List.getElem_map, List.getElem_range] at ht
    subst ht
    obtain ⟨c0, c1, c2⟩ := hT i hi
    obtain ⟨b, off, spot⟩ := a
    have hspot : spot = none := by
      have := World.cell?_spot (hT 0 (by omega)).1
      simpa [Addr.add] using this
    subst hspot
    rw [add_none] at c0 c1 c2
    exact ⟨b, off, rfl, trivial, c0, by rw [Nat.add_assoc]; exact c1, by rw [Nat.add_assoc]; exact c2⟩

set_option maxRecDepth 20000 in
theorem typs_trod {H : Type} {enc : TypeId × Value → H} {W : World} {fuel : Nat} {cs : List Value} {x : DataW H × List MemPlace} {sp : Nat → Bool} {held : Bool}
    (hf : DataW.trod enc Tryz.prog W 0 sp held fuel 34 cs = some x) : ∃ v l, cs = [v] ∧ TypSl anyB W v l := by
  have hcells : Tryz.prog.cellsOf 38 = 2 := by kernel_rfl
  have hfl : Tryz.prog.cellsOf 36 = 1 := by kernel_rfl
  have hstr : Tryz.prog.cellsOf 9 = 1 := by kernel_rfl
  rcases Deep.open_slice Tryz.underlying34 hf with ⟨rfl, _⟩ | ⟨a, len, cap, m, n, D, Pl, rfl, hb, hl, hm, hmm, hx, hall⟩
  · exact ⟨_, [], rfl, TypSl.nil _ W⟩
  · have hlm : len ≤ m := by rw [hmm]; split <;> omega
    rw [hcells] at hall
    have each : ∀ i, i < len → ∃ t : TypeT, W.cell? (a.add (i * 2)) = some (.string ⟨t.name.toArray⟩) ∧ ∃ vf, W.cell? (a.add (i * 2 + 1)) = some vf ∧ FldSl anyB W vf t.fields := by
      intro i hi
      obtain ⟨cs', h1, h2⟩ := hall i (by omega)
      obtain ⟨_, hlen, hcell⟩ := World.cells?_some h1
      obtain ⟨xs, q, _, _, _, hxl, hfd⟩ := DataW.trod_struct Tryz.underlying38 h2
      match xs, hxl, cs', hlen with
      | [y0, y1], _, [v0, v1], _ =>
        have g0 := hfd 0 _ rfl
        have g1 := hfd 1 _ rfl
        simp [hfl, hstr] at g0 g1
        obtain ⟨z0, e0, _, _⟩ := DataW.trod_string Tryz.underlying9 g0
        obtain ⟨u1, l1, e1, s1⟩ := flds_of g1
        simp only [List.cons.injEq, and_true] at e0 e1
        subst e0 e1
        have c0 := hcell 0 (by omega)
        have c1 := hcell 1 (by omega)
        rw [Deep.add_add] at c0 c1
        exact ⟨⟨z0.data.toList, l1⟩, by simpa using c0, v1, by simpa using c1, s1⟩
    have : Inhabited TypeT := ⟨⟨[], []⟩⟩
    obtain ⟨T, hT⟩ := Deep.choose_lt each
    have hlen : ((List.range len).map T).length = len := by simp
    refine ⟨_, (List.range len).map T, rfl, some a, cap, by rw [hlen], by rw [hlen]; exact ⟨by omega, hl⟩, ?_⟩
    intro i t ht
    obtain ⟨hi, ht⟩ := List.getElem?_eq_some_iff.1 ht
    rw [hlen] at hi
    simp only [List.getElem_map, List.getElem_range] at ht
    subst ht
    obtain ⟨c0, vf, c1, hs⟩ := hT i hi
    obtain ⟨b, off, spot⟩ := a
    have hspot : spot = none := by
      have := World.cell?_spot (hT 0 (by omega)).1
      simpa [Addr.add] using this
    subst hspot
    rw [add_none] at c0 c1
    exact ⟨b, off, vf, rfl, trivial, c0, by rw [Nat.add_assoc]; exact c1, hs⟩

set_option maxRecDepth 20000 in
/-- an argument's slice of types -/
theorem typs_of {H : Type} {enc : TypeId × Value → H} {W : World} {r : Reach} {b0 : Nat} {v : Value} {d : DataW H} {ps : List MemPlace} {sp : Nat → Bool} {held : Bool}
    (hval : Value.okWide Tryz.prog W r b0 34 v) (h : DataW.Trod enc Tryz.prog W 0 sp held 34 v d ps) : ∃ l, TypSl anyB W v l := by
  obtain ⟨ao, len, cap, rfl⟩ := okWide_slice Tryz.underlying34 hval
  obtain ⟨fuel, hf⟩ := h
  obtain ⟨v, f, e, hs⟩ := typs_trod hf
  simp only [Value.cells, List.cons.injEq, and_true] at e
  subst e
  exact ⟨f, hs⟩

end Go.Proofs.YtkkjchfhgjfclabGreatDoor

/- parse.IsDigit. -/
namespace Go.Proofs.YtkkjchfhgjfclabGreatDoor
open Go.RowKit

theorem isDigit_any (c : UInt8) (w : World) :
    Calls Tryz.prog 116 #[.int .u8 c.toNat] w fun e w' => e = .returned (.bool (dig c)) ∧ w' = w := by
  go_enter Tryz.func116, Tryz.ntmps116
  go_wp2
  all_goals go_ret
  all_goals refine ⟨ret_bool ?_, rfl⟩
  all_goals (rw [Bool.eq_iff_iff]; simp; try omega)

end Go.Proofs.YtkkjchfhgjfclabGreatDoor

/- Walks of lex's functions on bytes: those that Check meets. -/
namespace Go.Proofs.YtkkjchfhgjfclabGreatDoor
open Go.RowKit

theorem begins_any (c : UInt8) (w : World) :
    Calls Tryz.prog 113 #[.int .u8 c.toNat] w fun e w' => e = .returned (.bool (beg c)) ∧ w' = w := by
  go_enter Tryz.func113, Tryz.ntmps113
  go_wp2
  all_goals go_ret
  all_goals refine ⟨ret_bool ?_, rfl⟩
  all_goals (rw [Bool.eq_iff_iff]; simp; try omega)

def begX (c : UInt8) : Bool := beg c
def digX (c : UInt8) : Bool := dig c

theorem goesOn_any (c : UInt8) (w : World) :
    Calls Tryz.prog 115 #[.int .u8 c.toNat] w fun e w' => e = .returned (.bool (onn c)) ∧ w' = w := by
  have hb : ∀ w, Calls Tryz.prog 113 #[.int .u8 c.toNat] w fun e w' => e = .returned (.bool (begX c)) ∧ w' = w := fun w => begins_any c w
  have hd : ∀ w, Calls Tryz.prog 116 #[.int .u8 c.toNat] w fun e w' => e = .returned (.bool (digX c)) ∧ w' = w := fun w => isDigit_any c w
  have Hb := hide (hb)
  have Hd := hide (hd)
  clear hb hd
  have key : ∀ b d : Bool, begX c = b → digX c = d → onn c = (b || d) := by intro b d h1 h2; rw [← h1, ← h2]; rfl
  have Key := hide (key)
  clear key
  cases h1 : begX c <;> cases h2 : digX c
  all_goals
    have hk := Key.out _ _ h1 h2
    have HK := hide (hk)
    clear hk
    go_enter Tryz.func115, Tryz.ntmps115
    go_wp2_with (first
      | (go_at_call 113; refine (Hb.out _).mono ?_; rintro e w' ⟨rfl, rfl⟩)
      | (go_at_call 116; refine (Hd.out _).mono ?_; rintro e w' ⟨rfl, rfl⟩))
    all_goals go_ret
    all_goals exact ⟨ret_bool (by rw [HK.out]; rfl), rfl⟩

theorem indexByte_sgn (c : UInt8) : decide (0 ≤ Lib.indexByte [123, 125, 40, 41, 58, 91, 93] c) = sgn c := by
  have h : ∀ n : Fin 256, decide (0 ≤ Lib.indexByte [123, 125, 40, 41, 58, 91, 93] (UInt8.ofNat n)) = sgn (UInt8.ofNat n) := by decide +kernel
  have h1 := h ⟨c.toNat, c.toNat_lt⟩
  simpa using h1

set_option maxRecDepth 100000 in
theorem indexByte_any (s : ByteArray) (c : UInt8) (w : World) :
    Calls Tryz.prog 149 #[.string s, .int .u8 c.toNat] w fun e w' => e = .returned (.int .i64 (Lib.indexByte s.data.toList c)) ∧ w' = w := by
  go_enter Tryz.func149, Tryz.ntmps149
  go_wp2
  rw [run_callFunc_extern Tryz.func160 (by kernel_rfl) (by kernel_rfl) (by kernel_rfl) (e := Extern.BytealgIndexByte.indexByte) (by kernel_rfl), Lib.run_indexByteString]
  simp only [Result.andThen]
  rw [Oper.upon_value]
  go_wp2
  go_ret
  exact ⟨ret_int (by congr 1), rfl⟩

theorem isSign_any (c : UInt8) (w : World) :
    Calls Tryz.prog 121 #[.int .u8 c.toNat] w fun e w' => e = .returned (.bool (sgn c)) ∧ w' = w := by
  go_enter Tryz.func121, Tryz.ntmps121
  go_wp2_with (first
    | (go_at_call 140; go_in)
    | (go_at_call 149; refine (indexByte_any _ c _).mono ?_; rintro e w' ⟨rfl, rfl⟩))
  all_goals go_ret
  all_goals refine ⟨ret_bool ?_, rfl⟩
  all_goals (rw [← indexByte_sgn c]; try rfl)

theorem size_toList (s : ByteArray) : s.data.toList.length = s.size := by rw [Array.length_toList]; rfl
theorem take_at {s : ByteArray} {k : Nat} (h : k < s.size) : s.data.toList.take (k + 1) = s.data.toList.take k ++ [s[k]] := by
  rw [List.take_succ_eq_append_getElem (by rw [size_toList]; exact h)]; rfl


end Go.Proofs.YtkkjchfhgjfclabGreatDoor

/- Walks of lex: isName, wrong. -/
namespace Go.Proofs.YtkkjchfhgjfclabGreatDoor
open Go.RowKit

theorem all_at (p : UInt8 → Bool) (s : ByteArray) : s.data.toList.all p = true ↔ ∀ k (h : k < s.size), p s[k] = true := by
  rw [List.all_eq_true]
  constructor
  · intro h k hk
    exact h _ (List.getElem_mem (l := s.data.toList) (by simpa using hk))
  · intro h x hx
    obtain ⟨k, hk, rfl⟩ := List.getElem_of_mem hx
    exact h k (by simpa using hk)

set_option maxHeartbeats 400000 in
theorem isName_any (s : ByteArray) (w : World) (hs : s.size ≤ 2000) :
    Calls Tryz.prog 125 #[.string s] w fun e w' => e = .returned (.bool (nameOk s.data.toList)) ∧ w' = w := by
  go_enter Tryz.func125, Tryz.ntmps125
  go_wp2_with fail
  go_loopg [6] s.size (fun g i wr => wr = w ∧ ∃ k : Nat, k + g = s.size ∧ i = .int .i64 k ∧ Hid (∀ j (h : j < k), ∃ h2 : j < s.size, onn s[j] = true))
  case atStart => exact ⟨rfl, 0, by omega, rfl, fun j h => absurd h (by omega)⟩
  case round =>
    obtain ⟨rfl, k, hk, rfl, HA⟩ := hrel
    by_cases hlt : k < s.size
    · go_wp2_with fail
      refine (goesOn_any s[k] _).mono ?_
      rintro e w1 ⟨rfl, rfl⟩
      cases hp : onn s[k] with
      | true =>
        have HP := hide hp
        clear hp
        go_wp2_with fail
        go_roundg (gk - 1)
        case measure => omega
        case rel =>
          refine ⟨rfl, k + 1, by omega, by go_num, fun j hj => ?_⟩
          by_cases e : j = k
          · subst e; exact ⟨hlt, HP.out⟩
          · exact HA.out j (by omega)
      | false =>
        have HP := hide hp
        clear hp
        go_wp2_with fail
        go_ret
        refine ⟨ret_bool ?_, rfl⟩
        unfold nameOk
        have : s.data.toList.all onn = false := by
          cases hx : s.data.toList.all onn with
          | false => rfl
          | true => have := (all_at onn s).1 hx k hlt; rw [HP.out] at this; cases this
        rw [this]; rfl
    · have hall : s.data.toList.all onn = true := (all_at onn s).2 (fun j hj => (HA.out j (by omega)).2)
      have HL := hide hall
      clear hall
      by_cases h0 : s.size = 0
      · have he : s.toList.isEmpty = true := by rw [ByteArray.toList_eq, List.isEmpty_iff_length_eq_zero]; simpa using h0
        go_wp2_with fail
        go_ret
        refine ⟨ret_bool ?_, rfl⟩
        have : s.data.toList = [] := List.length_eq_zero_iff.1 (by simpa using h0)
        rw [this]; rfl
      · have he : s.toList.isEmpty = false := by
          cases hx : s.toList.isEmpty with
          | false => rfl
          | true => rw [ByteArray.toList_eq, List.isEmpty_iff_length_eq_zero] at hx; exact absurd (by simpa using hx) h0
        have hp0 : 0 < s.size := by omega
        have HB := hide (begins_any s[0])
        go_wp2_with fail
        refine (HB.out _).mono ?_
        rintro e w1 ⟨rfl, rfl⟩
        have hfin : nameOk s.data.toList = beg s[0] := by
          unfold nameOk
          rw [HL.out]
          have : s.data.toList = s[0] :: s.data.toList.drop 1 := by have := drop_at (k := 0) hp0; simpa using this
          rw [this]; simp
        have HF := hide hfin
        clear hfin
        cases hb : beg s[0]
        all_goals
          have HX := hide hb
          clear hb
          go_wp2_with fail
          go_ret
          exact ⟨ret_bool (by rw [HF.out, HX.out]), rfl⟩

end Go.Proofs.YtkkjchfhgjfclabGreatDoor

/- parts.IsInt. -/
namespace Go.Proofs.YtkkjchfhgjfclabGreatDoor
open Go.RowKit

def pIntB (n : Int) : Bool := decide (-999999999 ≤ n) && decide (n ≤ 999999999)

theorem pIsInt (n : Int) (w : World) :
    Calls Tryz.prog 126 #[.int .i64 n] w fun e w' => e = .returned (.bool (pIntB n)) ∧ w' = w := by
  go_enter Tryz.func126, Tryz.ntmps126
  go_wp2
  all_goals go_ret
  all_goals refine ⟨ret_bool ?_, rfl⟩
  all_goals (unfold pIntB; rw [Bool.eq_iff_iff]; simp; try omega)

theorem pIntB_yes {n : Int} (h1 : -999999999 ≤ n) (h2 : n ≤ 999999999) : pIntB n = true := by unfold pIntB; simp [h1, h2]
theorem pIntB_no {n : Int} (h : n < -999999999 ∨ 999999999 < n) : pIntB n = false := by unfold pIntB; simp; omega

end Go.Proofs.YtkkjchfhgjfclabGreatDoor
