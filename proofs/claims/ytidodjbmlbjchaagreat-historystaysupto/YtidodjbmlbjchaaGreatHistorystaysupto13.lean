import Derived.Test.YtidodjbmlbjchaaGreatHistorystaysupto07
import Derived.Test.YtidodjbmlbjchaaGreatHistorystaysupto12
import Derived.Test.YtidodjbmlbjchaaGreatChecked
import Derived.Test.YtidodjbmlbjchaaGreatHistorystaysupto11
import Derived.Test.YtidodjbmlbjchaaGreatHistorystaysupto01
import Derived.Lib.Bytealg
/- Slices of ids, of cells and of things in memory. -/
namespace Go.Proofs.YtidodjbmlbjchaaGreat
open Go.RowKit

/-- v is a slice of the ids l -/
def IdsSl (P : Nat → Prop) (w : World) (v : Value) (l : List Int) : Prop :=
  ∃ ao cap, v = .slice ao l.length cap ∧ (l.length ≤ maxLen ∧ l.length ≤ cap) ∧ ∀ i x, l[i]? = some x → ∃ b off, ao = some ⟨b, off, none⟩ ∧ P b ∧ w.cell? ⟨b, off + i, none⟩ = some (.int .i64 x)

/-- v is a slice of the cells l; their ids in blocks of which P holds, too -/
def CelSl (P : Nat → Prop) (w : World) (v : Value) (l : List CellT) : Prop :=
  ∃ ao cap, v = .slice ao l.length cap ∧ (l.length ≤ maxLen ∧ l.length ≤ cap) ∧ ∀ i c, l[i]? = some c → ∃ b off vi, ao = some ⟨b, off, none⟩ ∧ P b ∧
    w.cell? ⟨b, off + i * 3, none⟩ = some (.int .i64 c.n) ∧ w.cell? ⟨b, off + i * 3 + 1, none⟩ = some (.string ⟨c.text.toArray⟩) ∧ w.cell? ⟨b, off + i * 3 + 2, none⟩ = some vi ∧ IdsSl P w vi c.ids

/-- v is a slice of the things l -/
def ThgSl (P : Nat → Prop) (w : World) (v : Value) (l : List ThingT) : Prop :=
  ∃ ao cap, v = .slice ao l.length cap ∧ (l.length ≤ maxLen ∧ l.length ≤ cap) ∧ ∀ i t, l[i]? = some t → ∃ b off vc, ao = some ⟨b, off, none⟩ ∧ P b ∧
    w.cell? ⟨b, off + i * 3, none⟩ = some (.int .i64 t.ty) ∧ w.cell? ⟨b, off + i * 3 + 1, none⟩ = some (.int .i64 t.id) ∧ w.cell? ⟨b, off + i * 3 + 2, none⟩ = some vc ∧ CelSl P w vc t.cells

theorem IdsSl.keep {P X : Nat → Prop} {w w' : World} {v : Value} {l : List Int} (h : IdsSl P w v l) (hk : Kept X w w') (hx : ∀ b, P b → ¬ X b) : IdsSl P w' v l := by
  obtain ⟨ao, cap, hv, hl, hc⟩ := h
  refine ⟨ao, cap, hv, hl, fun i t ht => ?_⟩
  obtain ⟨b, off, ha, hp, h0⟩ := hc i t ht
  exact ⟨b, off, ha, hp, hk.cell h0 (hx b hp)⟩
theorem CelSl.keep {P X : Nat → Prop} {w w' : World} {v : Value} {l : List CellT} (h : CelSl P w v l) (hk : Kept X w w') (hx : ∀ b, P b → ¬ X b) : CelSl P w' v l := by
  obtain ⟨ao, cap, hv, hl, hc⟩ := h
  refine ⟨ao, cap, hv, hl, fun i t ht => ?_⟩
  obtain ⟨b, off, vi, ha, hp, h0, h1, h2, h3⟩ := hc i t ht
  exact ⟨b, off, vi, ha, hp, hk.cell h0 (hx b hp), hk.cell h1 (hx b hp), hk.cell h2 (hx b hp), h3.keep hk hx⟩
theorem ThgSl.keep {P X : Nat → Prop} {w w' : World} {v : Value} {l : List ThingT} (h : ThgSl P w v l) (hk : Kept X w w') (hx : ∀ b, P b → ¬ X b) : ThgSl P w' v l := by
  obtain ⟨ao, cap, hv, hl, hc⟩ := h
  refine ⟨ao, cap, hv, hl, fun i t ht => ?_⟩
  obtain ⟨b, off, vi, ha, hp, h0, h1, h2, h3⟩ := hc i t ht
  exact ⟨b, off, vi, ha, hp, hk.cell h0 (hx b hp), hk.cell h1 (hx b hp), hk.cell h2 (hx b hp), h3.keep hk hx⟩
theorem IdsSl.same {P : Nat → Prop} {w w' : World} {v : Value} {l : List Int} (h : IdsSl P w v l) (hk : Same w w') : IdsSl P w' v l := h.keep hk (fun _ _ f => f)
theorem CelSl.same {P : Nat → Prop} {w w' : World} {v : Value} {l : List CellT} (h : CelSl P w v l) (hk : Same w w') : CelSl P w' v l := h.keep hk (fun _ _ f => f)
theorem ThgSl.same {P : Nat → Prop} {w w' : World} {v : Value} {l : List ThingT} (h : ThgSl P w v l) (hk : Same w w') : ThgSl P w' v l := h.keep hk (fun _ _ f => f)

theorem IdsSl.mono {P Q : Nat → Prop} {w : World} {v : Value} {l : List Int} (h : IdsSl P w v l) (hq : ∀ b, b < w.heap.size → P b → Q b) : IdsSl Q w v l := by
  obtain ⟨ao, cap, hv, hl, hc⟩ := h
  refine ⟨ao, cap, hv, hl, fun i t ht => ?_⟩
  obtain ⟨b, off, ha, hp, h0⟩ := hc i t ht
  exact ⟨b, off, ha, hq b (World.block_lt_of_cell? w _ h0) hp, h0⟩
theorem CelSl.mono {P Q : Nat → Prop} {w : World} {v : Value} {l : List CellT} (h : CelSl P w v l) (hq : ∀ b, b < w.heap.size → P b → Q b) : CelSl Q w v l := by
  obtain ⟨ao, cap, hv, hl, hc⟩ := h
  refine ⟨ao, cap, hv, hl, fun i t ht => ?_⟩
  obtain ⟨b, off, vi, ha, hp, h0, h1, h2, h3⟩ := hc i t ht
  exact ⟨b, off, vi, ha, hq b (World.block_lt_of_cell? w _ h0) hp, h0, h1, h2, h3.mono hq⟩
theorem ThgSl.mono {P Q : Nat → Prop} {w : World} {v : Value} {l : List ThingT} (h : ThgSl P w v l) (hq : ∀ b, b < w.heap.size → P b → Q b) : ThgSl Q w v l := by
  obtain ⟨ao, cap, hv, hl, hc⟩ := h
  refine ⟨ao, cap, hv, hl, fun i t ht => ?_⟩
  obtain ⟨b, off, vi, ha, hp, h0, h1, h2, h3⟩ := hc i t ht
  exact ⟨b, off, vi, ha, hq b (World.block_lt_of_cell? w _ h0) hp, h0, h1, h2, h3.mono hq⟩
theorem IdsSl.any {P : Nat → Prop} {w : World} {v : Value} {l : List Int} (h : IdsSl P w v l) : IdsSl anyB w v l := h.mono (fun _ _ _ => trivial)
theorem CelSl.any {P : Nat → Prop} {w : World} {v : Value} {l : List CellT} (h : CelSl P w v l) : CelSl anyB w v l := h.mono (fun _ _ _ => trivial)
theorem ThgSl.any {P : Nat → Prop} {w : World} {v : Value} {l : List ThingT} (h : ThgSl P w v l) : ThgSl anyB w v l := h.mono (fun _ _ _ => trivial)

theorem IdsSl.nil (P : Nat → Prop) (w : World) : IdsSl P w (.slice none 0 0) [] := ⟨none, 0, rfl, ⟨Nat.zero_le _, Nat.le_refl _⟩, fun i t h => by simp at h⟩
theorem CelSl.nil (P : Nat → Prop) (w : World) : CelSl P w (.slice none 0 0) [] := ⟨none, 0, rfl, ⟨Nat.zero_le _, Nat.le_refl _⟩, fun i t h => by simp at h⟩
theorem ThgSl.nil (P : Nat → Prop) (w : World) : ThgSl P w (.slice none 0 0) [] := ⟨none, 0, rfl, ⟨Nat.zero_le _, Nat.le_refl _⟩, fun i t h => by simp at h⟩

theorem IdsSl.at {P : Nat → Prop} {w : World} {ao : Option Addr} {n cap : Nat} {l : List Int} (h : IdsSl P w (.slice ao n cap) l) (i : Nat) (hi : i < l.length) : ∃ b off, ao = some ⟨b, off, none⟩ ∧ P b ∧ w.cell? ⟨b, off + i, none⟩ = some (.int .i64 l[i]) := by
  obtain ⟨ao', cap', hv, _, h3⟩ := h
  cases hv
  exact h3 i l[i] (List.getElem?_eq_getElem hi)
theorem CelSl.at {P : Nat → Prop} {w : World} {ao : Option Addr} {n cap : Nat} {l : List CellT} (h : CelSl P w (.slice ao n cap) l) (i : Nat) (hi : i < l.length) : ∃ b off ai ni ci, ao = some ⟨b, off, none⟩ ∧ P b ∧
    w.cell? ⟨b, off + i * 3, none⟩ = some (.int .i64 l[i].n) ∧ w.cell? ⟨b, off + i * 3 + 1, none⟩ = some (.string ⟨l[i].text.toArray⟩) ∧ w.cell? ⟨b, off + i * 3 + 2, none⟩ = some (.slice ai ni ci) ∧ ni = l[i].ids.length ∧ IdsSl P w (.slice ai ni ci) l[i].ids := by
  obtain ⟨ao', cap', hv, _, h3⟩ := h
  cases hv
  obtain ⟨b, off, vi, ha, hp, h0, h1, h2, hs⟩ := h3 i l[i] (List.getElem?_eq_getElem hi)
  obtain ⟨ai, ci, rfl, _, _⟩ := id hs
  exact ⟨b, off, ai, _, ci, ha, hp, h0, h1, h2, rfl, hs⟩
theorem ThgSl.at {P : Nat → Prop} {w : World} {ao : Option Addr} {n cap : Nat} {l : List ThingT} (h : ThgSl P w (.slice ao n cap) l) (i : Nat) (hi : i < l.length) : ∃ b off ac nc cc, ao = some ⟨b, off, none⟩ ∧ P b ∧
    w.cell? ⟨b, off + i * 3, none⟩ = some (.int .i64 l[i].ty) ∧ w.cell? ⟨b, off + i * 3 + 1, none⟩ = some (.int .i64 l[i].id) ∧ w.cell? ⟨b, off + i * 3 + 2, none⟩ = some (.slice ac nc cc) ∧ nc = l[i].cells.length ∧ CelSl P w (.slice ac nc cc) l[i].cells := by
  obtain ⟨ao', cap', hv, _, h3⟩ := h
  cases hv
  obtain ⟨b, off, vi, ha, hp, h0, h1, h2, hs⟩ := h3 i l[i] (List.getElem?_eq_getElem hi)
  obtain ⟨ac, cc, rfl, _, _⟩ := id hs
  exact ⟨b, off, ac, _, cc, ha, hp, h0, h1, h2, rfl, hs⟩

theorem IdsSl.len {P : Nat → Prop} {w : World} {ao : Option Addr} {n cap : Nat} {l : List Int} (h : IdsSl P w (.slice ao n cap) l) : n = l.length ∧ l.length ≤ 9223372036854775807 ∧ l.length ≤ cap := by
  obtain ⟨_, _, hv, hl, _⟩ := h; cases hv; exact ⟨rfl, hl.1, hl.2⟩
theorem CelSl.len {P : Nat → Prop} {w : World} {ao : Option Addr} {n cap : Nat} {l : List CellT} (h : CelSl P w (.slice ao n cap) l) : n = l.length ∧ l.length ≤ 9223372036854775807 ∧ l.length ≤ cap := by
  obtain ⟨_, _, hv, hl, _⟩ := h; cases hv; exact ⟨rfl, hl.1, hl.2⟩
theorem ThgSl.len {P : Nat → Prop} {w : World} {ao : Option Addr} {n cap : Nat} {l : List ThingT} (h : ThgSl P w (.slice ao n cap) l) : n = l.length ∧ l.length ≤ 9223372036854775807 ∧ l.length ≤ cap := by
  obtain ⟨_, _, hv, hl, _⟩ := h; cases hv; exact ⟨rfl, hl.1, hl.2⟩

/-- a piece of one thing -/
theorem ThgSl.one {P : Nat → Prop} {w : World} {b off n cap : Nat} {l : List ThingT} (h : ThgSl P w (.slice (some ⟨b, off, none⟩) n cap) l) (i : Nat) (hi : i < l.length) (c : Nat) (hc : 1 ≤ c) : ThgSl P w (.slice (some ⟨b, off + i * 3, none⟩) 1 c) [l[i]] := by
  obtain ⟨ao', cap', hv, _, h3⟩ := h
  cases hv
  refine ⟨_, c, rfl, ⟨by simp [maxLen], hc⟩, fun j t ht => ?_⟩
  obtain ⟨b', off', vi, ha, hp, h0, h1, h2, hs⟩ := h3 i l[i] (List.getElem?_eq_getElem hi)
  cases ha
  cases j with
  | zero => simp at ht; subst ht; exact ⟨b, _, vi, rfl, hp, by simpa using h0, by simpa using h1, by simpa using h2, hs⟩
  | succ j => simp at ht

/-- values -/
abbrev ceV (c : CellT) (vi : Value) : Value := .agg #[.int .i64 c.n, .string ⟨c.text.toArray⟩, vi]
abbrev thV (t : ThingT) (vc : Value) : Value := .agg #[.int .i64 t.ty, .int .i64 t.id, vc]
abbrev stV (vt vh : Value) : Value := .agg #[vt, vh]

end Go.Proofs.YtidodjbmlbjchaaGreat

/- parse.IsDigit. -/
namespace Go.Proofs.YtidodjbmlbjchaaGreat
open Go.RowKit

theorem isDigit_any (c : UInt8) (w : World) :
    Calls Tryz.prog 130 #[.int .u8 c.toNat] w fun e w' => e = .returned (.bool (dig c)) ∧ w' = w := by
  go_enter Tryz.func130, Tryz.ntmps130
  go_wp2
  all_goals go_ret
  all_goals refine ⟨ret_bool ?_, rfl⟩
  all_goals (rw [Bool.eq_iff_iff]; simp; try omega)

end Go.Proofs.YtidodjbmlbjchaaGreat

/- Walks of lex's functions on bytes: those that Check meets. -/
namespace Go.Proofs.YtidodjbmlbjchaaGreat
open Go.RowKit

theorem begins_any (c : UInt8) (w : World) :
    Calls Tryz.prog 128 #[.int .u8 c.toNat] w fun e w' => e = .returned (.bool (beg c)) ∧ w' = w := by
  go_enter Tryz.func128, Tryz.ntmps128
  go_wp2
  all_goals go_ret
  all_goals refine ⟨ret_bool ?_, rfl⟩
  all_goals (rw [Bool.eq_iff_iff]; simp; try omega)

def begX (c : UInt8) : Bool := beg c
def digX (c : UInt8) : Bool := dig c

theorem goesOn_any (c : UInt8) (w : World) :
    Calls Tryz.prog 127 #[.int .u8 c.toNat] w fun e w' => e = .returned (.bool (onn c)) ∧ w' = w := by
  have hb : ∀ w, Calls Tryz.prog 128 #[.int .u8 c.toNat] w fun e w' => e = .returned (.bool (begX c)) ∧ w' = w := fun w => begins_any c w
  have hd : ∀ w, Calls Tryz.prog 130 #[.int .u8 c.toNat] w fun e w' => e = .returned (.bool (digX c)) ∧ w' = w := fun w => isDigit_any c w
  have Hb := hide (hb)
  have Hd := hide (hd)
  clear hb hd
  have key : ∀ b d : Bool, begX c = b → digX c = d → onn c = (b || d) := by intro b d h1 h2; rw [← h1, ← h2]; rfl
  have Key := hide (key)
  clear key
  cases h1 : begX c <;> cases h2 : digX c
  all_goals
    have hk := Key.out _ _ h1 h2
    have HK := hide (hk)
    clear hk
    go_enter Tryz.func127, Tryz.ntmps127
    go_wp2_with (first
      | (go_at_call 128; refine (Hb.out _).mono ?_; rintro e w' ⟨rfl, rfl⟩)
      | (go_at_call 130; refine (Hd.out _).mono ?_; rintro e w' ⟨rfl, rfl⟩))
    all_goals go_ret
    all_goals exact ⟨ret_bool (by rw [HK.out]; rfl), rfl⟩

theorem indexByte_sgn (c : UInt8) : decide (0 ≤ Lib.indexByte [123, 125, 40, 41, 58, 91, 93] c) = sgn c := by
  have h : ∀ n : Fin 256, decide (0 ≤ Lib.indexByte [123, 125, 40, 41, 58, 91, 93] (UInt8.ofNat n)) = sgn (UInt8.ofNat n) := by decide +kernel
  have h1 := h ⟨c.toNat, c.toNat_lt⟩
  simpa using h1

set_option maxRecDepth 100000 in
theorem indexByte_any (s : ByteArray) (c : UInt8) (w : World) :
    Calls Tryz.prog 131 #[.string s, .int .u8 c.toNat] w fun e w' => e = .returned (.int .i64 (Lib.indexByte s.data.toList c)) ∧ w' = w := by
  go_enter Tryz.func131, Tryz.ntmps131
  go_wp2
  rw [run_callFunc_extern Tryz.func132 (by kernel_rfl) (by kernel_rfl) (by kernel_rfl) (e := Extern.BytealgIndexByte.indexByte) (by kernel_rfl), Lib.run_indexByteString]
  simp only [Result.andThen]
  rw [Oper.upon_value]
  go_wp2
  go_ret
  exact ⟨ret_int (by congr 1), rfl⟩

theorem isSign_any (c : UInt8) (w : World) :
    Calls Tryz.prog 125 #[.int .u8 c.toNat] w fun e w' => e = .returned (.bool (sgn c)) ∧ w' = w := by
  go_enter Tryz.func125, Tryz.ntmps125
  go_wp2_with (first
    | (go_at_call 129; go_in)
    | (go_at_call 131; refine (indexByte_any _ c _).mono ?_; rintro e w' ⟨rfl, rfl⟩))
  all_goals go_ret
  all_goals refine ⟨ret_bool ?_, rfl⟩
  all_goals (rw [← indexByte_sgn c]; try rfl)

theorem size_toList (s : ByteArray) : s.data.toList.length = s.size := by rw [Array.length_toList]; rfl
theorem take_at {s : ByteArray} {k : Nat} (h : k < s.size) : s.data.toList.take (k + 1) = s.data.toList.take k ++ [s[k]] := by
  rw [List.take_succ_eq_append_getElem (by rw [size_toList]; exact h)]; rfl


end Go.Proofs.YtidodjbmlbjchaaGreat

/- Walks of lex: isName, wrong. -/
namespace Go.Proofs.YtidodjbmlbjchaaGreat
open Go.RowKit

theorem all_at (p : UInt8 → Bool) (s : ByteArray) : s.data.toList.all p = true ↔ ∀ k (h : k < s.size), p s[k] = true := by
  rw [List.all_eq_true]
  constructor
  · intro h k hk
    exact h _ (List.getElem_mem (l := s.data.toList) (by simpa using hk))
  · intro h x hx
    obtain ⟨k, hk, rfl⟩ := List.getElem_of_mem hx
    exact h k (by simpa using hk)

set_option maxHeartbeats 400000 in
theorem isName_any (s : ByteArray) (w : World) (hs : s.size ≤ 2000) :
    Calls Tryz.prog 124 #[.string s] w fun e w' => e = .returned (.bool (nameOk s.data.toList)) ∧ w' = w := by
  go_enter Tryz.func124, Tryz.ntmps124
  go_wp2_with fail
  go_loopg [6] s.size (fun g i wr => wr = w ∧ ∃ k : Nat, k + g = s.size ∧ i = .int .i64 k ∧ Hid (∀ j (h : j < k), ∃ h2 : j < s.size, onn s[j] = true))
  case atStart => exact ⟨rfl, 0, by omega, rfl, fun j h => absurd h (by omega)⟩
  case round =>
    obtain ⟨rfl, k, hk, rfl, HA⟩ := hrel
    by_cases hlt : k < s.size
    · go_wp2_with fail
      refine (goesOn_any s[k] _).mono ?_
      rintro e w1 ⟨rfl, rfl⟩
      cases hp : onn s[k] with
      | true =>
        have HP := hide hp
        clear hp
        go_wp2_with fail
        go_roundg (gk - 1)
        case measure => omega
        case rel =>
          refine ⟨rfl, k + 1, by omega, by go_num, fun j hj => ?_⟩
          by_cases e : j = k
          · subst e; exact ⟨hlt, HP.out⟩
          · exact HA.out j (by omega)
      | false =>
        have HP := hide hp
        clear hp
        go_wp2_with fail
        go_ret
        refine ⟨ret_bool ?_, rfl⟩
        unfold nameOk
        have : s.data.toList.all onn = false := by
          cases hx : s.data.toList.all onn with
          | false => rfl
          | true => have := (all_at onn s).1 hx k hlt; rw [HP.out] at this; cases this
        rw [this]; rfl
    · have hall : s.data.toList.all onn = true := (all_at onn s).2 (fun j hj => (HA.out j (by omega)).2)
      have HL := hide hall
      clear hall
      by_cases h0 : s.size = 0
      · have he : s.toList.isEmpty = true := by rw [ByteArray.toList_eq, List.isEmpty_iff_length_eq_zero]; simpa using h0
        go_wp2_with fail
        go_ret
        refine ⟨ret_bool ?_, rfl⟩
        have : s.data.toList = [] := List.length_eq_zero_iff.1 (by simpa using h0)
        rw [this]; rfl
      · have he : s.toList.isEmpty = false := by
          cases hx : s.toList.isEmpty with
          | false => rfl
          | true => rw [ByteArray.toList_eq, List.isEmpty_iff_length_eq_zero] at hx; exact absurd (by simpa using hx) h0
        have hp0 : 0 < s.size := by omega
        have HB := hide (begins_any s[0])
        go_wp2_with fail
        refine (HB.out _).mono ?_
        rintro e w1 ⟨rfl, rfl⟩
        have hfin : nameOk s.data.toList = beg s[0] := by
          unfold nameOk
          rw [HL.out]
          have : s.data.toList = s[0] :: s.data.toList.drop 1 := by have := drop_at (k := 0) hp0; simpa using this
          rw [this]; simp
        have HF := hide hfin
        clear hfin
        cases hb : beg s[0]
        all_goals
          have HX := hide hb
          clear hb
          go_wp2_with fail
          go_ret
          exact ⟨ret_bool (by rw [HF.out, HX.out]), rfl⟩

end Go.Proofs.YtidodjbmlbjchaaGreat

/- parts.IsInt. -/
namespace Go.Proofs.YtidodjbmlbjchaaGreat
open Go.RowKit

def pIntB (n : Int) : Bool := decide (-999999999 ≤ n) && decide (n ≤ 999999999)

theorem pIsInt (n : Int) (w : World) :
    Calls Tryz.prog 92 #[.int .i64 n] w fun e w' => e = .returned (.bool (pIntB n)) ∧ w' = w := by
  go_enter Tryz.func92, Tryz.ntmps92
  go_wp2
  all_goals go_ret
  all_goals refine ⟨ret_bool ?_, rfl⟩
  all_goals (unfold pIntB; rw [Bool.eq_iff_iff]; simp; try omega)

theorem pIntB_yes {n : Int} (h1 : -999999999 ≤ n) (h2 : n ≤ 999999999) : pIntB n = true := by unfold pIntB; simp [h1, h2]
theorem pIntB_no {n : Int} (h : n < -999999999 ∨ 999999999 < n) : pIntB n = false := by unfold pIntB; simp; omega

end Go.Proofs.YtidodjbmlbjchaaGreat
