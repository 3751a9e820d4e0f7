import Derived.Test.YtillhpepfpldcaaBatchtells11
import Derived.Test.YtillhpepfpldcaaBatchtells12
import Derived.Test.YtillhpepfpldcaaBatchtells15
import Derived.Deep.DeepCutAuto
import Derived.Test.YtillhpepfpldcaaBatchtells02
import Derived.Test.YtillhpepfpldcaaBatchtells03
/- BatchTells: the walk of the law's function. -/
namespace Go.Proofs.Ytillhpepfpldcaa
open Go.RowKit

/-- what the bytes say: a batch, how many they are, and the number -/
def decA (l : List UInt8) : BatchT × Nat × Int := match decodeB l with | .ok (b, n) => (b, n, 0) | .error no => (⟨0, []⟩, 0, no)
/-- a batch's bytes: none where it is wrong -/
def encA (b : BatchT) : List UInt8 := if checkBa b = 0 then bytesB b else []

theorem decA_ok {l : List UInt8} {b : BatchT} {n : Nat} (h : decodeB l = .ok (b, n)) : decA l = (b, n, 0) := by unfold decA; rw [h]
theorem decA_no {l : List UInt8} {no : Int} (h : decodeB l = .error no) : decA l = (⟨0, []⟩, 0, no) := by unfold decA; rw [h]

theorem dec_one (w : World) (l : List UInt8) :
    Calls Try.prog 9 #[.string ⟨l.toArray⟩] w fun r w' => ∃ v, r = .returned (.tuple #[baV (decA l).1.number v, .int .i64 ((decA l).2.1 : Nat), .int .i64 (decA l).2.2]) ∧ EvSl (w.heap.size ≤ ·) w' v (decA l).1.events ∧ Same w w' := by
  refine (decode_any w l).mono ?_
  rintro r w' (⟨ba, v, n, h1, rfl, h2, h3⟩ | ⟨no, h1, _, rfl, h3⟩)
  · rw [decA_ok h1]; exact ⟨v, rfl, h2, h3⟩
  · rw [decA_no h1]; exact ⟨_, rfl, EvSl.nil _ _, h3⟩
theorem of_one (w : World) (l : List UInt8) (hl : l.length ≤ 140737488351232) :
    Calls Try.prog 12 #[.string ⟨l.toArray⟩] w fun r w' => ∃ v, r = .returned (.tuple #[baV (decA l).1.number v, .int .i64 ((decA l).2.1 : Nat), .int .i64 (decA l).2.2]) ∧ EvSl (w.heap.size ≤ ·) w' v (decA l).1.events ∧ Same w w' := by
  refine (batchOf_any w l hl).mono ?_
  rintro r w' (⟨ba, v, n, h1, rfl, h2, h3⟩ | ⟨no, h1, _, rfl, h3⟩)
  · rw [decA_ok h1]; exact ⟨v, rfl, h2, h3⟩
  · rw [decA_no h1]; exact ⟨_, rfl, EvSl.nil _ _, h3⟩
theorem enc_one (P : Nat → Prop) (w : World) (b : BatchT) (v : Value) (h : EvSl P w v b.events) :
    Calls Try.prog 8 #[baV b.number v] w fun r w' => r = .returned (.tuple #[.string ⟨(encA b).toArray⟩, .int .i64 (checkBa b)]) ∧ Same w w' := by
  refine (encode_any P w b v h).mono ?_
  unfold encA
  rintro r w' (⟨h1, rfl, hK⟩ | ⟨h1, rfl, hK⟩)
  · exact ⟨by rw [if_pos h1, h1], hK⟩
  · exact ⟨by rw [if_neg h1], hK⟩

/-- two slices of one batch each, built one behind the other: the same one -/
theorem sameTwo (w : World) (n : Int) (es : List EventT) (v v' : Value) (P Q : Nat → Prop) (e1 : EvSl P w v es) (e2 : EvSl Q w v' es) :
    Calls Try.prog 15 #[.slice (some ⟨w.heap.size, 0, none⟩) 1 1, .slice (some ⟨w.heap.size + 1, 0, none⟩) 1 1] ((w.alloc (.cells #[.int .i64 n, v] 24)).alloc (.cells #[.int .i64 n, v'] 24))
      fun e w' => e = .returned (.bool true) ∧ Same w w' := by
  refine (sameLots _ _ _ ⟨n, es⟩ _ _ (al_old _ _ _) (al_new _ _ _) ((e1.same (((Kept.refl _ _).alloc _).alloc _)).mono (fun _ _ _ => trivial)) ((e2.same (((Kept.refl _ _).alloc _).alloc _)).mono (fun _ _ _ => trivial))).mono ?_
  rintro e w10 ⟨rfl, n10, rfl⟩
  exact ⟨rfl, (((Kept.refl _ _).alloc _).alloc _).drewN _⟩

set_option maxRecDepth 20000 in
set_option maxHeartbeats 3200000 in
theorem batchTells_any (w : World) (b : BatchT) (vb : Value) (l : List UInt8) (hb : EvSl anyE w vb b.events) (hl : l.length ≤ 140737488351232) :
    Calls Try.prog 3 #[baV b.number vb, .string ⟨l.toArray⟩] w fun e w' => e = .returned (.bool true) ∧ Same w w' := by
  have trs : ∀ {a b c : World}, Same a b → Same b c → Same a c := fun h k => h.trans k (fun _ _ f => f)
  obtain ⟨ab, cb, rfl⟩ := hb.form
  obtain ⟨W, hW⟩ : ∃ W, W = w.alloc (.cells #[.int .i64 b.number, .slice ab b.events.length cb] 24) := ⟨_, rfl⟩
  have HG0 := hide (show W.heap[w.heap.size]? = some (.cells #[.int .i64 b.number, .slice ab b.events.length cb] 24 (0, 0)) by rw [hW]; exact heap_alloc_new _ _)
  have HKW := hide (show Same w W by rw [hW]; exact (Kept.refl _ w).alloc _)
  have HB := hide (hb.same HKW.out)
  have HBG := hide (fun wx => batchBegun_any wx)
  obtain ⟨k, hk⟩ : ∃ k, checkBa b = k := ⟨_, rfl⟩
  obtain ⟨T, hT⟩ : ∃ T, encA b = T := ⟨_, rfl⟩
  have HEn := hide (fun wx (hK : Same W wx) => enc_one _ wx b _ (HB.out.same hK))
  have HCk := hide (fun wx (hK : Same W wx) => checkBa_any _ b _ wx (HB.out.same hK))
  have HRc := hide (fun wx (hK : Same W wx) => rCheckBatch_any _ b _ wx (HB.out.same hK))
  have HBy := hide (fun wx (hK : Same W wx) (h0 : k = 0) => (show Calls Try.prog 11 #[baV b.number (.slice ab b.events.length cb)] wx fun r w' => r = .returned (.string ⟨T.toArray⟩) ∧ Same wx w' by
    have h1 : checkBa b = 0 := by rw [hk, h0]
    rw [← hT, encA, if_pos h1]
    exact batchBytes_any _ wx b _ h1 (HB.out.same hK)))
  have HTE := hide (show k ≠ 0 → T = [] by
    intro h0
    rw [← hT, encA, if_neg (by rw [hk]; exact h0)])
  rw [hk, hT] at HEn
  rw [hk] at HCk HRc
  have HD := hide (fun wx => dec_one wx l)
  have HO := hide (fun wx => of_one wx l hl)
  obtain ⟨A, hA⟩ : ∃ A, decA l = A := ⟨_, rfl⟩
  rw [hA] at HD HO
  obtain ⟨⟨nu, es⟩, n, no⟩ := A
  clear hA hb hk hT
  obtain ⟨g, hg⟩ : ∃ g, g = w.heap.size := ⟨_, rfl⟩
  rw [← hg] at HG0
  go_enter Try.func3, Try.ntmps3
  go_wp2_with fail
  rw [← hW, ← hg]
  clear hW hg
  refine (HEn.out W (Kept.refl _ _)).mono ?_
  rintro r w1 ⟨rfl, hK1⟩
  go_wp2_with fail
  refine (HD.out _).mono ?_
  rintro r w2 ⟨vx, rfl, hE2, hK2⟩

  obtain ⟨ax, cx, rfl⟩ := hE2.form
  obtain ⟨W2, hW2⟩ : ∃ W2, W2 = w2.alloc (.cells #[.int .i64 nu, .slice ax es.length cx] 24) := ⟨_, rfl⟩
  obtain ⟨g2, hg2⟩ : ∃ g2, g2 = w2.heap.size := ⟨_, rfl⟩
  have hS2 : Same w2 W2 := by rw [hW2]; exact (Kept.refl _ _).alloc _
  have HK2 := hide (trs (trs hK1 hK2) hS2)
  have HG2 := hide (show W2.heap[g2]? = some (.cells #[.int .i64 nu, .slice ax es.length cx] 24 (0, 0)) by rw [hW2, hg2]; exact heap_alloc_new _ _)
  have HE2 := hide (hE2.same hS2)
  clear hE2 hK1 hK2 hS2
  have hG := blk_kept HG0.out HK2.out (fun f => f)
  rw [hW2] at hG
  obtain ⟨c0, c1⟩ := blk2 hG
  clear hG
  go_wp2_with fail
  rw [← hW2, ← hg2]
  clear hW2 hg2
  refine (HRc.out _ HK2.out).mono ?_
  rintro r w3 ⟨rfl, hK3⟩
  have HK3 := hide (trs HK2.out hK3)
  have HG3 := hide (blk_kept HG2.out hK3 (fun f => f))
  have HE3 := hide (HE2.out.same hK3)
  have hG := blk_kept HG0.out HK3.out (fun f => f)
  clear c0 c1 hK3
  obtain ⟨c0, c1⟩ := blk2 hG
  clear hG HK2 HG2 HE2
  by_cases hk : k = 0
  · have hk' : ((k : Int) == 0) = true := by simp [hk]
    have HB4 := hide (HBy.out _ HK3.out hk)
    clear hk HTE
    go_wp2_with fail
    refine HB4.out.mono ?_
    clear HB4
    rintro r w4 ⟨rfl, hK4⟩
    have HK4 := hide (trs HK3.out hK4)
    have HG4 := hide (blk_kept HG3.out hK4 (fun f => f))
    have HE4 := hide (HE3.out.same hK4)
    clear hK4 HK3 HG3 HE3
    go_wp2_with fail
    refine (HO.out _).mono ?_
    rintro r w5 ⟨vy, rfl, hE5, hK5⟩
    obtain ⟨ay, cy, rfl⟩ := hE5.form
    obtain ⟨W5, hW5⟩ : ∃ W5, W5 = w5.alloc (.cells #[.int .i64 nu, .slice ay es.length cy] 24) := ⟨_, rfl⟩
    obtain ⟨g5, hg5⟩ : ∃ g5, g5 = w5.heap.size := ⟨_, rfl⟩
    have hS5 : Same w5 W5 := by rw [hW5]; exact (Kept.refl _ _).alloc _
    have HK5 := hide (trs (trs (HK4.out) hK5) hS5)
    have HG5 := hide (show W5.heap[g5]? = some (.cells #[.int .i64 nu, .slice ay es.length cy] 24 (0, 0)) by rw [hW5, hg5]; exact heap_alloc_new _ _)
    have HE5 := hide (hE5.same hS5)
    have HGX := hide (blk_kept (HG4.out) (trs hK5 hS5) (fun f => f))
    have HEX := hide ((HE4.out).same (trs hK5 hS5))
    clear hE5 hK5 hS5 c0 c1
    go_wp2_with fail
    rw [← hW5, ← hg5]
    clear hW5 hg5
    refine (HBG.out _).mono ?_
    rintro r w6 ⟨rfl, hK6⟩
    have HK6 := hide (trs HK5.out hK6)
    have HG6 := hide (blk_kept HG5.out hK6 (fun f => f))
    have HE6 := hide (HE5.out.same hK6)
    have HGX6 := hide (blk_kept HGX.out hK6 (fun f => f))
    have HEX6 := hide (HEX.out.same hK6)
    have hG := blk_kept HG0.out HK6.out (fun f => f)
    obtain ⟨c0, c1⟩ := blk2 hG
    clear hG hK6 HK5 HG5 HE5 HGX HEX
    go_wp2_with fail
    refine (HCk.out _ HK6.out).mono ?_
    rintro r w7 ⟨rfl, hK7⟩
    have HK7 := hide (trs HK6.out hK7)
    obtain ⟨y0, y1⟩ := blk2 (blk_kept HG6.out (hK7.alloc (.cells #[.int .i64 nu, .slice ax es.length cx] 24)) (fun f => f))
    obtain ⟨x0, x1⟩ := blk2 (blk_kept HGX6.out hK7 (fun f => f))
    have HS7 := hide (sameTwo w7 nu es _ _ _ _ (HEX6.out.same hK7) (HE6.out.same hK7))
    clear c0 c1 hK7 HK6 HG6 HE6 HGX6 HEX6
    go_wp2_with fail
    refine HS7.out.mono ?_
    rintro r w8 ⟨rfl, hK8⟩
    go_wp2_with fail
    go_ret
    exact ⟨rfl, trs HKW.out (trs HK7.out hK8)⟩
  · have hk' : ((k : Int) == 0) = false := by rw [beq_eq_false_iff_ne]; exact hk
    have hT := HTE.out hk
    subst hT
    clear hk HTE
    go_wp2_with fail
    refine (HO.out _).mono ?_
    rintro r w5 ⟨vy, rfl, hE5, hK5⟩
    obtain ⟨ay, cy, rfl⟩ := hE5.form
    obtain ⟨W5, hW5⟩ : ∃ W5, W5 = w5.alloc (.cells #[.int .i64 nu, .slice ay es.length cy] 24) := ⟨_, rfl⟩
    obtain ⟨g5, hg5⟩ : ∃ g5, g5 = w5.heap.size := ⟨_, rfl⟩
    have hS5 : Same w5 W5 := by rw [hW5]; exact (Kept.refl _ _).alloc _
    have HK5 := hide (trs (trs (HK3.out) hK5) hS5)
    have HG5 := hide (show W5.heap[g5]? = some (.cells #[.int .i64 nu, .slice ay es.length cy] 24 (0, 0)) by rw [hW5, hg5]; exact heap_alloc_new _ _)
    have HE5 := hide (hE5.same hS5)
    have HGX := hide (blk_kept (HG3.out) (trs hK5 hS5) (fun f => f))
    have HEX := hide ((HE3.out).same (trs hK5 hS5))
    clear hE5 hK5 hS5 c0 c1
    go_wp2_with fail
    rw [← hW5, ← hg5]
    clear hW5 hg5
    refine (HBG.out _).mono ?_
    rintro r w6 ⟨rfl, hK6⟩
    have HK6 := hide (trs HK5.out hK6)
    have HG6 := hide (blk_kept HG5.out hK6 (fun f => f))
    have HE6 := hide (HE5.out.same hK6)
    have HGX6 := hide (blk_kept HGX.out hK6 (fun f => f))
    have HEX6 := hide (HEX.out.same hK6)
    have hG := blk_kept HG0.out HK6.out (fun f => f)
    obtain ⟨c0, c1⟩ := blk2 hG
    clear hG hK6 HK5 HG5 HE5 HGX HEX
    go_wp2_with fail
    refine (HCk.out _ HK6.out).mono ?_
    rintro r w7 ⟨rfl, hK7⟩
    have HK7 := hide (trs HK6.out hK7)
    obtain ⟨y0, y1⟩ := blk2 (blk_kept HG6.out (hK7.alloc (.cells #[.int .i64 nu, .slice ax es.length cx] 24)) (fun f => f))
    obtain ⟨x0, x1⟩ := blk2 (blk_kept HGX6.out hK7 (fun f => f))
    have HS7 := hide (sameTwo w7 nu es _ _ _ _ (HEX6.out.same hK7) (HE6.out.same hK7))
    clear c0 c1 hK7 HK6 HG6 HE6 HGX6 HEX6
    go_wp2_with fail
    refine HS7.out.mono ?_
    rintro r w8 ⟨rfl, hK8⟩
    go_wp2_with fail
    go_ret
    exact ⟨rfl, trs HKW.out (trs HK7.out hK8)⟩

end Go.Proofs.Ytillhpepfpldcaa

/- An argument that is a batch. -/
namespace Go.Proofs.Ytillhpepfpldcaa
open Go.ChangeShapes Go.WideShapes Go.RowKit

set_option maxRecDepth 20000 in
theorem batch_of {H : Type} {enc : TypeId × Value → H} {W : World} {r : Reach} {b0 : Nat} {v : Value} {d : DataW H} {ps : List MemPlace} {sp : Nat → Bool} {held : Bool}
    (hval : Value.okWide Try.prog W r b0 24 v) (h : DataW.Trod enc Try.prog W 0 sp held 24 v d ps) : ∃ (b : BatchT) (ve : Value), v = baV b.number ve ∧ EvSl anyE W ve b.events := by
  obtain ⟨v0, v1, y0, y1, n, rfl, _, _, h0, h1⟩ := Joins.open_agg2 Try.underlying24 (by kernel_rfl) (by kernel_rfl) hval h
  obtain ⟨z0, e0, _, _⟩ := DataW.trod_int Try.underlying3 h0
  obtain ⟨u, l, e1, hs⟩ := evs_trod h1
  simp only [List.cons.injEq, and_true] at e0 e1
  subst e0 e1
  exact ⟨⟨z0, l⟩, _, rfl, hs⟩

end Go.Proofs.Ytillhpepfpldcaa

/- Slices of strings in memory. -/
namespace Go.Proofs.Ytillhpepfpldcaa
open Go.RowKit

/-- v is a slice of the texts l -/
def StSl (P : Nat → Prop) (w : World) (v : Value) (l : List (List UInt8)) : Prop :=
  ∃ ao cap, v = .slice ao l.length cap ∧ (l.length ≤ maxLen ∧ l.length ≤ cap ∧ (ao = none → cap = 0)) ∧ ∀ i s, l[i]? = some s → ∃ b off, ao = some ⟨b, off, none⟩ ∧ P b ∧ w.cell? ⟨b, off + i, none⟩ = some (.string ⟨s.toArray⟩)

theorem StSl.keep {P X : Nat → Prop} {w w' : World} {v : Value} {l : List (List UInt8)} (h : StSl P w v l) (hk : Kept X w w') (hx : ∀ b, P b → ¬ X b) : StSl P w' v l := by
  obtain ⟨ao, cap, hv, hl, hc⟩ := h
  refine ⟨ao, cap, hv, hl, fun i t ht => ?_⟩
  obtain ⟨b, off, ha, hp, h0⟩ := hc i t ht
  exact ⟨b, off, ha, hp, hk.cell h0 (hx b hp)⟩
theorem StSl.same {P : Nat → Prop} {w w' : World} {v : Value} {l : List (List UInt8)} (h : StSl P w v l) (hk : Same w w') : StSl P w' v l := h.keep hk (fun _ _ f => f)
theorem StSl.mono {P Q : Nat → Prop} {w : World} {v : Value} {l : List (List UInt8)} (h : StSl P w v l) (hq : ∀ b, b < w.heap.size → P b → Q b) : StSl Q w v l := by
  obtain ⟨ao, cap, hv, hl, hc⟩ := h
  refine ⟨ao, cap, hv, hl, fun i t ht => ?_⟩
  obtain ⟨b, off, ha, hp, h0⟩ := hc i t ht
  exact ⟨b, off, ha, hq b (World.block_lt_of_cell? w _ h0) hp, h0⟩
theorem StSl.nil (P : Nat → Prop) (w : World) : StSl P w (.slice none 0 0) [] := ⟨none, 0, rfl, ⟨Nat.zero_le _, Nat.le_refl _, fun _ => rfl⟩, fun i t h => by simp at h⟩
theorem StSl.at {P : Nat → Prop} {w : World} {ao : Option Addr} {n cap : Nat} {l : List (List UInt8)} (h : StSl P w (.slice ao n cap) l) (i : Nat) (hi : i < l.length) : ∃ b off, ao = some ⟨b, off, none⟩ ∧ P b ∧ w.cell? ⟨b, off + i, none⟩ = some (.string ⟨l[i].toArray⟩) := by
  obtain ⟨ao', cap', hv, _, h3⟩ := h
  cases hv
  exact h3 i l[i] (List.getElem?_eq_getElem hi)
theorem StSl.len {P : Nat → Prop} {w : World} {ao : Option Addr} {n cap : Nat} {l : List (List UInt8)} (h : StSl P w (.slice ao n cap) l) : n = l.length ∧ l.length ≤ 9223372036854775807 ∧ l.length ≤ cap := by
  obtain ⟨_, _, hv, hl, _⟩ := h; cases hv; exact ⟨rfl, hl.1, hl.2.1⟩
theorem StSl.form {P : Nat → Prop} {w : World} {v : Value} {l : List (List UInt8)} (h : StSl P w v l) : ∃ ao cap, v = .slice ao l.length cap := by
  obtain ⟨ao, cap, hv, _⟩ := h; exact ⟨ao, cap, hv⟩

theorem StSl.none {P : Nat → Prop} {w : World} {ao : Option Addr} {n cap : Nat} {l : List (List UInt8)} (h : StSl P w (.slice ao n cap) l) : ao = none → l.length = 0 ∧ cap = 0 := by
  obtain ⟨ao', cap', hv, hl, hc⟩ := h
  cases hv
  intro e
  refine ⟨?_, hl.2.2 e⟩
  cases l with
  | nil => rfl
  | cons x t => obtain ⟨b, off, ha, _⟩ := hc 0 x rfl; rw [e] at ha; cases ha

def stCells (l : List (List UInt8)) : List Value := l.map fun s => .string ⟨s.toArray⟩
theorem stCells_len (l : List (List UInt8)) : (stCells l).length = l.length := by simp [stCells]
theorem stCells_one (l : List (List UInt8)) : ∀ u ∈ stCells l, u.oneCell' = true := by
  intro u hu
  simp only [stCells, List.mem_map] at hu
  obtain ⟨s, _, rfl⟩ := hu
  rfl
theorem stCells_get {l : List (List UInt8)} {i : Nat} {s : List UInt8} (h : l[i]? = some s) : (stCells l)[i]? = some (.string ⟨s.toArray⟩) := by
  unfold stCells; rw [List.getElem?_map, h]; rfl

/-- a row of texts that the call owns -/
abbrev OwnS (base : Nat) (w : World) (v : Value) (l : List (List UInt8)) : Prop := w.ownsRow base 9 1 v l.length (stCells l)
theorem own_sts {w : World} {base : Nat} {v : Value} {l : List (List UInt8)} (h : OwnS base w v l) (hl : l.length ≤ maxLen) : StSl (fun k => v.ownBlock = some k ∧ base ≤ k) w v l := by
  rcases h.2 with ⟨rfl, h0⟩ | ⟨g, cap, cur, rfl, hg, hb, hc1, hc2, hc3, htk⟩
  · obtain rfl : l = [] := List.length_eq_zero_iff.1 h0
    exact StSl.nil _ _
  · have hcells := World.ownsRow.cells (v := .slice (some ⟨g, 0, none⟩) l.length cap) h (g := g) rfl
    refine ⟨some ⟨g, 0, none⟩, cap, rfl, ⟨hl, by omega, fun e => (by cases e)⟩, fun i e he => ⟨g, 0, rfl, ⟨rfl, hg⟩, ?_⟩⟩
    have := hcells i _ (stCells_get he)
    rw [addr_add] at this
    exact this

end Go.Proofs.Ytillhpepfpldcaa
