import Derived.Test.YtkkjchfhgjfclacValidtellsupto08
import Derived.Test.YtkkjchfhgjfclacValidtellsupto09
import Derived.Test.YtkkjchfhgjfclacValidtellsupto15
import Derived.Deep.CutRange
import Derived.Deep.CutBlock
/- Fields as cells, and rows of them. -/
namespace Go.Proofs.Ytkkjchfhgjfclac
open Go.RowKit

def fldC (f : FieldT) : List Value := [.string ⟨f.name.toArray⟩, .int .i64 f.kind, .string ⟨f.of.toArray⟩]
def fldCells (l : List FieldT) : List Value := l.flatMap fldC
theorem fldCells_snoc (l : List FieldT) (f : FieldT) : fldCells (l ++ [f]) = fldCells l ++ fldC f := by simp [fldCells]
theorem fldC_one (f : FieldT) : ∀ u ∈ fldC f, u.oneCell' = true := by intro u hu; simp [fldC] at hu; rcases hu with rfl | rfl | rfl <;> rfl

theorem fldCells_get (l : List FieldT) : ∀ (i : Nat) (f : FieldT), l[i]? = some f → (fldCells l)[3 * i]? = some (.string ⟨f.name.toArray⟩) ∧ (fldCells l)[3 * i + 1]? = some (.int .i64 f.kind) ∧ (fldCells l)[3 * i + 2]? = some (.string ⟨f.of.toArray⟩) := by
  induction l with
  | nil => intro i t h; simp at h
  | cons x r ih =>
    intro i t h
    have e : fldCells (x :: r) = .string ⟨x.name.toArray⟩ :: .int .i64 x.kind :: .string ⟨x.of.toArray⟩ :: fldCells r := by simp [fldCells, fldC]
    cases i with
    | zero => simp at h; subst h; rw [e]; simp
    | succ i =>
      simp at h
      have := ih i t h
      rw [e, show 3 * (i + 1) = 3 * i + 1 + 1 + 1 from by omega, show 3 * i + 1 + 1 + 1 + 1 = (3 * i + 1) + 1 + 1 + 1 from rfl, show 3 * i + 1 + 1 + 1 + 2 = (3 * i + 2) + 1 + 1 + 1 from by omega]
      simpa using this

/-- a row of fields that the call owns is a slice of fields -/
theorem own_flds {w : World} {base : Nat} {v : Value} {l : List FieldT} (h : w.ownsRow base 74 3 v l.length (fldCells l)) (hl : l.length ≤ 9000000000000) : FldSl (fun b => base ≤ b) w v l := by
  have hc := fun g => World.ownsRow.cells h (g := g)
  rcases h.2 with ⟨rfl, h0⟩ | ⟨g, cap, cur, rfl, hg, hb, hc1, hc2, hc3, htk⟩
  · obtain rfl : l = [] := List.length_eq_zero_iff.1 h0
    exact FldSl.nil _ w
  · refine ⟨_, cap, rfl, ⟨by unfold maxLen; omega, hc1⟩, fun i t ht => ⟨g, 0, rfl, hg, ?_⟩⟩
    obtain ⟨h1, h2, h3⟩ := fldCells_get l i t ht
    have k1 := hc g rfl _ _ h1
    have k2 := hc g rfl _ _ h2
    have k3 := hc g rfl _ _ h3
    rw [add_none] at k1 k2 k3
    rw [show 0 + i * 3 = 0 + 3 * i from by omega]
    exact ⟨k1, k2, k3⟩

theorem infoF : (Try.prog.info? 74).map (fun i => (i.zero, i.size, i.bytes)) = some (some (.agg #[.string ⟨#[]⟩, .int .i64 0, .string ⟨#[]⟩]), 3, 40) := by kernel_rfl

end Go.Proofs.Ytkkjchfhgjfclac

/- valid's offers: ofType, ofQuery. -/
namespace Go.Proofs.Ytkkjchfhgjfclac
open Go.RowKit

theorem FldSl.news {P : Nat → Prop} {w : World} {ao : Option Addr} {n cap : Nat} {l : List FieldT} (h : FldSl P w (.slice ao n cap) l) :
    (fldCells l).length = l.length * 3 ∧ (∀ ad, ao = some ad → ∀ j u, (fldCells l)[j]? = some u → w.cell? (ad.add j) = some u) ∧ ∀ u ∈ fldCells l, u.oneCell' = true := by
  have hlen : ∀ l : List FieldT, (fldCells l).length = l.length * 3 := by
    intro l
    induction l with
    | nil => rfl
    | cons a l ih =>
      have e : fldCells (a :: l) = fldC a ++ fldCells l := by simp [fldCells]
      rw [e, List.length_append, ih, List.length_cons]
      simp [fldC]
      omega
  obtain ⟨ao', cap', hv, _, h3⟩ := h
  cases hv
  refine ⟨hlen l, fun ad had j u hj => ?_, fun u hu => ?_⟩
  · have hjl : j < l.length * 3 := by
      rw [← hlen l]
      rcases Nat.lt_or_ge j (fldCells l).length with h | h
      · exact h
      · rw [List.getElem?_eq_none h] at hj; cases hj
    obtain ⟨q, r, rfl, hr⟩ : ∃ q r, j = 3 * q + r ∧ r < 3 := ⟨j / 3, j % 3, by omega, by omega⟩
    have hi : q < l.length := by omega
    obtain ⟨b, off, e, _, c0, c1, c2⟩ := h3 q l[q] (List.getElem?_eq_getElem hi)
    rw [had] at e
    cases e
    obtain ⟨g0, g1, g2⟩ := fldCells_get l q l[q] (List.getElem?_eq_getElem hi)
    rw [add_none]
    match r, hr with
    | 0, _ =>
      rw [Nat.add_zero, g0] at hj
      cases hj
      rw [show off + (3 * q + 0) = off + q * 3 by omega]
      exact c0
    | 1, _ =>
      rw [g1] at hj
      cases hj
      rw [show off + (3 * q + 1) = off + q * 3 + 1 by omega]
      exact c1
    | 2, _ =>
      rw [g2] at hj
      cases hj
      rw [show off + (3 * q + 2) = off + q * 3 + 2 by omega]
      exact c2
  · obtain ⟨f, _, hf⟩ := List.mem_flatMap.1 hu
    exact fldC_one f u hf

theorem idField : fldC ⟨bId, 1, []⟩ = [.string ⟨#[105, 100]⟩, .int .i64 1, .string ⟨#[]⟩] := rfl

set_option maxRecDepth 20000 in
set_option maxHeartbeats 3200000 in
theorem ofType_any (w : World) (t : TypeT) (af : Option Addr) (cf : Nat) (P : Nat → Prop) (h : FldSl P w (.slice af t.fields.length cf) t.fields) (hl : t.fields.length ≤ 1000) (h0 : 0 < t.fields.length) :
    Calls Try.prog 35 #[.agg #[.string ⟨t.name.toArray⟩, .slice af t.fields.length cf]] w fun e w' =>
      ∃ a c, e = .returned (ofV a (ofTypeV t).fields.length c (ofTypeV t)) ∧ FldSl (fun b => w.heap.size ≤ b) w' (.slice a (ofTypeV t).fields.length c) (ofTypeV t).fields ∧ Same w w' := by
  obtain ⟨i1, hi1, hy0, hy1, hy2⟩ := info_parts infoF
  have HH := hide h
  obtain ⟨b, off, hba, _⟩ := h.at 0 h0
  subst hba
  clear h
  obtain ⟨w3, hw3⟩ : ∃ w3, w3 = ((w.alloc (.cells #[.string ⟨t.name.toArray⟩, .slice (some ⟨b, off, none⟩) t.fields.length cf] 79)).alloc (.cells #[.slice none 0 0, .string ⟨#[]⟩, .int .i64 0, .int .i64 0] 72)).alloc (.cells #[.string ⟨#[105, 100]⟩, .int .i64 1, .string ⟨#[]⟩] 74) := ⟨_, rfl⟩
  have HK3 := hide (show Same w w3 by rw [hw3]; exact (((Kept.refl _ w).alloc _).alloc _).alloc _)
  obtain ⟨gt, hgt⟩ : ∃ gt, gt = w.heap.size := ⟨_, rfl⟩
  obtain ⟨gr, hgr⟩ : ∃ gr, gr = w.heap.size + 1 := ⟨_, rfl⟩
  obtain ⟨gi, hgi⟩ : ∃ gi, gi = w.heap.size + 1 + 1 := ⟨_, rfl⟩
  have HB := hide (show w3.heap[gt]? = some (.cells #[.string ⟨t.name.toArray⟩, .slice (some ⟨b, off, none⟩) t.fields.length cf] 79 (0, 0)) ∧ w3.heap[gr]? = some (.cells #[.slice none 0 0, .string ⟨#[]⟩, .int .i64 0, .int .i64 0] 72 (0, 0)) ∧ w3.heap[gi]? = some (.cells #[.string ⟨#[105, 100]⟩, .int .i64 1, .string ⟨#[]⟩] 74 (0, 0)) ∧ w3.heap.size = gi + 1 by
    rw [hw3, hgt, hgr, hgi]
    refine ⟨?_, ?_, ?_, by simp⟩
    · rw [Below.heap_alloc _ _ _ (by simp; omega), Below.heap_alloc _ _ _ (by simp)]; exact heap_alloc_new w _
    · rw [Below.heap_alloc _ _ _ (by simp)]
      have := heap_alloc_new (w.alloc (.cells #[.string ⟨t.name.toArray⟩, .slice (some ⟨b, off, none⟩) t.fields.length cf] 79)) (.cells #[.slice none 0 0, .string ⟨#[]⟩, .int .i64 0, .int .i64 0] 72)
      simpa using this
    · have := heap_alloc_new ((w.alloc (.cells #[.string ⟨t.name.toArray⟩, .slice (some ⟨b, off, none⟩) t.fields.length cf] 79)).alloc (.cells #[.slice none 0 0, .string ⟨#[]⟩, .int .i64 0, .int .i64 0] 72)) (.cells #[.string ⟨#[105, 100]⟩, .int .i64 1, .string ⟨#[]⟩] 74)
      simpa using this)
  have hgw : w.heap.size < gr := by omega
  have hri : gr < gi := by omega
  obtain ⟨k0, k1⟩ := blk2 HB.out.1
  obtain ⟨r0, r1, r2, r3⟩ := cells4 HB.out.2.1
  obtain ⟨d0, d1, d2⟩ := blk3 HB.out.2.2.1
  have hsz : gi < w3.heap.size := by have := HB.out.2.2.2; omega
  have hsz2 : gr < w3.heap.size := by omega
  have hsz3 : gt < w3.heap.size := by omega
  have HS := hide HB.out.2.2.2
  have HRB := hide HB.out.2.1
  have HN := hide (HH.out.same (tra HK3.out ((Kept.refl _ w3).alloc (.cells #[.string ⟨#[105, 100]⟩, .int .i64 1, .string ⟨#[]⟩] 74)))).news
  have HKT := hide hgt
  have hown := World.ownsRow_lit (base := w3.heap.size) (e := 74) (size := 3) w3 #[.string ⟨#[105, 100]⟩, .int .i64 1, .string ⟨#[]⟩] 1 (Nat.le_refl _) (by decide) rfl
  go_enter Try.func35, Try.ntmps35
  go_upto_region 2 with fail
  rw [← hw3, ← hgi, ← hgr, ← hgt]
  clear hw3 hgi hgr hgt HB
  go_wp2_with (at_builtin; refine wpList_append_all rfl (.tmp 6) (.tmp 8) 70 rfl w3.heap.size 74 i1 _ 3 40 Try.underlying70 hi1 hy0 hy1 hy2 rfl (by decide) _ _ _ rfl hown (some ⟨b, off, none⟩) t.fields.length cf (fldCells t.fields) rfl ?n1 HN.out.1 HN.out.2.1 HN.out.2.2 ?n2 ?n3 ?n4 ?_)
  case n2 => unfold maxLen; omega
  case n3 => omega
  intro v5 w5 hown5 hgr5
  obtain ⟨g5, c5, hv5⟩ := own_form hown5 (by omega)
  subst hv5
  have hKg : Kept (fun k => some k = (Value.slice (some ⟨w3.heap.size, 0, none⟩) 1 1).ownBlock) w3 w5 := ((Kept.refl _ w3).alloc _).trans (grown_kept hgr5) (fun _ _ e => e)
  have hX : ∀ k, some k = (Value.slice (some ⟨w3.heap.size, 0, none⟩) 1 1).ownBlock → k = w3.heap.size := fun k e => Option.some.inj e
  have hK5 : Same w3 w5 := hKg.mono (fun k hk e => by have := hX k e; omega)
  have hRB := blk_kept HRB.out hK5 (fun f => f)
  obtain ⟨z0, z1, z2, z3⟩ := cells4 hRB
  have zf := fun o => (show w5.frozen? ⟨gr, o, none⟩ = false by simp [World.frozen?, hRB])
  have HOW := hide hown5
  have HFIN := hide (show ∀ x y z u, Same w ((((w5.setCell ⟨gr, 0, none⟩ x).setCell ⟨gr, 1, none⟩ y).setCell ⟨gr, 2, none⟩ z).setCell ⟨gr, 3, none⟩ u) ∧ Kept (· = gr) w5 ((((w5.setCell ⟨gr, 0, none⟩ x).setCell ⟨gr, 1, none⟩ y).setCell ⟨gr, 2, none⟩ z).setCell ⟨gr, 3, none⟩ u) from fun x y z u => ⟨((((tra HK3.out hK5).setCell (p := ⟨gr, 0, none⟩) (fun hh => by have h1 : gr < w.heap.size := hh; omega) _).setCell (p := ⟨gr, 1, none⟩) (fun hh => by have h1 : gr < w.heap.size := hh; omega) _).setCell (p := ⟨gr, 2, none⟩) (fun hh => by have h1 : gr < w.heap.size := hh; omega) _).setCell (p := ⟨gr, 3, none⟩) (fun hh => by have h1 : gr < w.heap.size := hh; omega) _, ((((Kept.refl _ w5).setB 0 x).setB 1 y).setB 2 z).setB 3 u⟩)
  have HLT := hide hsz2
  have HLW := hide HK3.out.size
  clear hown hown5 hgr5 hKg hX hK5 hRB k0 k1 r0 r1 r2 r3 d0 d1 d2
  go_wp2_with fail
  refine bodyPost_ret (v := .agg #[.slice (some ⟨g5, 0, none⟩) (1 + t.fields.length) c5, .string ⟨#[102, 105, 114, 115, 116]⟩, .int .i64 0, .int .i64 999999999]) (by simp [results, Try.results35, go_sem, z0, z1, z2, z3]) rfl ?_
  refine ⟨some ⟨g5, 0, none⟩, c5, ?_, ?_, (HFIN.out _ _ _ _).1⟩
  · simp [ofTypeV, Nat.add_comm]
  · have h6 := own_kept HOW.out (HFIN.out (.slice (some ⟨g5, 0, none⟩) (1 + t.fields.length) c5) (.string ⟨#[102, 105, 114, 115, 116]⟩) (.int .i64 0) (.int .i64 999999999)).2 (fun g hg e => by have := HLT.out; omega)
    have h7 : fldCells (ofTypeV t).fields = [Value.string ⟨#[105, 100]⟩, .int .i64 1, .string ⟨#[]⟩] ++ fldCells t.fields := by simp [fldCells, ofTypeV, fldC]
    have h8 := own_flds (l := (ofTypeV t).fields) (base := w3.heap.size) (by
      rw [h7, show (ofTypeV t).fields.length = 1 + t.fields.length from by simp [ofTypeV]; omega]
      exact h6) (by simp [ofTypeV]; omega)
    rw [show (ofTypeV t).fields.length = 1 + t.fields.length from by simp [ofTypeV]; omega]
    exact h8.mono (fun b _ hb => Nat.le_trans HLW.out hb)

def qF (t : TypeT) : FieldT := ⟨t.name, 4, t.name⟩
def qCells (l : List TypeT) : List Value := fldCells (l.map qF)
theorem ofQueryV_fields (types : List TypeT) : (ofQueryV types).fields = types.map qF := rfl
def OBx (v : Value) : Obj := .cells #[v, .string ⟨#[105, 100]⟩, .int .i64 1, .int .i64 999] 72 (0, 0)

set_option maxRecDepth 20000 in
set_option maxHeartbeats 3200000 in
theorem ofQuery_any (w : World) (types : List TypeT) (at' : Option Addr) (ct : Nat) (P : Nat → Prop) (h : TypSl P w (.slice at' types.length ct) types) (hl : types.length ≤ 1000) :
    Calls Try.prog 37 #[.slice at' types.length ct] w fun e w' =>
      ∃ a c, e = .returned (ofV a (ofQueryV types).fields.length c (ofQueryV types)) ∧ FldSl (fun b => w.heap.size ≤ b) w' (.slice a (ofQueryV types).fields.length c) (ofQueryV types).fields ∧ Same w w' := by
  obtain ⟨i1, hi1, hy0, hy1, hy2⟩ := info_parts infoF
  have HH := hide h
  clear h
  obtain ⟨w2, hw2⟩ : ∃ w2, w2 = (w.alloc (.cells #[.slice none 0 0, .string ⟨#[]⟩, .int .i64 0, .int .i64 0] 72)).alloc (.cells #[.slice none 0 0, .string ⟨#[105, 100]⟩, .int .i64 1, .int .i64 999] 72) := ⟨_, rfl⟩
  have HK2 := hide (show Same w w2 by rw [hw2]; exact ((Kept.refl _ w).alloc _).alloc _)
  obtain ⟨gr, hgr⟩ : ∃ gr, gr = w.heap.size := ⟨_, rfl⟩
  obtain ⟨go, hgo⟩ : ∃ go, go = w.heap.size + 1 := ⟨_, rfl⟩
  have HB := hide (show w2.heap[gr]? = some (.cells #[.slice none 0 0, .string ⟨#[]⟩, .int .i64 0, .int .i64 0] 72 (0, 0)) ∧ w2.heap[go]? = some (OBx (.slice none 0 0)) ∧ w2.heap.size = go + 1 by
    rw [hw2, hgr, hgo]
    refine ⟨?_, ?_, by simp⟩
    · rw [Below.heap_alloc _ _ _ (by simp)]; exact heap_alloc_new w _
    · have := heap_alloc_new (w.alloc (.cells #[.slice none 0 0, .string ⟨#[]⟩, .int .i64 0, .int .i64 0] 72)) (.cells #[.slice none 0 0, .string ⟨#[105, 100]⟩, .int .i64 1, .int .i64 999] 72)
      simpa [OBx] using this)
  have hgw : w.heap.size ≤ gr := by omega
  have hrg : gr < go := by omega
  have HGO := hide hgo
  go_enter Try.func37, Try.ntmps37
  go_wp2_with fail
  rw [← hw2, ← hgo, ← hgr]
  clear hw2 hgo hgr
  go_loopg [9] types.length (fun gg i wr => ∃ (k : Nat) (v : Value), k + gg = types.length ∧ i = .int .i64 k ∧ Hid (Kept (· = go) w2 wr) ∧ Hid (wr.heap[go]? = some (OBx v)) ∧ Hid (wr.ownsRow (go + 1) 74 3 v k (qCells (types.take k))))
  case atStart => exact ⟨0, .slice none 0 0, by omega, rfl, Kept.refl _ _, HB.out.2.1, World.ownsRow_nil _ _ _ _⟩
  case round =>
    obtain ⟨k, v, hk, rfl, HKr, HBr, HOr⟩ := hrel
    obtain ⟨ao, cap, hv⟩ := own_slice HOr.out
    subst hv
    have hBr : wr.heap[go]? = some (.cells #[.slice ao k cap, .string ⟨#[105, 100]⟩, .int .i64 1, .int .i64 999] 72 (0, 0)) := HBr.out
    obtain ⟨p0, p1, p2, p3⟩ := cells4 hBr
    have hgo1 : go < wr.heap.size := (Array.getElem?_eq_some_iff.1 hBr).1
    have HKw := hide (show Kept (· = go) w wr from HK2.out.to.trans HKr.out (fun _ _ e => e))
    have HSw := hide (show Same w wr from HKw.out.mono (fun i hi e => by have := HGO.out; omega))
    by_cases hlt : k < types.length
    · obtain ⟨b, off, af, nf, cf, hba, c0, c1, hnf, hfs⟩ := (HH.out.same HSw.out).at k hlt
      subst hba
      clear hnf hfs
      have HT := hide (show qCells (types.take (k + 1)) = qCells (types.take k) ++ fldC (qF types[k]) by rw [List.take_succ_eq_append_getElem hlt, qCells, qCells, List.map_append, List.map_cons, List.map_nil, fldCells_snoc])
      obtain ⟨t, hte⟩ : ∃ t, t = types[k] := ⟨_, rfl⟩
      rw [← hte] at c0 HT
      clear hte hBr
      obtain ⟨w3, hw3⟩ : ∃ w3, w3 = wr.alloc (.cells #[.string ⟨t.name.toArray⟩, .slice af nf cf] 79) := ⟨_, rfl⟩
      obtain ⟨gt, hgt⟩ : ∃ gt, gt = wr.heap.size := ⟨_, rfl⟩
      have hK3 : Same wr w3 := by rw [hw3]; exact (Kept.refl _ wr).alloc _
      have hT3 : w3.heap[gt]? = some (.cells #[.string ⟨t.name.toArray⟩, .slice af nf cf] 79 (0, 0)) := by rw [hw3, hgt]; exact heap_alloc_new wr _
      have hB3 : w3.heap[go]? = some (.cells #[.slice ao k cap, .string ⟨#[105, 100]⟩, .int .i64 1, .int .i64 999] 72 (0, 0)) := blk_kept HBr.out hK3 (fun f => f)
      have hown3 := own_kept HOr.out hK3 (fun _ _ f => f)
      have HB3 := hide hB3
      have HO3 := hide hown3
      have HK3 := hide (show Kept (· = go) w2 w3 from HKr.out.trans (Same.to (X := (· = go)) hK3) (fun _ _ e => e))
      have hsz3 : gt < w3.heap.size := (Array.getElem?_eq_some_iff.1 hT3).1
      have hg3 : go < w3.heap.size := (Array.getElem?_eq_some_iff.1 hB3).1
      have hgt2 : go < gt := by omega
      go_upto_region 5 with fail
      rw [← hw3, ← hgt]
      clear hw3 hgt c0 c1 p0 p1 p2 p3 hK3
      obtain ⟨p0, p1, p2, p3⟩ := cells4 hB3
      obtain ⟨d0, d1⟩ := blk2 hT3
      clear hB3 hT3
      go_wp2_with (at_builtin; refine wpList_append_own_at _ rfl _ _ 70 rfl (go + 1) 74 i1 _ 3 40 Try.underlying70 hi1 hy0 hy1 hy2 rfl (by decide) _ _ _ rfl (hown3.alloc _) ⟨w3.heap.size, 0, none⟩ 1 1 (fldC (qF t)) rfl rfl ?a1 ?a2 ?a3 ?a4 ?a5 ?_)
      case a1 => exact new_c3 w3 _ _ _ _
      case a2 => exact fldC_one _
      case a3 => unfold maxLen; omega
      case a4 => omega
      case a5 => simp; omega
      intro v5 w5 hown5 hgr5 _ hat5
      obtain ⟨g5, c5, hv5⟩ := own_form hown5 (by omega)
      subst hv5
      have hX : ∀ kk, some kk = (Value.slice ao k cap).ownBlock → go < kk := fun kk e => by have := (own_up HO3.out kk e.symm).1; omega
      have hKg : Kept (fun kk => some kk = (Value.slice ao k cap).ownBlock) w3 w5 := ((Kept.refl _ w3).alloc _).trans (grown_kept hgr5) (fun _ _ e => e)
      have hB5 := blk_kept HB3.out hKg (fun e => by have := hX go e; omega)
      obtain ⟨z0, z1, z2, z3⟩ := cells4 hB5
      have zf := fun o => (show w5.frozen? ⟨go, o, none⟩ = false by simp [World.frozen?, hB5])
      have HX := hide (show ∀ x, Kept (· = go) w2 (w5.setCell ⟨go, 0, none⟩ x) ∧ (w5.setCell ⟨go, 0, none⟩ x).heap[go]? = some (OBx x) ∧ Kept (· = go) w5 (w5.setCell ⟨go, 0, none⟩ x) from fun x => ⟨(HK3.out.trans hKg (fun kk hk e => by have h1 := hX kk e; have h2 := HB.out.2.2; omega)).setB 0 x, by simp [World.setCell, Array.getElem?_modify, hB5, OBx], (Kept.refl _ w5).setB 0 x⟩)
      have HO5 := hide (show (w5.setCell ⟨go, 0, none⟩ (.slice (some ⟨g5, 0, none⟩) (k + 1) c5)).ownsRow (go + 1) 74 3 (.slice (some ⟨g5, 0, none⟩) (k + 1) c5) (k + 1) (qCells (types.take (k + 1))) by rw [HT.out]; exact own_kept hown5 (HX.out _).2.2 (fun kk hk e => by omega))
      clear hown5 hgr5 hat5 hKg hX hB5 hown3
      go_wp2_with fail
      go_roundg (gk - 1)
      case measure => omega
      case rel => exact ⟨k + 1, _, by omega, by go_num, (HX.out _).1, (HX.out _).2.1, HO5.out⟩
    · have hRB := blk_kept HB.out.1 HKr.out (by omega)
      obtain ⟨z0, z1, z2, z3⟩ := cells4 hRB
      have zf := fun o => (show wr.frozen? ⟨gr, o, none⟩ = false by simp [World.frozen?, hRB])
      have hne : go ≠ gr := by omega
      have hne2 : gr ≠ go := by omega
      have hgr1 : gr < wr.heap.size := (Array.getElem?_eq_some_iff.1 hRB).1
      have HFIN := hide (show ∀ x y z u, Same w ((((wr.setCell ⟨gr, 0, none⟩ x).setCell ⟨gr, 1, none⟩ y).setCell ⟨gr, 2, none⟩ z).setCell ⟨gr, 3, none⟩ u) ∧ Kept (· = gr) wr ((((wr.setCell ⟨gr, 0, none⟩ x).setCell ⟨gr, 1, none⟩ y).setCell ⟨gr, 2, none⟩ z).setCell ⟨gr, 3, none⟩ u) from fun x y z u => ⟨(((HSw.out.setCell (p := ⟨gr, 0, none⟩) (fun hh => by have h1 : gr < w.heap.size := hh; omega) _).setCell (p := ⟨gr, 1, none⟩) (fun hh => by have h1 : gr < w.heap.size := hh; omega) _).setCell (p := ⟨gr, 2, none⟩) (fun hh => by have h1 : gr < w.heap.size := hh; omega) _).setCell (p := ⟨gr, 3, none⟩) (fun hh => by have h1 : gr < w.heap.size := hh; omega) _, ((((Kept.refl _ wr).setB 0 x).setB 1 y).setB 2 z).setB 3 u⟩)
      have hkl : k = types.length := by omega
      have HOE := hide (show wr.ownsRow (go + 1) 74 3 (.slice ao types.length cap) (ofQueryV types).fields.length (fldCells (ofQueryV types).fields) by
        have h1 := HOr.out
        rw [hkl, List.take_length] at h1
        rw [ofQueryV_fields, List.length_map]
        exact h1)
      subst hkl
      clear hRB hBr
      go_wp2_with fail
      refine bodyPost_ret (v := .agg #[.slice ao types.length cap, .string ⟨#[105, 100]⟩, .int .i64 1, .int .i64 999]) (by simp [results, Try.results37, go_sem, z0, z1, z2, z3]) rfl ?_
      refine ⟨ao, cap, ?_, ?_, (HFIN.out _ _ _ _).1⟩
      · simp [ofQueryV]
      · have h8 := (own_flds (own_kept HOE.out (HFIN.out (.slice ao types.length cap) (.string ⟨#[105, 100]⟩) (.int .i64 1) (.int .i64 999)).2 (fun g hg e => by omega)) (by rw [ofQueryV_fields, List.length_map]; omega)).mono (Q := fun b => w.heap.size ≤ b) (fun b _ hb => by omega)
        rw [show (ofQueryV types).fields.length = types.length from by rw [ofQueryV_fields, List.length_map]]
        exact h8

end Go.Proofs.Ytkkjchfhgjfclac
