import Derived.Test.YtkkjchfhgjfclafBatchback08
import Derived.Test.YtkkjchfhgjfclafBatchback10
import Derived.Deep.RegionHeld3
import Derived.Test.YtkkjchfhgjfclafBatchback03
import Derived.Deep.Strs
import Derived.Carry
import Derived.Lib.SmallJoins
import Derived.Deep.DeepCutAuto
/- The laws' own batch, and what must be in any case. -/
namespace Go.Proofs.Ytkkjchfhgjfclaf
open Go.RowKit

def lotE : List EventT := [⟨1, 1, 3, 0, 0, []⟩, ⟨4, 0, 3, 1, 0, [120, 121]⟩]
def lotB : BatchT := ⟨258, lotE⟩
theorem lot_ok : checkBa lotB = 0 := by decide
theorem lot_bytes : bytesB lotB = [0, 15, 1, 2, 2, 1, 1, 0, 3, 4, 0, 0, 3, 1, 2, 120, 121] := by decide
theorem lot_back : decodeB [0, 15, 1, 2, 2, 1, 1, 0, 3, 4, 0, 0, 3, 1, 2, 120, 121, 122] = .ok (lotB, 17) := by
  have h := decode_of lot_ok [122]
  rw [lot_bytes] at h
  exact h
theorem short_none : decodeB [0, 15, 1] = .error 5 := by kernel_rfl

theorem lot_any (w : World) :
    Calls Try.prog 26 #[] w fun r w' => ∃ g, r = .returned (baV 258 (.slice (some ⟨g, 0, none⟩) 2 2)) ∧ EvSl (w.heap.size ≤ ·) w' (.slice (some ⟨g, 0, none⟩) 2 2) lotE ∧ Same w w' := by
  go_enter Try.func26, Try.ntmps26
  go_wp2_with fail
  have h1 := heap_alloc_new (w.alloc (.cells #[.int .i64 258, .slice (some ⟨w.heap.size + 1, 0, none⟩) 2 2] 24)) (.cells (evCells lotE).toArray 79)
  rw [World.size_alloc] at h1
  refine bodyPost_ret (v := baV 258 (.slice (some ⟨w.heap.size + 1, 0, none⟩) 2 2)) (by simp [results, Try.results26, go_sem]) rfl ⟨_, rfl, ?_, (by repeat' (first | assumption | exact Kept.refl _ _ | refine Kept.drewN ?_ _ | refine Kept.drew ?_ | refine Kept.alloc ?_ _ | refine Kept.setB ?_ _ _))⟩
  refine ⟨some ⟨w.heap.size + 1, 0, none⟩, 2, rfl, ⟨by unfold maxLen; simp [lotE], by simp [lotE]⟩, fun i e he => ⟨w.heap.size + 1, 0, rfl, by omega, ?_⟩⟩
  refine ev_row (l := lotE) (fun j u hj => ?_) i e he
  show World.cell? _ _ = some u
  rw [Nat.zero_add]
  have h2 : (evCells lotE).toArray[j]? = some u := by simpa using hj
  unfold World.cell?
  rw [show ((w.alloc (.cells #[.int .i64 258, .slice (some ⟨w.heap.size + 1, 0, none⟩) 2 2] 24)).alloc (.cells #[.int .i64 1, .int .i64 1, .int .i64 3, .int .i64 0, .int .i64 0, .string ⟨#[]⟩, .int .i64 4, .int .i64 0, .int .i64 3, .int .i64 1, .int .i64 0, .string ⟨#[120, 121]⟩] 79)).heap[w.heap.size + 1]? = _ from h1]
  exact h2

/-- two slices of one batch each, the same one -/
theorem sameLots (wx : World) (g h : Nat) (b : BatchT) (v v' : Value) (h1 : wx.heap[g]? = some (.cells #[.int .i64 b.number, v] 24 (0, 0))) (h2 : wx.heap[h]? = some (.cells #[.int .i64 b.number, v'] 24 (0, 0)))
    (e1 : EvSl (fun _ => True) wx v b.events) (e2 : EvSl (fun _ => True) wx v' b.events) :
    Calls Try.prog 11 #[.slice (some ⟨g, 0, none⟩) 1 1, .slice (some ⟨h, 0, none⟩) 1 1] wx fun e w' => e = .returned (.bool true) ∧ ∃ n, w' = wx.drewN n := by
  have := sameBatches_any (fun _ => True) (fun _ => True) wx _ _ [b] [b] (BaSl.one (b := b) h1 trivial e1) (BaSl.one (b := b) h2 trivial e2)
  rw [decide_eq_true rfl] at this
  exact this

theorem al_old (w : World) (o o' : Obj) : ((w.alloc o).alloc o').heap[w.heap.size]? = some o := by
  rw [Below.heap_alloc _ _ _ (by simp)]; exact heap_alloc_new w o
theorem al_new (w : World) (o o' : Obj) : ((w.alloc o).alloc o').heap[w.heap.size + 1]? = some o' := by
  have := heap_alloc_new (w.alloc o) o'
  rw [World.size_alloc] at this
  exact this
theorem al_far {wa w : World} {o : Obj} (o' : Obj) (hK : Same (wa.alloc o) w) : (w.alloc o').heap[wa.heap.size]? = some o := by
  have hg1 := new_kept (X := fun _ => False) hK (fun f => f)
  exact (Below.heap_alloc w o' _ (Array.getElem?_eq_some_iff.1 hg1).1).trans hg1

set_option maxRecDepth 20000 in
set_option maxHeartbeats 3200000 in
theorem batchBegun_any (w : World) :
    Calls Try.prog 8 #[] w fun r w' => r = .returned (.bool true) ∧ Same w w' := by
  have trs : ∀ {a b c : World}, Same a b → Same b c → Same a c := fun h k => h.trans k (fun _ _ f => f)
  go_enter Try.func8, Try.ntmps8
  go_wp2_with fail
  refine (lot_any _).mono ?_
  rintro r w1 ⟨g1, rfl, hv1, hK1⟩
  have HEn := hide ((encode_any _ w1 lotB _ hv1).mono (R' := fun r w' => r = .returned (.tuple #[.string ⟨#[0, 15, 1, 2, 2, 1, 1, 0, 3, 4, 0, 0, 3, 1, 2, 120, 121]⟩, .int .i64 0]) ∧ Same w1 w') (by
    rintro r w' (⟨_, rfl, hK⟩ | ⟨hc, _⟩)
    · rw [lot_bytes]; exact ⟨rfl, hK⟩
    · exact absurd lot_ok hc))
  clear hv1
  go_wp2_with fail
  refine HEn.out.mono ?_
  clear HEn
  rintro r w2 ⟨rfl, hK2⟩
  have HDe := hide ((decode_any w2 [0, 15, 1, 2, 2, 1, 1, 0, 3, 4, 0, 0, 3, 1, 2, 120, 121, 122]).mono (R' := fun r w' => ∃ v, r = .returned (.tuple #[baV 258 v, .int .i64 17, .int .i64 0]) ∧ EvSl (w2.heap.size ≤ ·) w' v lotE ∧ Same w2 w') (by
    rintro r w' (⟨ba, v, n, h1, rfl, h2, h3⟩ | ⟨no, h1, _⟩)
    · rw [lot_back] at h1; cases h1; exact ⟨v, rfl, h2, h3⟩
    · rw [lot_back] at h1; cases h1))
  go_wp2_with fail
  refine HDe.out.mono ?_
  clear HDe
  rintro r w3 ⟨v3, rfl, hv3, hK3⟩
  obtain ⟨a3, c3, rfl⟩ := hv3.form
  have hg3 := heap_alloc_new w3 (.cells #[.int .i64 258, .slice a3 lotE.length c3] 24)
  have hv4 := hv3.same ((Kept.refl _ w3).alloc (.cells #[.int .i64 258, .slice a3 lotE.length c3] 24))
  have hK4 : Same w (w3.alloc (.cells #[.int .i64 258, .slice a3 lotE.length c3] 24)) := (trs (trs hK1 hK2) hK3).alloc _
  have HDe := hide (fun wx => (decode_any wx [0, 15, 1]).mono (R' := fun r w' => r = .returned (.tuple #[baV 0 (.slice none 0 0), .int .i64 0, .int .i64 5]) ∧ Same wx w') (by
    rintro r w' (⟨ba, v, n, h1, _⟩ | ⟨no, h1, _, rfl, h3⟩)
    · rw [short_none] at h1; cases h1
    · rw [short_none] at h1; cases h1; exact ⟨rfl, h3⟩))
  clear hK1 hK2 hK3 hv3
  go_wp2_with fail
  refine (HDe.out _).mono ?_
  clear HDe
  rintro r w5 ⟨rfl, hK5⟩
  have hg5 := blk_kept hg3 hK5 (fun f => f)
  have HV5 := hide (hv4.same hK5)
  have HK6 := hide (trs hK4 hK5)
  have hz5 : w3.heap.size < w5.heap.size := (Array.getElem?_eq_some_iff.1 hg5).1
  clear hg3 hv4 hK4 hK5
  have HCk := hide (fun wx v (hv : EvSl (fun _ => True) wx v lotE) => (checkBa_any _ lotB v wx hv).mono (R' := fun r w' => r = .returned (.int .i64 0) ∧ Same wx w') (fun r w' h => ⟨h.1.trans (by rw [lot_ok]), h.2⟩))
  have hKc : Same w5 w5 := Kept.refl _ _
  obtain ⟨p0, p1⟩ := blk2 hg5
  have HALL := hide (fun wy (hy : Same w5 wy) => (⟨hy.cell p0 (fun f => f), hy.cell p1 (fun f => f)⟩ : wy.cell? ⟨w3.heap.size, 0, none⟩ = _ ∧ wy.cell? ⟨w3.heap.size, 1, none⟩ = _))
  have hle : lotE.length = 2 := rfl
  go_wp2_with fail
  go_region_held3 (fun w' => w'.cell? ⟨w3.heap.size, 0, none⟩ = some (.int .i64 258) ∧ w'.cell? ⟨w3.heap.size, 1, none⟩ = some (.slice a3 2 c3)) (go_keep) (first
    | (go_at_call 26; refine (lot_any _).mono ?_; rintro e w9 ⟨g9, rfl, hv9, hKn⟩; have hKc := trs (by first | exact hKc.drewN _ | exact hKc.drew | exact hKc | exact (hKc.drewN _).alloc _ | exact hKc.alloc _) hKn; obtain ⟨p0, p1⟩ := HALL.out _ hKc)
    | (go_at_call 27; refine (HCk.out _ _ ((by exact hv9 : EvSl _ _ _ lotE).mono (fun _ _ _ => trivial))).mono ?_; rintro e w9 ⟨rfl, hKn⟩; have hKc := trs (by first | exact hKc.drewN _ | exact hKc.drew | exact hKc) hKn; obtain ⟨p0, p1⟩ := HALL.out _ hKc)
    | (go_at_call 11; refine (sameLots _ _ _ ⟨258, lotE⟩ _ _ (by first | exact al_far _ hKn | exact al_old _ _ _ | exact al_new _ _ _) (by first | exact heap_alloc_new _ _ | exact al_new _ _ _ | exact al_old _ _ _) (by first | exact ((HV5.out.same (hKc.alloc _)).mono (fun _ _ _ => trivial)) | exact ((HV5.out.same ((hKc.alloc _).alloc _)).mono (fun _ _ _ => trivial))) (by first | exact ((hv9.same ((Kept.refl _ _).alloc _)).mono (fun _ _ _ => trivial)) | exact ((hv9.same (((Kept.refl _ _).alloc _).alloc _)).mono (fun _ _ _ => trivial)))).mono ?_; rintro e w10 ⟨rfl, n10, hw10⟩; have hKd : Same w5 w10 := (by rw [hw10]; first | exact (hKc.alloc _).drewN _ | exact ((hKc.alloc _).alloc _).drewN _); clear hw10; obtain ⟨p0, p1⟩ := HALL.out _ hKd))
  all_goals
    go_wp2_with fail
    go_ret
    exact ⟨rfl, trs HK6.out hKd⟩

end Go.Proofs.Ytkkjchfhgjfclaf

/- Arguments that hold events: what the row's reading says of them. -/
namespace Go.Proofs.Ytkkjchfhgjfclaf
open Go.ChangeShapes Go.WideShapes Go.RowKit

def anyE (_ : Nat) : Prop := True

set_option maxRecDepth 20000 in
set_option maxHeartbeats 800000 in
theorem evs_trod {H : Type} {enc : TypeId × Value → H} {W : World} {fuel : Nat} {cs : List Value} {x : DataW H × List MemPlace} {sp : Nat → Bool} {held : Bool}
    (hf : DataW.trod enc Try.prog W 0 sp held fuel 22 cs = some x) : ∃ v l, cs = [v] ∧ EvSl anyE W v l := by
  have hcells : Try.prog.cellsOf 79 = 6 := by kernel_rfl
  have hint : Try.prog.cellsOf 3 = 1 := by kernel_rfl
  have hstr : Try.prog.cellsOf 9 = 1 := by kernel_rfl
  rcases Deep.open_slice Try.underlying22 hf with ⟨rfl, _⟩ | ⟨a, len, cap, m, n, D, Pl, rfl, hb, hl, hm, hmm, hx, hall⟩
  · exact ⟨_, [], rfl, EvSl.nil _ W⟩
  · have hlm : len ≤ m := by rw [hmm]; split <;> omega
    rw [hcells] at hall
    have each : ∀ i, i < len → ∃ t : EventT, W.cell? (a.add (i * 6)) = some (.int .i64 t.kind) ∧ W.cell? (a.add (i * 6 + 1)) = some (.int .i64 t.ty) ∧ W.cell? (a.add (i * 6 + 2)) = some (.int .i64 t.id) ∧
        W.cell? (a.add (i * 6 + 3)) = some (.int .i64 t.field) ∧ W.cell? (a.add (i * 6 + 4)) = some (.int .i64 t.n) ∧ W.cell? (a.add (i * 6 + 5)) = some (.string ⟨t.text.toArray⟩) := by
      intro i hi
      obtain ⟨cs', h1, h2⟩ := hall i (by omega)
      obtain ⟨_, hlen, hcell⟩ := World.cells?_some h1
      obtain ⟨xs, q, _, _, _, hxl, hfd⟩ := DataW.trod_struct Try.underlying79 h2
      match xs, hxl, cs', hlen with
      | [y0, y1, y2, y3, y4, y5], _, [v0, v1, v2, v3, v4, v5], _ =>
        have g0 := hfd 0 _ rfl
        have g1 := hfd 1 _ rfl
        have g2 := hfd 2 _ rfl
        have g3 := hfd 3 _ rfl
        have g4 := hfd 4 _ rfl
        have g5 := hfd 5 _ rfl
        simp [hint, hstr] at g0 g1 g2 g3 g4 g5
        obtain ⟨z0, e0, _, _⟩ := DataW.trod_int Try.underlying3 g0
        obtain ⟨z1, e1, _, _⟩ := DataW.trod_int Try.underlying3 g1
        obtain ⟨z2, e2, _, _⟩ := DataW.trod_int Try.underlying3 g2
        obtain ⟨z3, e3, _, _⟩ := DataW.trod_int Try.underlying3 g3
        obtain ⟨z4, e4, _, _⟩ := DataW.trod_int Try.underlying3 g4
        obtain ⟨z5, e5, _, _⟩ := DataW.trod_string Try.underlying9 g5
        simp only [List.cons.injEq, and_true] at e0 e1 e2 e3 e4 e5
        subst e0 e1 e2 e3 e4 e5
        have c0 := hcell 0 (by omega)
        have c1 := hcell 1 (by omega)
        have c2 := hcell 2 (by omega)
        have c3 := hcell 3 (by omega)
        have c4 := hcell 4 (by omega)
        have c5 := hcell 5 (by omega)
        rw [Deep.add_add] at c0 c1 c2 c3 c4 c5
        exact ⟨⟨z0, z1, z2, z3, z4, z5.data.toList⟩, by simpa using c0, by simpa using c1, by simpa using c2, by simpa using c3, by simpa using c4, by simpa using c5⟩
    have : Inhabited EventT := ⟨event0⟩
    obtain ⟨T, hT⟩ := Deep.choose_lt each
    have hlen : ((List.range len).map T).length = len := by simp
    refine ⟨_, (List.range len).map T, rfl, some a, cap, by rw [hlen], by rw [hlen]; exact ⟨by omega, hl⟩, ?_⟩
    intro i t ht
    obtain ⟨hi, ht⟩ := List.getElem?_eq_some_iff.1 ht
    rw [hlen] at hi
    simp only [List.getElem_map, List.getElem_range] at ht
    subst ht
    obtain ⟨c0, c1, c2, c3, c4, c5⟩ := hT i hi
    obtain ⟨b, off, spot⟩ := a
    have hspot : spot = none := by
      have := World.cell?_spot (hT 0 (by omega)).1
      simpa [Addr.add] using this
    subst hspot
    rw [addr_add] at c0 c1 c2 c3 c4 c5
    exact ⟨b, off, rfl, trivial, c0, by rw [Nat.add_assoc]; exact c1, by rw [Nat.add_assoc]; exact c2, by rw [Nat.add_assoc]; exact c3, by rw [Nat.add_assoc]; exact c4, by rw [Nat.add_assoc]; exact c5⟩

end Go.Proofs.Ytkkjchfhgjfclaf

/- BatchBack: the walk of the law's function. -/
namespace Go.Proofs.Ytkkjchfhgjfclaf
open Go.RowKit

theorem bytes_append (x y : List UInt8) : (⟨x.toArray⟩ : ByteArray) ++ ⟨y.toArray⟩ = ⟨(x ++ y).toArray⟩ := by
  apply ByteArray.ext
  simp

theorem tr {a b c : World} (h : Same a b) (k : Same b c) : Same a c := h.trans k (fun _ _ f => f)

/-- Encode, in one form: the text counts where the number is 0 -/
theorem encode_one (P : Nat → Prop) (w : World) (b : BatchT) (v : Value) (h : EvSl P w v b.events) :
    Calls Try.prog 9 #[baV b.number v] w fun r w' => ∃ t : ByteArray, r = .returned (.tuple #[.string t, .int .i64 (checkBa b)]) ∧ Hid (checkBa b = 0 → t = ⟨(bytesB b).toArray⟩) ∧ Same w w' := by
  refine (encode_any P w b v h).mono ?_
  rintro r w' (⟨h1, rfl, hK⟩ | ⟨h1, rfl, hK⟩)
  · exact ⟨_, by rw [h1], fun _ => rfl, hK⟩
  · exact ⟨_, rfl, fun e => absurd e h1, hK⟩

theorem decode_ok (w : World) (l : List UInt8) (b : BatchT) (n : Nat) (h : decodeB l = .ok (b, n)) :
    Calls Try.prog 10 #[.string ⟨l.toArray⟩] w fun r w' => ∃ a c, r = .returned (.tuple #[baV b.number (.slice a b.events.length c), .int .i64 n, .int .i64 0]) ∧ EvSl (w.heap.size ≤ ·) w' (.slice a b.events.length c) b.events ∧ Same w w' := by
  refine (decode_any w l).mono ?_
  rintro r w' (⟨ba, v, m, h1, rfl, h2, h3⟩ | ⟨no, h1, _⟩)
  · rw [h] at h1; cases h1
    obtain ⟨a, c, rfl⟩ := h2.form
    exact ⟨a, c, rfl, h2, h3⟩
  · rw [h] at h1; cases h1
theorem decode_no (w : World) (l : List UInt8) (no : Int) (h : decodeB l = .error no) :
    Calls Try.prog 10 #[.string ⟨l.toArray⟩] w fun r w' => r = .returned (.tuple #[baV 0 (.slice none 0 0), .int .i64 0, .int .i64 no]) ∧ Same w w' ∧ no ≠ 0 := by
  refine (decode_any w l).mono ?_
  rintro r w' (⟨ba, v, m, h1, _⟩ | ⟨no', h1, h2, rfl, h3⟩)
  · rw [h] at h1; cases h1
  · rw [h] at h1; cases h1
    exact ⟨rfl, h3, h2⟩

/-- two slices of one batch each, built one behind the other: the same one -/
theorem sameTwo (w : World) (n : Int) (es : List EventT) (v v' : Value) (P Q : Nat → Prop) (e1 : EvSl P w v es) (e2 : EvSl Q w v' es) :
    Calls Try.prog 11 #[.slice (some ⟨w.heap.size, 0, none⟩) 1 1, .slice (some ⟨w.heap.size + 1, 0, none⟩) 1 1] ((w.alloc (.cells #[.int .i64 n, v] 24)).alloc (.cells #[.int .i64 n, v'] 24))
      fun e w' => e = .returned (.bool true) ∧ Same w w' := by
  refine (sameLots _ _ _ ⟨n, es⟩ _ _ (al_old _ _ _) (al_new _ _ _) ((e1.same (((Kept.refl _ _).alloc _).alloc _)).mono (fun _ _ _ => trivial)) ((e2.same (((Kept.refl _ _).alloc _).alloc _)).mono (fun _ _ _ => trivial))).mono ?_
  rintro e w10 ⟨rfl, n10, rfl⟩
  exact ⟨rfl, (((Kept.refl _ _).alloc _).alloc _).drewN _⟩

set_option maxRecDepth 20000 in
set_option maxHeartbeats 3200000 in
theorem batchBack_any (w : World) (a b : BatchT) (va vb : Value) (l : List UInt8) (ha : EvSl anyE w va a.events) (hb : EvSl anyE w vb b.events) (hl : l.length ≤ 140737488355328) :
    Calls Try.prog 3 #[baV a.number va, baV b.number vb, .string ⟨l.toArray⟩] w fun e w' => e = .returned (.bool true) ∧ Same w w' := by
  have HA := hide ha
  have HB := hide hb
  obtain ⟨aa, ca, rfl⟩ := ha.form
  obtain ⟨ab, cb, rfl⟩ := hb.form
  clear ha hb
  obtain ⟨W, hW⟩ : ∃ W, W = (w.alloc (.cells #[.int .i64 a.number, .slice aa a.events.length ca] 24)).alloc (.cells #[.int .i64 b.number, .slice ab b.events.length cb] 24) := ⟨_, rfl⟩
  have hWa : W.heap[w.heap.size]? = some (.cells #[.int .i64 a.number, .slice aa a.events.length ca] 24 (0, 0)) := by rw [hW]; exact al_old _ _ _
  have hWb : W.heap[w.heap.size + 1]? = some (.cells #[.int .i64 b.number, .slice ab b.events.length cb] 24 (0, 0)) := by rw [hW]; exact al_new _ _ _
  have hKW : Same w W := by rw [hW]; exact ((Kept.refl _ w).alloc _).alloc _
  go_enter Try.func3, Try.ntmps3
  go_wp2_with fail
  rw [← hW]
  clear hW
  refine (batchBegun_any _).mono ?_
  rintro r w1 ⟨rfl, hK1⟩
  have hA1 := blk_kept hWa hK1 (fun f => f)
  have hB1 := blk_kept hWb hK1 (fun f => f)
  obtain ⟨x0, x1⟩ := blk2 hA1
  have HEa := hide (encode_one _ w1 a _ (HA.out.same (tr hKW hK1)))
  have HKw1 := hide (tr hKW hK1)
  clear hWa hWb hKW hK1
  go_wp2_with fail
  refine HEa.out.mono ?_
  clear HEa
  rintro r w2 ⟨ta, rfl, HTa, hK2⟩
  have hA2 := blk_kept hA1 hK2 (fun f => f)
  have hB2 := blk_kept hB1 hK2 (fun f => f)
  have HKw2 := hide (tr HKw1.out hK2)
  have HEb := hide (encode_one _ w2 b _ (HB.out.same HKw2.out))
  clear x0 x1 hA1 hB1 hK2
  obtain ⟨y0, y1⟩ := blk2 hB2
  go_wp2_with fail
  refine HEb.out.mono ?_
  clear HEb
  rintro r w3 ⟨tb, rfl, HTb, hK3⟩
  have HA3 := hide (blk_kept hA2 hK3 (fun f => f))
  have HB3 := hide (blk_kept hB2 hK3 (fun f => f))
  have HKw3 := hide (tr HKw2.out hK3)
  clear y0 y1 hA2 hB2 hK3 HKw1 HKw2
  obtain ⟨q, hq⟩ : ∃ q, (checkBa a == 0) = q := ⟨_, rfl⟩
  have HQ := hide hq
  clear hq
  go_upto_if 29 with fail
  rw [HQ.out]
  go_cut [] (fun wx => Hid (Same w wx))
  case first =>
    cases q
    · go_wp2_with fail
      go_meet
      case rel => exact HKw3.out
    · have hc : checkBa a = 0 := by simpa using HQ.out
      have ht := HTa.out hc
      subst ht
      have HC := hide hc
      have HDe := hide (decode_ok w3 (bytesB a ++ l) a _ (decode_of hc l))
      have hbl : (bytesB a).length ≤ 373 := by have := inner_len hc; unfold bytesB; rw [List.length_append, beN_len]; omega
      clear hc HTa
      go_wp2_with fail
      rw [bytes_append]
      refine HDe.out.mono ?_
      clear HDe
      rintro r w4 ⟨a4, c4, rfl, hv4, hK4⟩
      -- x in its block
      have hX5 := heap_alloc_new w4 (.cells #[.int .i64 a.number, .slice a4 a.events.length c4] 24)
      have hA5 := (Below.heap_alloc w4 (.cells #[.int .i64 a.number, .slice a4 a.events.length c4] 24) _ (Array.getElem?_eq_some_iff.1 (blk_kept HA3.out hK4 (fun f => f))).1).trans (blk_kept HA3.out hK4 (fun f => f))
      have hB5 := (Below.heap_alloc w4 (.cells #[.int .i64 a.number, .slice a4 a.events.length c4] 24) _ (Array.getElem?_eq_some_iff.1 (blk_kept HB3.out hK4 (fun f => f))).1).trans (blk_kept HB3.out hK4 (fun f => f))
      have hz4 : w.heap.size < w4.heap.size := (Array.getElem?_eq_some_iff.1 (blk_kept HA3.out hK4 (fun f => f))).1
      have hz4b : w.heap.size + 1 < w4.heap.size := (Array.getElem?_eq_some_iff.1 (blk_kept HB3.out hK4 (fun f => f))).1
      have HKw5 : Hid (Same w (w4.alloc (.cells #[.int .i64 a.number, .slice a4 a.events.length c4] 24))) := (tr HKw3.out hK4).alloc _
      have HV5 := hide (hv4.same ((Kept.refl _ w4).alloc (.cells #[.int .i64 a.number, .slice a4 a.events.length c4] 24)))
      have HSx := hide (sameTwo (w4.alloc (.cells #[.int .i64 a.number, .slice a4 a.events.length c4] 24)) a.number a.events _ _ _ _ HV5.out (HA.out.same HKw5.out))
      simp only [World.size_alloc] at HSx
      obtain ⟨m0, m1⟩ := blk2 (blk_kept HA3.out hK4 (fun f => f))
      obtain ⟨n0, n1⟩ := blk2 (blk_kept HB3.out hK4 (fun f => f))
      have hsz : (⟨(bytesB a).toArray⟩ : ByteArray).size = (bytesB a).length := bytes_size _
      clear hv4 hK4 HA3 HB3 HKw3
      go_wp2_with fail
      refine HSx.out.mono ?_
      clear HSx
      rintro r w6 ⟨rfl, hK6⟩
      have HKw6 := hide (tr HKw5.out hK6)
      have hA6 := blk_kept hA5 hK6 (fun f => f)
      have hB6 := blk_kept hB5 hK6 (fun f => f)
      have hz6 : w.heap.size < w6.heap.size := (Array.getElem?_eq_some_iff.1 hA6).1
      have hz6b : w.heap.size + 1 < w6.heap.size := (Array.getElem?_eq_some_iff.1 hB6).1
      clear hA5 hB5 hX5 m0 m1 n0 n1 hK6 HKw5 HV5
      obtain ⟨m0, m1⟩ := blk2 hA6
      obtain ⟨n0, n1⟩ := blk2 hB6
      by_cases hd : checkBa b = 0
      · have hd' : (checkBa b == 0) = true := by simp [hd]
        have htb := HTb.out hd
        subst htb
        have hszb : (⟨(bytesB b).toArray⟩ : ByteArray).size = (bytesB b).length := bytes_size _
        by_cases hle : (bytesB a).length ≤ (bytesB b).length
        · by_cases heq : (bytesB b).take (bytesB a).length = bytesB a
          · have hab : a = b := bytes_apart HC.out hd ((bytesB b).drop (bytesB a).length) (by
              conv => lhs; rw [← List.take_append_drop (bytesB a).length (bytesB b)]
              rw [heq])
            subst hab
            have HSy := hide (sameTwo w6 a.number a.events _ _ _ _ (HA.out.same HKw6.out) (HB.out.same HKw6.out))
            have hxt : ((⟨(bytesB a).toArray⟩ : ByteArray).extract 0 (bytesB a).length).toList = bytesB a := by rw [ByteArray.toList_eq, bytes_extract]; simp
            clear heq hd
            go_wp2_with fail
            refine HSy.out.mono ?_
            clear HSy
            rintro r w7 ⟨rfl, hK7⟩
            go_wp2_with fail
            go_meet
            case rel => exact tr HKw6.out hK7
          · have hxt : ¬ ((⟨(bytesB b).toArray⟩ : ByteArray).extract 0 (bytesB a).length).toList = bytesB a := by rw [ByteArray.toList_eq, bytes_extract]; simpa using heq
            clear heq hd
            go_wp2_with fail
            go_meet
            case rel => exact HKw6.out
        · clear hd
          go_wp2_with fail
          go_meet
          case rel => exact HKw6.out
      · have hd' : (checkBa b == 0) = false := by simp [hd]
        clear hd
        go_wp2_with fail
        go_meet
        case rel => exact HKw6.out
  case rest =>
  have HKC : Hid (Same w wc) := hcut
  clear hcut HKw3 HA3 HB3 HTa HTb
  cases hr : decodeB l with
  | error no =>
    have HR := hide (fun wx => decode_no wx l no hr)
    clear hr
    go_wp2_with fail
    refine (HR.out _).mono ?_
    rintro r w5 ⟨rfl, hK5, hn⟩
    have hn' : (no != 0) = true := by simp [hn]
    clear hn
    go_wp2_with fail
    go_ret
    exact ⟨rfl, (tr HKC.out hK5).alloc _⟩
  | ok y =>
    obtain ⟨x, n⟩ := y
    have HR := hide (fun wx => decode_ok wx l x n hr)
    obtain ⟨hc, hn, ht, _⟩ := decode_inv hr
    have HX := hide (show (⟨l.toArray⟩ : ByteArray).extract 0 n = ⟨(bytesB x).toArray⟩ by rw [bytes_extract, ht]; simp)
    have hxt : (⟨(bytesB x).toArray⟩ : ByteArray).toList = ((⟨l.toArray⟩ : ByteArray).extract 0 n).toList := by rw [HX.out]
    have HC := hide hc
    clear hr ht hc
    go_wp2_with fail
    refine (HR.out _).mono ?_
    clear HR
    rintro r w5 ⟨a5, c5, rfl, hv5, hK5⟩
    have HKw6 : Hid (Same w (w5.alloc (.cells #[.int .i64 x.number, .slice a5 x.events.length c5] 24))) := (tr HKC.out hK5).alloc _
    have HEn := hide (fun wx hK => encode_any _ wx x _ (hv5.same hK))
    clear hv5 hK5
    go_wp2_with fail
    refine (HEn.out _ (by repeat' (first | assumption | exact Kept.refl _ _ | refine Kept.drewN ?_ _ | refine Kept.drew ?_ | refine Kept.alloc ?_ _ | refine Kept.setB ?_ _ _))).mono ?_
    clear HEn
    rintro r w7 (⟨_, rfl, hK7⟩ | ⟨hx, _⟩)
    rotate_left
    · exact absurd HC.out hx
    go_wp2_with fail
    go_ret
    refine ⟨ret_bool ?_, tr HKw6.out hK7⟩
    simp

end Go.Proofs.Ytkkjchfhgjfclaf
