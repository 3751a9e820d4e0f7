import Derived.Test.YtillhpepfpldcaaBatchtells08
import Derived.Test.YtillhpepfpldcaaBatchtells10
import Derived.Deep.RegionHeld3
import Derived.Test.YtillhpepfpldcaaBatchtells03
import Derived.Deep.Strs
import Derived.Carry
import Derived.Lib.SmallJoins
import Derived.Test.YtillhpepfpldcaaBatchtells02
import Derived.Test.YtillhpepfpldcaaBatchtells05
import Derived.Laws.BitsLemmas
/- The laws' own batch, and what must be in any case. -/
namespace Go.Proofs.Ytillhpepfpldcaa
open Go.RowKit

def lotE : List EventT := [⟨1, 1, 3, 0, 0, []⟩, ⟨4, 0, 3, 1, 0, [120, 121]⟩]
def lotB : BatchT := ⟨258, lotE⟩
theorem lot_ok : checkBa lotB = 0 := by decide
theorem lot_bytes : bytesB lotB = [0, 15, 1, 2, 2, 1, 1, 0, 3, 4, 0, 0, 3, 1, 2, 120, 121] := by decide
theorem lot_back : decodeB [0, 15, 1, 2, 2, 1, 1, 0, 3, 4, 0, 0, 3, 1, 2, 120, 121, 122] = .ok (lotB, 17) := by
  have h := decode_of lot_ok [122]
  rw [lot_bytes] at h
  exact h
theorem short_none : decodeB [0, 15, 1] = .error 5 := by kernel_rfl

theorem lot_any (w : World) :
    Calls Try.prog 41 #[] w fun r w' => ∃ g, r = .returned (baV 258 (.slice (some ⟨g, 0, none⟩) 2 2)) ∧ EvSl (w.heap.size ≤ ·) w' (.slice (some ⟨g, 0, none⟩) 2 2) lotE ∧ Same w w' := by
  go_enter Try.func41, Try.ntmps41
  go_wp2_with fail
  have h1 := heap_alloc_new (w.alloc (.cells #[.int .i64 258, .slice (some ⟨w.heap.size + 1, 0, none⟩) 2 2] 24)) (.cells (evCells lotE).toArray 66)
  rw [World.size_alloc] at h1
  refine bodyPost_ret (v := baV 258 (.slice (some ⟨w.heap.size + 1, 0, none⟩) 2 2)) (by simp [results, Try.results41, go_sem]) rfl ⟨_, rfl, ?_, (by repeat' (first | assumption | exact Kept.refl _ _ | refine Kept.drewN ?_ _ | refine Kept.drew ?_ | refine Kept.alloc ?_ _ | refine Kept.setB ?_ _ _))⟩
  refine ⟨some ⟨w.heap.size + 1, 0, none⟩, 2, rfl, ⟨by unfold maxLen; simp [lotE], by simp [lotE]⟩, fun i e he => ⟨w.heap.size + 1, 0, rfl, by omega, ?_⟩⟩
  refine ev_row (l := lotE) (fun j u hj => ?_) i e he
  show World.cell? _ _ = some u
  rw [Nat.zero_add]
  have h2 : (evCells lotE).toArray[j]? = some u := by simpa using hj
  unfold World.cell?
  rw [show ((w.alloc (.cells #[.int .i64 258, .slice (some ⟨w.heap.size + 1, 0, none⟩) 2 2] 24)).alloc (.cells #[.int .i64 1, .int .i64 1, .int .i64 3, .int .i64 0, .int .i64 0, .string ⟨#[]⟩, .int .i64 4, .int .i64 0, .int .i64 3, .int .i64 1, .int .i64 0, .string ⟨#[120, 121]⟩] 66)).heap[w.heap.size + 1]? = _ from h1]
  exact h2

/-- two slices of one batch each, the same one -/
theorem sameLots (wx : World) (g h : Nat) (b : BatchT) (v v' : Value) (h1 : wx.heap[g]? = some (.cells #[.int .i64 b.number, v] 24 (0, 0))) (h2 : wx.heap[h]? = some (.cells #[.int .i64 b.number, v'] 24 (0, 0)))
    (e1 : EvSl (fun _ => True) wx v b.events) (e2 : EvSl (fun _ => True) wx v' b.events) :
    Calls Try.prog 15 #[.slice (some ⟨g, 0, none⟩) 1 1, .slice (some ⟨h, 0, none⟩) 1 1] wx fun e w' => e = .returned (.bool true) ∧ ∃ n, w' = wx.drewN n := by
  have := sameBatches_any (fun _ => True) (fun _ => True) wx _ _ [b] [b] (BaSl.one (b := b) h1 trivial e1) (BaSl.one (b := b) h2 trivial e2)
  rw [decide_eq_true rfl] at this
  exact this

theorem al_old (w : World) (o o' : Obj) : ((w.alloc o).alloc o').heap[w.heap.size]? = some o := by
  rw [Below.heap_alloc _ _ _ (by simp)]; exact heap_alloc_new w o
theorem al_new (w : World) (o o' : Obj) : ((w.alloc o).alloc o').heap[w.heap.size + 1]? = some o' := by
  have := heap_alloc_new (w.alloc o) o'
  rw [World.size_alloc] at this
  exact this
theorem al_far {wa w : World} {o : Obj} (o' : Obj) (hK : Same (wa.alloc o) w) : (w.alloc o').heap[wa.heap.size]? = some o := by
  have hg1 := new_kept (X := fun _ => False) hK (fun f => f)
  exact (Below.heap_alloc w o' _ (Array.getElem?_eq_some_iff.1 hg1).1).trans hg1

set_option maxRecDepth 20000 in
set_option maxHeartbeats 3200000 in
theorem batchBegun_any (w : World) :
    Calls Try.prog 13 #[] w fun r w' => r = .returned (.bool true) ∧ Same w w' := by
  have trs : ∀ {a b c : World}, Same a b → Same b c → Same a c := fun h k => h.trans k (fun _ _ f => f)
  go_enter Try.func13, Try.ntmps13
  go_wp2_with fail
  refine (lot_any _).mono ?_
  rintro r w1 ⟨g1, rfl, hv1, hK1⟩
  have HEn := hide ((encode_any _ w1 lotB _ hv1).mono (R' := fun r w' => r = .returned (.tuple #[.string ⟨#[0, 15, 1, 2, 2, 1, 1, 0, 3, 4, 0, 0, 3, 1, 2, 120, 121]⟩, .int .i64 0]) ∧ Same w1 w') (by
    rintro r w' (⟨_, rfl, hK⟩ | ⟨hc, _⟩)
    · rw [lot_bytes]; exact ⟨rfl, hK⟩
    · exact absurd lot_ok hc))
  clear hv1
  go_wp2_with fail
  refine HEn.out.mono ?_
  clear HEn
  rintro r w2 ⟨rfl, hK2⟩
  have HDe := hide ((decode_any w2 [0, 15, 1, 2, 2, 1, 1, 0, 3, 4, 0, 0, 3, 1, 2, 120, 121, 122]).mono (R' := fun r w' => ∃ v, r = .returned (.tuple #[baV 258 v, .int .i64 17, .int .i64 0]) ∧ EvSl (w2.heap.size ≤ ·) w' v lotE ∧ Same w2 w') (by
    rintro r w' (⟨ba, v, n, h1, rfl, h2, h3⟩ | ⟨no, h1, _⟩)
    · rw [lot_back] at h1; cases h1; exact ⟨v, rfl, h2, h3⟩
    · rw [lot_back] at h1; cases h1))
  go_wp2_with fail
  refine HDe.out.mono ?_
  clear HDe
  rintro r w3 ⟨v3, rfl, hv3, hK3⟩
  obtain ⟨a3, c3, rfl⟩ := hv3.form
  have hg3 := heap_alloc_new w3 (.cells #[.int .i64 258, .slice a3 lotE.length c3] 24)
  have hv4 := hv3.same ((Kept.refl _ w3).alloc (.cells #[.int .i64 258, .slice a3 lotE.length c3] 24))
  have hK4 : Same w (w3.alloc (.cells #[.int .i64 258, .slice a3 lotE.length c3] 24)) := (trs (trs hK1 hK2) hK3).alloc _
  have HDe := hide (fun wx => (decode_any wx [0, 15, 1]).mono (R' := fun r w' => r = .returned (.tuple #[baV 0 (.slice none 0 0), .int .i64 0, .int .i64 5]) ∧ Same wx w') (by
    rintro r w' (⟨ba, v, n, h1, _⟩ | ⟨no, h1, _, rfl, h3⟩)
    · rw [short_none] at h1; cases h1
    · rw [short_none] at h1; cases h1; exact ⟨rfl, h3⟩))
  clear hK1 hK2 hK3 hv3
  go_wp2_with fail
  refine (HDe.out _).mono ?_
  clear HDe
  rintro r w5 ⟨rfl, hK5⟩
  have hg5 := blk_kept hg3 hK5 (fun f => f)
  have HV5 := hide (hv4.same hK5)
  have HK6 := hide (trs hK4 hK5)
  have hz5 : w3.heap.size < w5.heap.size := (Array.getElem?_eq_some_iff.1 hg5).1
  clear hg3 hv4 hK4 hK5
  have HCk := hide (fun wx v (hv : EvSl (fun _ => True) wx v lotE) => (checkBa_any _ lotB v wx hv).mono (R' := fun r w' => r = .returned (.int .i64 0) ∧ Same wx w') (fun r w' h => ⟨h.1.trans (by rw [lot_ok]), h.2⟩))
  have hKc : Same w5 w5 := Kept.refl _ _
  obtain ⟨p0, p1⟩ := blk2 hg5
  have HALL := hide (fun wy (hy : Same w5 wy) => (⟨hy.cell p0 (fun f => f), hy.cell p1 (fun f => f)⟩ : wy.cell? ⟨w3.heap.size, 0, none⟩ = _ ∧ wy.cell? ⟨w3.heap.size, 1, none⟩ = _))
  have hle : lotE.length = 2 := rfl
  go_wp2_with fail
  go_region_held3 (fun w' => w'.cell? ⟨w3.heap.size, 0, none⟩ = some (.int .i64 258) ∧ w'.cell? ⟨w3.heap.size, 1, none⟩ = some (.slice a3 2 c3)) (go_keep) (first
    | (go_at_call 41; refine (lot_any _).mono ?_; rintro e w9 ⟨g9, rfl, hv9, hKn⟩; have hKc := trs (by first | exact hKc.drewN _ | exact hKc.drew | exact hKc | exact (hKc.drewN _).alloc _ | exact hKc.alloc _) hKn; obtain ⟨p0, p1⟩ := HALL.out _ hKc)
    | (go_at_call 14; refine (HCk.out _ _ ((by exact hv9 : EvSl _ _ _ lotE).mono (fun _ _ _ => trivial))).mono ?_; rintro e w9 ⟨rfl, hKn⟩; have hKc := trs (by first | exact hKc.drewN _ | exact hKc.drew | exact hKc) hKn; obtain ⟨p0, p1⟩ := HALL.out _ hKc)
    | (go_at_call 15; refine (sameLots _ _ _ ⟨258, lotE⟩ _ _ (by first | exact al_far _ hKn | exact al_old _ _ _ | exact al_new _ _ _) (by first | exact heap_alloc_new _ _ | exact al_new _ _ _ | exact al_old _ _ _) (by first | exact ((HV5.out.same (hKc.alloc _)).mono (fun _ _ _ => trivial)) | exact ((HV5.out.same ((hKc.alloc _).alloc _)).mono (fun _ _ _ => trivial))) (by first | exact ((hv9.same ((Kept.refl _ _).alloc _)).mono (fun _ _ _ => trivial)) | exact ((hv9.same (((Kept.refl _ _).alloc _).alloc _)).mono (fun _ _ _ => trivial)))).mono ?_; rintro e w10 ⟨rfl, n10, hw10⟩; have hKd : Same w5 w10 := (by rw [hw10]; first | exact (hKc.alloc _).drewN _ | exact ((hKc.alloc _).alloc _).drewN _); clear hw10; obtain ⟨p0, p1⟩ := HALL.out _ hKd))
  all_goals
    go_wp2_with fail
    go_ret
    exact ⟨rfl, trs HK6.out hKd⟩

end Go.Proofs.Ytillhpepfpldcaa

/- Arguments that hold events: what the row's reading says of them. -/
namespace Go.Proofs.Ytillhpepfpldcaa
open Go.ChangeShapes Go.WideShapes Go.RowKit

def anyE (_ : Nat) : Prop := True

set_option maxRecDepth 20000 in
set_option maxHeartbeats 800000 in
theorem evs_trod {H : Type} {enc : TypeId × Value → H} {W : World} {fuel : Nat} {cs : List Value} {x : DataW H × List MemPlace} {sp : Nat → Bool} {held : Bool}
    (hf : DataW.trod enc Try.prog W 0 sp held fuel 22 cs = some x) : ∃ v l, cs = [v] ∧ EvSl anyE W v l := by
  have hcells : Try.prog.cellsOf 66 = 6 := by kernel_rfl
  have hint : Try.prog.cellsOf 3 = 1 := by kernel_rfl
  have hstr : Try.prog.cellsOf 9 = 1 := by kernel_rfl
  rcases Deep.open_slice Try.underlying22 hf with ⟨rfl, _⟩ | ⟨a, len, cap, m, n, D, Pl, rfl, hb, hl, hm, hmm, hx, hall⟩
  · exact ⟨_, [], rfl, EvSl.nil _ W⟩
  · have hlm : len ≤ m := by rw [hmm]; split <;> omega
    rw [hcells] at hall
    have each : ∀ i, i < len → ∃ t : EventT, W.cell? (a.add (i * 6)) = some (.int .i64 t.kind) ∧ W.cell? (a.add (i * 6 + 1)) = some (.int .i64 t.ty) ∧ W.cell? (a.add (i * 6 + 2)) = some (.int .i64 t.id) ∧
        W.cell? (a.add (i * 6 + 3)) = some (.int .i64 t.field) ∧ W.cell? (a.add (i * 6 + 4)) = some (.int .i64 t.n) ∧ W.cell? (a.add (i * 6 + 5)) = some (.string ⟨t.text.toArray⟩) := by
      intro i hi
      obtain ⟨cs', h1, h2⟩ := hall i (by omega)
      obtain ⟨_, hlen, hcell⟩ := World.cells?_some h1
      obtain ⟨xs, q, _, _, _, hxl, hfd⟩ := DataW.trod_struct Try.underlying66 h2
      match xs, hxl, cs', hlen with
      | [y0, y1, y2, y3, y4, y5], _, [v0, v1, v2, v3, v4, v5], _ =>
        have g0 := hfd 0 _ rfl
        have g1 := hfd 1 _ rfl
        have g2 := hfd 2 _ rfl
        have g3 := hfd 3 _ rfl
        have g4 := hfd 4 _ rfl
        have g5 := hfd 5 _ rfl
        simp [hint, hstr] at g0 g1 g2 g3 g4 g5
        obtain ⟨z0, e0, _, _⟩ := DataW.trod_int Try.underlying3 g0
        obtain ⟨z1, e1, _, _⟩ := DataW.trod_int Try.underlying3 g1
        obtain ⟨z2, e2, _, _⟩ := DataW.trod_int Try.underlying3 g2
        obtain ⟨z3, e3, _, _⟩ := DataW.trod_int Try.underlying3 g3
        obtain ⟨z4, e4, _, _⟩ := DataW.trod_int Try.underlying3 g4
        obtain ⟨z5, e5, _, _⟩ := DataW.trod_string Try.underlying9 g5
        simp only [List.cons.injEq, and_true] at e0 e1 e2 e3 e4 e5
        subst e0 e1 e2 e3 e4 e5
        have c0 := hcell 0 (by omega)
        have c1 := hcell 1 (by omega)
        have c2 := hcell 2 (by omega)
        have c3 := hcell 3 (by omega)
        have c4 := hcell 4 (by omega)
        have c5 := hcell 5 (by omega)
        rw [Deep.add_add] at c0 c1 c2 c3 c4 c5
        exact ⟨⟨z0, z1, z2, z3, z4, z5.data.toList⟩, by simpa using c0, by simpa using c1, by simpa using c2, by simpa using c3, by simpa using c4, by simpa using c5⟩
    have : Inhabited EventT := ⟨event0⟩
    obtain ⟨T, hT⟩ := Deep.choose_lt each
    have hlen : ((List.range len).map T).length = len := by simp
    refine ⟨_, (List.range len).map T, rfl, some a, cap, by rw [hlen], by rw [hlen]; exact ⟨by omega, hl⟩, ?_⟩
    intro i t ht
    obtain ⟨hi, ht⟩ := List.getElem?_eq_some_iff.1 ht
    rw [hlen] at hi
    simp only [List.getElem_map, List.getElem_range] at ht
    subst ht
    obtain ⟨c0, c1, c2, c3, c4, c5⟩ := hT i hi
    obtain ⟨b, off, spot⟩ := a
    have hspot : spot = none := by
      have := World.cell?_spot (hT 0 (by omega)).1
      simpa [Addr.add] using this
    subst hspot
    rw [addr_add] at c0 c1 c2 c3 c4 c5
    exact ⟨b, off, rfl, trivial, c0, by rw [Nat.add_assoc]; exact c1, by rw [Nat.add_assoc]; exact c2, by rw [Nat.add_assoc]; exact c3, by rw [Nat.add_assoc]; exact c4, by rw [Nat.add_assoc]; exact c5⟩

end Go.Proofs.Ytillhpepfpldcaa

/- The reference: numberBytes. -/
namespace Go.Proofs.Ytillhpepfpldcaa
open Go.RowKit

theorem bytes_app (x y : List UInt8) : (⟨x.toArray⟩ : ByteArray) ++ ⟨y.toArray⟩ = ⟨(x ++ y).toArray⟩ := by
  apply ByteArray.ext
  simp

theorem enters_nb (args : Array Value) (w : World) : (callFunc 39 args).run Try.prog w = .ok (.enter 39 args) w := by kernel_rfl
theorem far_cell {wa w : World} {x : Value} {t : TypeId} (hK : Same (wa.alloc (.cells #[x] t)) w) : w.cell? ⟨wa.heap.size, 0, none⟩ = some x := by
  have := new_kept (X := fun _ => False) hK (fun f => f)
  simp [World.cell?, this]
theorem far_cell2 {wa w : World} {x : Value} {t : TypeId} (hK : Same (wa.alloc (.cells #[x] t)).drew w) : w.cell? ⟨wa.heap.size, 0, none⟩ = some x := far_cell hK.unD

set_option maxHeartbeats 1600000 in
theorem numberBytes_any : ∀ (k n : Nat), k ≤ 4 → n < 4611686018427387904 → ∀ w : World,
    Calls Try.prog 39 #[.int .i64 n, .int .i64 k] w fun r w' => r = .returned (.string ⟨(beN k n).toArray⟩) ∧ Same w w' := by
  intro k
  induction k with
  | zero =>
    intro n _ _ w
    go_enter Try.func39, Try.ntmps39
    go_wp2_with fail
    go_ret
    exact ⟨rfl, Kept.refl _ _⟩
  | succ k ih =>
    intro n hk hn w
    obtain ⟨m, hm⟩ : ∃ m, m = n / 256 := ⟨_, rfl⟩
    have HI := hide (fun wx => ih m (by omega) (by omega) wx)
    clear ih
    obtain ⟨c, hc⟩ : ∃ c, c = UInt8.ofNat (n % 256) := ⟨_, rfl⟩
    have HB := hide (show beN (k + 1) n = beN k m ++ [c] by rw [beN, hc, hm])
    have hcn : (n : Int) % 256 = (c.toNat : Int) := by rw [hc, UInt8.toNat_ofNat']; omega
    have htm : (n : Int).tmod 256 = (c.toNat : Int) := by rw [Int.tmod_eq_emod_of_nonneg (by omega)]; exact hcn
    have hdv : (n : Int) / 256 = (m : Int) := by omega
    have hbl : (beN k m).length ≤ 4 := by rw [beN_len]; omega
    have hc256 := c.toNat_lt
    have hwm : IntKind.i64.wrap (m : Int) = m := by rw [IntKind.wrap_i64]; omega
    have hwk : IntKind.i64.wrap (k : Int) = k := by rw [IntKind.wrap_i64]; omega
    have hwc : IntKind.i64.wrap (c.toNat : Int) = c.toNat := by rw [IntKind.wrap_i64]; omega
    have hwu : IntKind.u8.wrap (c.toNat : Int) = c.toNat := by rw [IntKind.wrap_u8]; omega
    have hconv := fun X g => one_string X g c
    have hconv2 : ∀ X : World, (convert 56 9 (.slice (some ⟨X.heap.size, 0, none⟩) 1 1)).run Try.prog (X.alloc (.cells #[.int .u8 c.toNat] 5)) = .ok (.string ⟨#[c]⟩) (X.alloc (.cells #[.int .u8 c.toNat] 5)) := fun X => one_string _ _ c (by simp)
    have hconv3 : ∀ X : World, (convert 56 9 (.slice (some ⟨X.heap.size, 0, none⟩) 1 1)).run Try.prog (X.alloc (.cells #[.int .u8 c.toNat] 5)).drew = .ok (.string ⟨#[c]⟩) (X.alloc (.cells #[.int .u8 c.toNat] 5)).drew := fun X => one_string _ _ c (by simp)
    clear hc hm
    generalize beN k m = B at *
    have hadd : ¬ 9223372036854775807 < B.length + 1 := by omega
    go_enter Try.func39, Try.ntmps39
    go_wp2_with fail
    go_region_law (refine step_call rfl 39 _ _ rfl #[.int .i64 m, .int .i64 k] (by simp [Act.eval, Act.put]) (enters_nb _) (HI.out _) ?_; rintro e w9 ⟨rfl, hK9⟩; refine ⟨_, rfl, ?_⟩; first | (have hcc := far_cell2 hK9) | (have hcc := far_cell hK9) | skip; try rw [htm, hwu] at hcc)
    all_goals
      go_wp2_with fail
      go_ret
      refine ⟨ret_str (by rw [HB.out]; exact bytes_app B [c]), ?_⟩
      first
        | exact hK9.unD.alloc _
        | exact hK9.unD.unA
        | exact hK9.unA.unD
        | exact (hK9.unD.alloc _).drew
        | exact hK9.unD.unA.drew

end Go.Proofs.Ytillhpepfpldcaa
