/- The laws' own batch, and what must be in any case. -/
import Derived.Test.YtillhpepfpldcaaDisktells10
import Derived.Test.YtillhpepfpldcaaDisktells12
import Derived.Deep.RegionHeld3
namespace Go.Proofs.Ytillhpepfpldcaa
open Go.RowKit

def lotE : List EventT := [⟨1, 1, 3, 0, 0, []⟩, ⟨4, 0, 3, 1, 0, [120, 121]⟩]
def lotB : BatchT := ⟨258, lotE⟩
theorem lot_ok : checkBa lotB = 0 := by decide
theorem lot_bytes : bytesB lotB = [0, 15, 1, 2, 2, 1, 1, 0, 3, 4, 0, 0, 3, 1, 2, 120, 121] := by decide
theorem lot_back : decodeB [0, 15, 1, 2, 2, 1, 1, 0, 3, 4, 0, 0, 3, 1, 2, 120, 121, 122] = .ok (lotB, 17) := by
  have h := decode_of lot_ok [122]
  rw [lot_bytes] at h
  exact h
theorem short_none : decodeB [0, 15, 1] = .error 5 := by kernel_rfl

theorem lot_any (w : World) :
    Calls Try.prog 41 #[] w fun r w' => ∃ g, r = .returned (baV 258 (.slice (some ⟨g, 0, none⟩) 2 2)) ∧ EvSl (w.heap.size ≤ ·) w' (.slice (some ⟨g, 0, none⟩) 2 2) lotE ∧ Same w w' := by
  go_enter Try.func41, Try.ntmps41
  go_wp2_with fail
  have h1 := heap_alloc_new (w.alloc (.cells #[.int .i64 258, .slice (some ⟨w.heap.size + 1, 0, none⟩) 2 2] 24)) (.cells (evCells lotE).toArray 66)
  rw [World.size_alloc] at h1
  refine bodyPost_ret (v := baV 258 (.slice (some ⟨w.heap.size + 1, 0, none⟩) 2 2)) (by simp [results, Try.results41, go_sem]) rfl ⟨_, rfl, ?_, (by repeat' (first | assumption | exact Kept.refl _ _ | refine Kept.drewN ?_ _ | refine Kept.drew ?_ | refine Kept.alloc ?_ _ | refine Kept.setB ?_ _ _))⟩
  refine ⟨some ⟨w.heap.size + 1, 0, none⟩, 2, rfl, ⟨by unfold maxLen; simp [lotE], by simp [lotE]⟩, fun i e he => ⟨w.heap.size + 1, 0, rfl, by omega, ?_⟩⟩
  refine ev_row (l := lotE) (fun j u hj => ?_) i e he
  show World.cell? _ _ = some u
  rw [Nat.zero_add]
  have h2 : (evCells lotE).toArray[j]? = some u := by simpa using hj
  unfold World.cell?
  rw [show ((w.alloc (.cells #[.int .i64 258, .slice (some ⟨w.heap.size + 1, 0, none⟩) 2 2] 24)).alloc (.cells #[.int .i64 1, .int .i64 1, .int .i64 3, .int .i64 0, .int .i64 0, .string ⟨#[]⟩, .int .i64 4, .int .i64 0, .int .i64 3, .int .i64 1, .int .i64 0, .string ⟨#[120, 121]⟩] 66)).heap[w.heap.size + 1]? = _ from h1]
  exact h2

/-- two slices of one batch each, the same one -/
theorem sameLots (wx : World) (g h : Nat) (b : BatchT) (v v' : Value) (h1 : wx.heap[g]? = some (.cells #[.int .i64 b.number, v] 24 (0, 0))) (h2 : wx.heap[h]? = some (.cells #[.int .i64 b.number, v'] 24 (0, 0)))
    (e1 : EvSl (fun _ => True) wx v b.events) (e2 : EvSl (fun _ => True) wx v' b.events) :
    Calls Try.prog 15 #[.slice (some ⟨g, 0, none⟩) 1 1, .slice (some ⟨h, 0, none⟩) 1 1] wx fun e w' => e = .returned (.bool true) ∧ ∃ n, w' = wx.drewN n := by
  have := sameBatches_any (fun _ => True) (fun _ => True) wx _ _ [b] [b] (BaSl.one (b := b) h1 trivial e1) (BaSl.one (b := b) h2 trivial e2)
  rw [decide_eq_true rfl] at this
  exact this

theorem al_old (w : World) (o o' : Obj) : ((w.alloc o).alloc o').heap[w.heap.size]? = some o := by
  rw [Below.heap_alloc _ _ _ (by simp)]; exact heap_alloc_new w o
theorem al_new (w : World) (o o' : Obj) : ((w.alloc o).alloc o').heap[w.heap.size + 1]? = some o' := by
  have := heap_alloc_new (w.alloc o) o'
  rw [World.size_alloc] at this
  exact this
theorem al_far {wa w : World} {o : Obj} (o' : Obj) (hK : Same (wa.alloc o) w) : (w.alloc o').heap[wa.heap.size]? = some o := by
  have hg1 := new_kept (X := fun _ => False) hK (fun f => f)
  exact (Below.heap_alloc w o' _ (Array.getElem?_eq_some_iff.1 hg1).1).trans hg1

set_option maxRecDepth 20000 in
set_option maxHeartbeats 3200000 in
theorem batchBegun_any (w : World) :
    Calls Try.prog 13 #[] w fun r w' => r = .returned (.bool true) ∧ Same w w' := by
  have trs : ∀ {a b c : World}, Same a b → Same b c → Same a c := fun h k => h.trans k (fun _ _ f => f)
  go_enter Try.func13, Try.ntmps13
  go_wp2_with fail
  refine (lot_any _).mono ?_
  rintro r w1 ⟨g1, rfl, hv1, hK1⟩
  have HEn := hide ((encode_any _ w1 lotB _ hv1).mono (R' := fun r w' => r = .returned (.tuple #[.string ⟨#[0, 15, 1, 2, 2, 1, 1, 0, 3, 4, 0, 0, 3, 1, 2, 120, 121]⟩, .int .i64 0]) ∧ Same w1 w') (by
    rintro r w' (⟨_, rfl, hK⟩ | ⟨hc, _⟩)
    · rw [lot_bytes]; exact ⟨rfl, hK⟩
    · exact absurd lot_ok hc))
  clear hv1
  go_wp2_with fail
  refine HEn.out.mono ?_
  clear HEn
  rintro r w2 ⟨rfl, hK2⟩
  have HDe := hide ((decode_any w2 [0, 15, 1, 2, 2, 1, 1, 0, 3, 4, 0, 0, 3, 1, 2, 120, 121, 122]).mono (R' := fun r w' => ∃ v, r = .returned (.tuple #[baV 258 v, .int .i64 17, .int .i64 0]) ∧ EvSl (w2.heap.size ≤ ·) w' v lotE ∧ Same w2 w') (by
    rintro r w' (⟨ba, v, n, h1, rfl, h2, h3⟩ | ⟨no, h1, _⟩)
    · rw [lot_back] at h1; cases h1; exact ⟨v, rfl, h2, h3⟩
    · rw [lot_back] at h1; cases h1))
  go_wp2_with fail
  refine HDe.out.mono ?_
  clear HDe
  rintro r w3 ⟨v3, rfl, hv3, hK3⟩
  obtain ⟨a3, c3, rfl⟩ := hv3.form
  have hg3 := heap_alloc_new w3 (.cells #[.int .i64 258, .slice a3 lotE.length c3] 24)
  have hv4 := hv3.same ((Kept.refl _ w3).alloc (.cells #[.int .i64 258, .slice a3 lotE.length c3] 24))
  have hK4 : Same w (w3.alloc (.cells #[.int .i64 258, .slice a3 lotE.length c3] 24)) := (trs (trs hK1 hK2) hK3).alloc _
  have HDe := hide (fun wx => (decode_any wx [0, 15, 1]).mono (R' := fun r w' => r = .returned (.tuple #[baV 0 (.slice none 0 0), .int .i64 0, .int .i64 5]) ∧ Same wx w') (by
    rintro r w' (⟨ba, v, n, h1, _⟩ | ⟨no, h1, _, rfl, h3⟩)
    · rw [short_none] at h1; cases h1
    · rw [short_none] at h1; cases h1; exact ⟨rfl, h3⟩))
  clear hK1 hK2 hK3 hv3
  go_wp2_with fail
  refine (HDe.out _).mono ?_
  clear HDe
  rintro r w5 ⟨rfl, hK5⟩
  have hg5 := blk_kept hg3 hK5 (fun f => f)
  have HV5 := hide (hv4.same hK5)
  have HK6 := hide (trs hK4 hK5)
  have hz5 : w3.heap.size < w5.heap.size := (Array.getElem?_eq_some_iff.1 hg5).1
  clear hg3 hv4 hK4 hK5
  have HCk := hide (fun wx v (hv : EvSl (fun _ => True) wx v lotE) => (checkBa_any _ lotB v wx hv).mono (R' := fun r w' => r = .returned (.int .i64 0) ∧ Same wx w') (fun r w' h => ⟨h.1.trans (by rw [lot_ok]), h.2⟩))
  have hKc : Same w5 w5 := Kept.refl _ _
  obtain ⟨p0, p1⟩ := blk2 hg5
  have HALL := hide (fun wy (hy : Same w5 wy) => (⟨hy.cell p0 (fun f => f), hy.cell p1 (fun f => f)⟩ : wy.cell? ⟨w3.heap.size, 0, none⟩ = _ ∧ wy.cell? ⟨w3.heap.size, 1, none⟩ = _))
  have hle : lotE.length = 2 := rfl
  go_wp2_with fail
  go_region_held3 (fun w' => w'.cell? ⟨w3.heap.size, 0, none⟩ = some (.int .i64 258) ∧ w'.cell? ⟨w3.heap.size, 1, none⟩ = some (.slice a3 2 c3)) (go_keep) (first
    | (go_at_call 41; refine (lot_any _).mono ?_; rintro e w9 ⟨g9, rfl, hv9, hKn⟩; have hKc := trs (by first | exact hKc.drewN _ | exact hKc.drew | exact hKc | exact (hKc.drewN _).alloc _ | exact hKc.alloc _) hKn; obtain ⟨p0, p1⟩ := HALL.out _ hKc)
    | (go_at_call 14; refine (HCk.out _ _ ((by exact hv9 : EvSl _ _ _ lotE).mono (fun _ _ _ => trivial))).mono ?_; rintro e w9 ⟨rfl, hKn⟩; have hKc := trs (by first | exact hKc.drewN _ | exact hKc.drew | exact hKc) hKn; obtain ⟨p0, p1⟩ := HALL.out _ hKc)
    | (go_at_call 15; refine (sameLots _ _ _ ⟨258, lotE⟩ _ _ (by first | exact al_far _ hKn | exact al_old _ _ _ | exact al_new _ _ _) (by first | exact heap_alloc_new _ _ | exact al_new _ _ _ | exact al_old _ _ _) (by first | exact ((HV5.out.same (hKc.alloc _)).mono (fun _ _ _ => trivial)) | exact ((HV5.out.same ((hKc.alloc _).alloc _)).mono (fun _ _ _ => trivial))) (by first | exact ((hv9.same ((Kept.refl _ _).alloc _)).mono (fun _ _ _ => trivial)) | exact ((hv9.same (((Kept.refl _ _).alloc _).alloc _)).mono (fun _ _ _ => trivial)))).mono ?_; rintro e w10 ⟨rfl, n10, hw10⟩; have hKd : Same w5 w10 := (by rw [hw10]; first | exact (hKc.alloc _).drewN _ | exact ((hKc.alloc _).alloc _).drewN _); clear hw10; obtain ⟨p0, p1⟩ := HALL.out _ hKd))
  all_goals
    go_wp2_with fail
    go_ret
    exact ⟨rfl, trs HK6.out hKd⟩

end Go.Proofs.Ytillhpepfpldcaa
