/- state.undrop: its walk. -/
import Derived.Test.YtidodjbmlbjchaaGreatHistorystaysupto41
namespace Go.Proofs.YtidodjbmlbjchaaGreat
open Go.RowKit

abbrev ev0 : EventT := ⟨0, 0, 0, 0, 0, []⟩

theorem cells6e {w : World} {g : Nat} {a0 a1 a2 a3 a4 a5 : Value} {t : TypeId} (h : w.heap[g]? = some (.cells #[a0, a1, a2, a3, a4, a5] t (0, 0))) :
    w.cell? ⟨g, 0, none⟩ = some a0 ∧ w.cell? ⟨g, 1, none⟩ = some a1 ∧ w.cell? ⟨g, 2, none⟩ = some a2 ∧ w.cell? ⟨g, 3, none⟩ = some a3 ∧ w.cell? ⟨g, 4, none⟩ = some a4 ∧ w.cell? ⟨g, 5, none⟩ = some a5 ∧ ∀ o, w.frozen? ⟨g, o, none⟩ = false := by
  simp [World.cell?, World.frozen?, h]
theorem put6e {w : World} {g : Nat} {a0 a1 a2 a3 a4 a5 : Value} {t : TypeId} (h : w.heap[g]? = some (.cells #[a0, a1, a2, a3, a4, a5] t (0, 0))) (b0 b1 b2 b3 b4 b5 : Value) :
    ((((((w.setCell ⟨g, 0, none⟩ b0).setCell ⟨g, 1, none⟩ b1).setCell ⟨g, 2, none⟩ b2).setCell ⟨g, 3, none⟩ b3).setCell ⟨g, 4, none⟩ b4).setCell ⟨g, 5, none⟩ b5).heap[g]? = some (.cells #[b0, b1, b2, b3, b4, b5] t (0, 0)) ∧
    Kept (· = g) w ((((((w.setCell ⟨g, 0, none⟩ b0).setCell ⟨g, 1, none⟩ b1).setCell ⟨g, 2, none⟩ b2).setCell ⟨g, 3, none⟩ b3).setCell ⟨g, 4, none⟩ b4).setCell ⟨g, 5, none⟩ b5) :=
  ⟨by simp [World.setCell, Array.getElem?_modify, h], ((((((Kept.refl (· = g) w).setB 0 b0).setB 1 b1).setB 2 b2).setB 3 b3).setB 4 b4).setB 5 b5⟩

/-- what undrop and Undo answer -/
def unA (w w' : World) (r : Ending) (x : Except Int EventT) : Prop :=
  Same w w' ∧ match x with
  | .error m => r = .returned (.tuple #[evV ev0, .int .i64 m])
  | .ok u => r = .returned (.tuple #[evV u, .int .i64 0])

def undropE (types : List TypeT) (t : ThingT) : Except Int EventT := if eachC firstC (fieldsOf types t.ty) t.cells ≠ 0 then .error 4 else .ok ⟨1, t.ty, t.id, 0, 0, []⟩

theorem cell_lt {w : World} {p : Addr} {v : Value} (h : w.cell? p = some v) : p.block < w.heap.size := by
  rcases Nat.lt_or_ge p.block w.heap.size with h1 | h1
  · exact h1
  · simp [World.cell?, Array.getElem?_eq_none h1] at h

theorem eachC_first : ∀ {fs : List FieldT} {cs : List CellT}, eachC firstC fs cs ≠ 0 → eachC firstC fs cs = 4
  | f :: fs, c :: cs, h => by
    unfold eachC at h ⊢
    by_cases h0 : firstC f c ≠ 0
    · rw [if_pos h0]
      unfold firstC at h0 ⊢
      split
      · rfl
      · rename_i h1; rw [if_neg h1] at h0; exact absurd rfl h0
    · rw [if_neg h0] at h ⊢
      exact eachC_first h
  | [], _, h => absurd (by unfold eachC; rfl) h
  | _ :: _, [], h => absurd (by unfold eachC; rfl) h

set_option maxRecDepth 20000 in
set_option maxHeartbeats 1600000 in
theorem undrop_any (w : World) (vt vh : Value) (types : List TypeT) (l : List ThingT) (i : Nat) (ht : TypSl anyB w vt types) (hh : ThgSl anyB w vh l) (hi : i < l.length) (hi8 : l.length ≤ 1000) (hfit : fitTh types l[i]) :
    Calls Tryz.prog 29 #[stV vt vh, .int .i64 i] w fun r w' => unA w w' r (undropE types l[i]) := by
  obtain ⟨at', ct, rfl, _, _⟩ := id ht
  obtain ⟨ah, ch, rfl, ⟨_, hcap⟩, _⟩ := id hh
  obtain ⟨b, off, ac, nc, cc, rfl, _, t0, t1, hu2, hu3, hu4⟩ := hh.at i hi
  obtain ⟨W, hW⟩ : ∃ W, W = (w.alloc (.cells #[.slice at' types.length ct, .slice (some ⟨b, off, none⟩) l.length ch] 25)).alloc (.cells #[.int .i64 0, .int .i64 0, .int .i64 0, .int .i64 0, .int .i64 0, .string ⟨#[]⟩] 27) := ⟨_, rfl⟩
  obtain ⟨gs, hgs⟩ : ∃ g, g = w.heap.size := ⟨_, rfl⟩
  obtain ⟨gr, hgr⟩ : ∃ g, g = w.heap.size + 1 := ⟨_, rfl⟩
  have HKW := hide (show Same w W by rw [hW]; exact ((Kept.refl _ w).alloc _).alloc _)
  have hGS : W.heap[gs]? = some (.cells #[.slice at' types.length ct, .slice (some ⟨b, off, none⟩) l.length ch] 25 (0, 0)) := by rw [hW, hgs]; exact al_o _ _ _
  have HGR := hide (show W.heap[gr]? = some (.cells #[.int .i64 0, .int .i64 0, .int .i64 0, .int .i64 0, .int .i64 0, .string ⟨#[]⟩] 27 (0, 0)) by rw [hW, hgr]; exact al_n _ _ _)
  have hbw : b < w.heap.size := cell_lt t0
  have HLT := hide (show w.heap.size ≤ gr by omega)
  have HNE := hide (show gr ≠ gs ∧ gs ≠ gr ∧ gr ≠ b ∧ b ≠ gr by omega)
  obtain ⟨c0, c1⟩ := blk2' hGS
  have HALL := hide (fun wy (hy : Same W wy) => (⟨hy.cell c0 (fun f => f), hy.cell c1 (fun f => f), (tra HKW.out hy).cell t0 (fun f => f), (tra HKW.out hy).cell t1 (fun f => f)⟩ : wy.cell? ⟨gs, 0, none⟩ = _ ∧ wy.cell? ⟨gs, 1, none⟩ = _ ∧ wy.cell? ⟨b, off + i * 3, none⟩ = _ ∧ wy.cell? ⟨b, off + i * 3 + 1, none⟩ = _))
  have HEC := hide (fun wy (hy : Same W wy) => eachCell_any wy _ _ types [l[i]] 63 #[] firstC (by intro args w; kernel_rfl) (ht.same (tra HKW.out hy)) ((hh.one i hi (ch - i) (by omega)).same (tra HKW.out hy)) (fun u hu => by simp at hu; subst hu; exact hfit) (undropAsk_any wy))
  obtain ⟨i1, hi1⟩ : ∃ i1, i1 = i + 1 := ⟨_, rfl⟩
  have hwr : IntKind.i64.wrap ((i : Int) + 1) = (i1 : Int) := by rw [IntKind.wrap_i64]; omega
  have hj0 : (0 : Int) ≤ (i1 : Int) := by omega
  have hj1 : (i1 : Int) ≤ (ch : Int) := by omega
  have hj2 : (i : Int) ≤ (i1 : Int) := by omega
  have hj3 : (i : Int) < (l.length : Int) := by omega
  have hj4 : i1 - i = 1 := by omega
  have hj5 : ¬ ch = i := by omega
  have HU := hide (show undropE types l[i] = if eachC firstC (fieldsOf types l[i].ty) l[i].cells ≠ 0 then .error 4 else .ok ⟨1, l[i].ty, l[i].id, 0, 0, []⟩ from rfl)
  have H4 := hide (fun (h : eachC firstC (fieldsOf types l[i].ty) l[i].cells ≠ 0) => eachC_first h)
  obtain ⟨x, hx⟩ : ∃ x, undropE types l[i] = x := ⟨_, rfl⟩
  obtain ⟨m, hm⟩ : ∃ m, eachC firstC (fieldsOf types l[i].ty) l[i].cells = m := ⟨_, rfl⟩
  rw [eachT_one] at HEC
  rw [hm] at HEC HU H4
  rw [hx] at HU ⊢
  obtain ⟨t, het⟩ : ∃ t, l[i] = t := ⟨_, rfl⟩
  rw [het] at HU HALL
  clear hbw hx hm het hfit ht hh t0 t1 hGS hcap c0 c1 hu2 hu3 hu4
  go_enter Tryz.func29, Tryz.ntmps29
  go_upto_region 1 with fail
  rw [← hW, ← hgr, ← hgs]
  clear hW hgr hgs hi1 hi8
  obtain ⟨c0, c1, t0, t1⟩ := HALL.out W (Kept.refl _ _)
  go_region_held3 (fun w' => w'.cell? ⟨gs, 0, none⟩ = some (.slice at' types.length ct) ∧ w'.cell? ⟨gs, 1, none⟩ = some (.slice (some ⟨b, off, none⟩) l.length ch)) (go_keep)
    ((go_at_call 62; refine (HEC.out _ (by exact (by repeat' (first | assumption | exact Kept.refl _ _ | refine Kept.drewN ?_ _ | refine Kept.drew ?_ | refine Kept.alloc ?_ _ | refine Kept.setB ?_ _ _)))).mono ?_; rintro r9 w3 ⟨rfl, hK3⟩; have u0 := hK3.cell (p := ⟨gs, 0, none⟩) (by exact c0) (fun f => f); have u1 := hK3.cell (p := ⟨gs, 1, none⟩) (by exact c1) (fun f => f)))
  have HK3 := hide (show Same W w3 from hK3.unD)
  have hR := blk_kept HGR.out HK3.out (fun f => f)
  have HR3 := hide hR
  obtain ⟨p0, p1, p2, p3, p4, p5, pf⟩ := cells6e hR
  clear hK3 u0 u1 c0 c1 t0 t1 hR
  by_cases h1 : m = 0
  rotate_left
  · obtain ⟨q, hKg⟩ := put6e HR3.out (.int .i64 0) (.int .i64 0) (.int .i64 0) (.int .i64 0) (.int .i64 0) (.string ⟨#[]⟩)
    obtain ⟨q0, q1, q2, q3, q4, q5, _⟩ := cells6e q
    have hqb : (m != 0) = true := by simp [h1]
    have hlt := HLT.out
    have HF := hide (show unA w _ (.returned (.tuple #[evV ev0, .int .i64 m])) x from ⟨(tra HKW.out HK3.out).trans hKg (fun i hi e => by omega), by rw [HU.out, if_pos h1]; rw [H4.out h1]⟩)
    clear h1 hKg q hlt
    go_wp2_with fail
    exact bodyPost_ret (v := .tuple #[evV ev0, .int .i64 m]) (by simp [results, Tryz.results29, go_sem, q0, q1, q2, q3, q4, q5]) rfl HF.out
  obtain ⟨q, hKg⟩ := put6e HR3.out (.int .i64 1) (.int .i64 t.ty) (.int .i64 t.id) (.int .i64 0) (.int .i64 0) (.string ⟨#[]⟩)
  obtain ⟨q0, q1, q2, q3, q4, q5, _⟩ := cells6e q
  have hlt := HLT.out
  have HF := hide (show unA w _ (.returned (.tuple #[evV ⟨1, t.ty, t.id, 0, 0, []⟩, .int .i64 0])) x from ⟨(tra HKW.out HK3.out).trans hKg (fun i hi e => by omega), by rw [HU.out, if_neg (not_not_intro h1)]⟩)
  subst h1
  clear hKg q hlt
  obtain ⟨c0, c1, t0, t1⟩ := HALL.out w3 HK3.out
  obtain ⟨n1, n2, n3, n4⟩ := HNE.out
  go_upto_region 4 with fail
  go_region_held3 (fun w' => w'.cell? ⟨gs, 1, none⟩ = some (.slice (some ⟨b, off, none⟩) l.length ch) ∧ w'.cell? ⟨b, off + i * 3, none⟩ = some (.int .i64 t.ty) ∧ w'.cell? ⟨b, off + i * 3 + 1, none⟩ = some (.int .i64 t.id)) (go_keep) (fail)
  go_wp2_with fail
  exact bodyPost_ret (v := .tuple #[evV ⟨1, t.ty, t.id, 0, 0, []⟩, .int .i64 0]) (by simp [results, Tryz.results29, go_sem, q0, q1, q2, q3, q4, q5]) rfl ⟨by exact HF.out.1.drew, HF.out.2⟩

end Go.Proofs.YtidodjbmlbjchaaGreat
