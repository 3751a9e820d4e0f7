/- state.suits, doer.cut. (Written by tool/gend25.py.) -/
import Derived.Test.YtidodjbmlbjchaaGreatHistorystaysupto34
namespace Go.Proofs.YtidodjbmlbjchaaGreat
open Go.RowKit

theorem blk_at {w : World} {g : Nat} {cs : Array Value} {t : TypeId} (h : w.heap[g]? = some (.cells cs t (0, 0))) (o : Nat) (v : Value) (hv : cs[o]? = some v) : w.cell? ⟨g, o, none⟩ = some v ∧ w.frozen? ⟨g, o, none⟩ = false := by
  simp [World.cell?, World.frozen?, h, hv]

theorem bsI_is (w : World) (a : Option Addr) (n c : Nat) (l : List Int) (x : Int) (P : Nat → Prop) (h : IdsSl P w (.slice a n c) l) (hr : riseI l = true) (hl : l.length ≤ 1000000) (p : Nat) (hp : placeI l x = p) (q : Bool) (hq : decide (x ∈ l) = q) :
    Calls Tryz.prog 108 #[.slice a n c, .int .i64 x] w fun e w' => e = .returned (.tuple #[.int .i64 p, .bool q]) ∧ Same w w' := by
  have := bsI_any w a n c l x P h hr hl
  rw [hp, hq] at this
  exact this

theorem suits_any (w : World) (k fk : Int) : Calls Tryz.prog 85 #[.int .i64 k, .int .i64 fk] w fun r w' => r = .returned (.bool (suitsE k fk)) ∧ Same w w' := by
  by_cases h_k3 : k = 3
  · by_cases h_fk1 : fk = 1
    · rw [show suitsE k fk = true by simp [suitsE, h_k3, h_fk1]]
      have e_k3 : (k == 3) = true := by simp [h_k3]
      have e_fk1 : (fk == 1) = true := by simp [h_fk1]
      clear h_k3 h_fk1
      go_enter Tryz.func85, Tryz.ntmps85
      go_wp2_with fail
      go_ret
      exact ⟨rfl, Kept.refl _ _⟩
    · rw [show suitsE k fk = false by simp [suitsE, h_k3, h_fk1]]
      have e_k3 : (k == 3) = true := by simp [h_k3]
      have e_fk1 : (fk == 1) = false := by simp [h_fk1]
      clear h_k3 h_fk1
      go_enter Tryz.func85, Tryz.ntmps85
      go_wp2_with fail
      go_ret
      exact ⟨rfl, Kept.refl _ _⟩
  · by_cases h_k4 : k = 4
    · by_cases h_fk2 : fk = 2
      · rw [show suitsE k fk = true by simp [suitsE, h_k4, h_fk2]]
        have e_k3 : (k == 3) = false := by simp [h_k3]
        have e_k4 : (k == 4) = true := by simp [h_k4]
        have e_fk2 : (fk == 2) = true := by simp [h_fk2]
        clear h_k3 h_k4 h_fk2
        go_enter Tryz.func85, Tryz.ntmps85
        go_wp2_with fail
        go_ret
        exact ⟨rfl, Kept.refl _ _⟩
      · rw [show suitsE k fk = false by simp [suitsE, h_k4, h_fk2]]
        have e_k3 : (k == 3) = false := by simp [h_k3]
        have e_k4 : (k == 4) = true := by simp [h_k4]
        have e_fk2 : (fk == 2) = false := by simp [h_fk2]
        clear h_k3 h_k4 h_fk2
        go_enter Tryz.func85, Tryz.ntmps85
        go_wp2_with fail
        go_ret
        exact ⟨rfl, Kept.refl _ _⟩
    · by_cases h_fk3 : fk = 3
      · rw [show suitsE k fk = true by simp [suitsE, h_k3, h_k4, h_fk3]]
        have e_k3 : (k == 3) = false := by simp [h_k3]
        have e_k4 : (k == 4) = false := by simp [h_k4]
        have e_fk3 : (fk == 3) = true := by simp [h_fk3]
        clear h_k3 h_k4 h_fk3
        go_enter Tryz.func85, Tryz.ntmps85
        go_wp2_with fail
        go_ret
        exact ⟨rfl, Kept.refl _ _⟩
      · by_cases h_fk4 : fk = 4
        · rw [show suitsE k fk = true by simp [suitsE, h_k3, h_k4, h_fk4]]
          have e_k3 : (k == 3) = false := by simp [h_k3]
          have e_k4 : (k == 4) = false := by simp [h_k4]
          have e_fk3 : (fk == 3) = false := by simp [h_fk3]
          have e_fk4 : (fk == 4) = true := by simp [h_fk4]
          clear h_k3 h_k4 h_fk3 h_fk4
          go_enter Tryz.func85, Tryz.ntmps85
          go_wp2_with fail
          go_ret
          exact ⟨rfl, Kept.refl _ _⟩
        · rw [show suitsE k fk = false by simp [suitsE, h_k3, h_k4, h_fk3, h_fk4]]
          have e_k3 : (k == 3) = false := by simp [h_k3]
          have e_k4 : (k == 4) = false := by simp [h_k4]
          have e_fk3 : (fk == 3) = false := by simp [h_fk3]
          have e_fk4 : (fk == 4) = false := by simp [h_fk4]
          clear h_k3 h_k4 h_fk3 h_fk4
          go_enter Tryz.func85, Tryz.ntmps85
          go_wp2_with fail
          go_ret
          exact ⟨rfl, Kept.refl _ _⟩

set_option maxRecDepth 20000 in
set_option maxHeartbeats 6400000 in
theorem cut_any (w : World) (gd gc co base : Nat) (cs : Array Value) (tc : TypeId) (vt vh v : Value) (e : EventT) (l : List Int)
    (hG : w.heap[gd]? = some (.cells (doC vt vh e) 52 (0, 0))) (hB : w.heap[gc]? = some (.cells cs tc (0, 0))) (hv : cs[co + 2]? = some v) (hown : w.ownsRow base 3 1 v l.length (idCells l)) (hne : 3 ≠ tc) (hr : riseI l = true) (hl : l.length ≤ 1000) :
    Calls Tryz.prog 101 #[.pointer (some ⟨gd, 0, none⟩), .pointer (some ⟨gc, co, none⟩)] w fun r w' =>
      (¬ e.n ∈ l ∧ r = .returned (.int .i64 5) ∧ Same w w') ∨
      (e.n ∈ l ∧ r = .returned (.int .i64 0) ∧ ∃ w1 a' c', Kept (Row v) w w1 ∧ w1.ownsRow base 3 1 (.slice a' (l.length - 1) c') (l.eraseIdx (placeI l e.n)).length (idCells (l.eraseIdx (placeI l e.n))) ∧ Same (w1.setCell ⟨gc, co + 2, none⟩ (.slice a' (l.length - 1) c')) w') := by
  obtain ⟨a, c, rfl⟩ := own_slice hown
  obtain ⟨x0, x1, x2, x3, x4, x5, x6, x7, xf⟩ := do_cells hG
  obtain ⟨y0, yf⟩ := blk_at hB _ _ hv
  have hgc : ¬ Row (.slice a l.length c) gc := row_blk hown hB hne
  have HIS := hide (fun wy (hy : Same w wy) => (IdO.sl (hi := w.heap.size) ⟨hown, fun k h => (own_up hown k h).2⟩ (by unfold maxLen; omega)).same hy)
  have HX := hide (And.intro hB (And.intro hv hgc))
  have HOWN := hide hown
  have HLT := hide (fun (hin : e.n ∈ l) => place_lt (riseI_pairwise l hr) hin)
  obtain ⟨p, hp⟩ : ∃ p, placeI l e.n = p := ⟨_, rfl⟩
  rw [hp] at HLT ⊢
  have HP := hide hp
  by_cases hin : e.n ∈ l
  rotate_left
  · have hq : decide (e.n ∈ l) = false := by simp [hin]
    have HBS := hide (fun wy (hy : Same w wy) => bsI_is wy a l.length c l e.n _ (HIS.out wy hy) hr (by omega) p HP.out false hq)
    have HIN := hide hin
    clear hG hB hv hown hr hp hin hq hgc x0 x1 x2 x3 x4 x5 x7 xf yf
    go_enter Tryz.func101, Tryz.ntmps101
    go_wp2_with fail
    go_region_held3 (fun w' => w'.cell? ⟨gd, 6, none⟩ = some (.int .i64 e.n) ∧ w'.cell? ⟨gc, co + 2, none⟩ = some (.slice a l.length c)) (go_keep)
      ((go_at_call 108; refine (HBS.out _ (by exact (by repeat' (first | assumption | exact Kept.refl _ _ | refine Kept.drewN ?_ _ | refine Kept.drew ?_ | refine Kept.alloc ?_ _ | refine Kept.setB ?_ _ _)))).mono ?_; rintro e9 w3 ⟨rfl, hK3⟩; have u6 := hK3.cell (p := ⟨gd, 6, none⟩) (by exact x6) (fun f => f); have u2 := hK3.cell (p := ⟨gc, co + 2, none⟩) (by exact y0) (fun f => f)))
    have HK3 := hide (show Same w w3 from hK3.unD)
    clear hK3 u6 u2 x6 y0
    go_wp2_with fail
    go_ret
    exact .inl ⟨HIN.out, rfl, HK3.out⟩
  have hq : decide (e.n ∈ l) = true := by simp [hin]
  have HBS := hide (fun wy (hy : Same w wy) => bsI_is wy a l.length c l e.n _ (HIS.out wy hy) hr (by omega) p HP.out true hq)
  have hpl := HLT.out hin
  have HIN := hide hin
  obtain ⟨j, hj⟩ : ∃ j, j = p + 1 := ⟨_, rfl⟩
  have hwr : IntKind.i64.wrap ((p : Int) + 1) = (j : Int) := by rw [IntKind.wrap_i64]; omega
  have HJ := hide hj
  have HALL := hide (fun wy (hy : Same w wy) => hy.cell y0 (fun f => f))
  clear hG hB hv hown hr hp hin hq hgc x0 x1 x2 x3 x4 x5 x7 xf yf hj
  go_enter Tryz.func101, Tryz.ntmps101
  go_wp2_with fail
  go_region_held3 (fun w' => w'.cell? ⟨gd, 6, none⟩ = some (.int .i64 e.n) ∧ w'.cell? ⟨gc, co + 2, none⟩ = some (.slice a l.length c)) (go_keep)
    ((go_at_call 108; refine (HBS.out _ (by exact (by repeat' (first | assumption | exact Kept.refl _ _ | refine Kept.drewN ?_ _ | refine Kept.drew ?_ | refine Kept.alloc ?_ _ | refine Kept.setB ?_ _ _)))).mono ?_; rintro e9 w3 ⟨rfl, hK3⟩; have u6 := hK3.cell (p := ⟨gd, 6, none⟩) (by exact x6) (fun f => f); have u2 := hK3.cell (p := ⟨gc, co + 2, none⟩) (by exact y0) (fun f => f)))
  have HK3 := hide (show Same w w3 from hK3.unD)
  clear hK3 u6 u2 x6 y0
  have c0 := HALL.out w3 HK3.out
  have HOW3 := hide (fun wy (hy : Same w3 wy) => own_kept HOWN.out (tra HK3.out hy) (fun _ _ f => f))
  go_wp2_with fail
  refine (delI_own _ base l.length p j (.slice a l.length c) l (HOW3.out _ (show Same w3 _ from (by (repeat' (first | assumption | exact Kept.refl _ _ | refine Kept.drew ?_ | refine Kept.drewN ?_ _ | refine Kept.alloc ?_ _))))) rfl hpl HJ.out (by omega)).mono ?_
  rintro e9 w4 ⟨a3, c3, rfl, hk4, ho4⟩
  have hKa : Kept (Row (.slice a l.length c)) w3 w4 := (show Same w3 _ from (by (repeat' (first | assumption | exact Kept.refl _ _ | refine Kept.drew ?_ | refine Kept.drewN ?_ _ | refine Kept.alloc ?_ _)))).to.trans hk4 (fun _ _ e => e)
  have hKw : Kept (Row (.slice a l.length c)) w w4 := HK3.out.to.trans hKa (fun _ _ e => e)
  obtain ⟨g9, gf⟩ := blk_at (blk_kept HX.out.1 hKw HX.out.2.2) _ _ HX.out.2.1
  have HG4 := hide (And.intro hKw ho4)
  clear hk4 ho4 hKa hKw c0
  go_wp2_with fail
  go_ret
  exact .inr ⟨HIN.out, rfl, w4, a3, c3, HG4.out.1, HG4.out.2, Kept.refl _ _⟩

end Go.Proofs.YtidodjbmlbjchaaGreat
