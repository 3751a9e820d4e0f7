import Derived.Test.YtillhpepfpldcaaDisktells28
import Derived.Deep.DeepCutAuto
/- The law's diskIs. -/
namespace Go.Proofs.Ytillhpepfpldcaa
open Go.RowKit

set_option maxHeartbeats 3200000 in
theorem diskIs_any (P Q : Nat → Prop) (w : World) (va vb : Value) (a b : DiskT) (e u : Int) (ha : StSl P w va a.segs) (hb : StSl Q w vb b.segs) :
    Calls Try.prog 27 #[diV va a.synced, .int .i64 e, .int .i64 u, diV vb b.synced] w fun r w' => r = .returned (.bool (decide (e = u ∧ a = if u ≠ 0 then disk0 else b))) ∧ Same w w' := by
  have trs : ∀ {a b c : World}, Same a b → Same b c → Same a c := fun h k => h.trans k (fun _ _ f => f)
  by_cases he : e = u
  · subst he
    by_cases hu : e = 0
    · have hu' : (e != 0) = false := by simp [hu]
      have HE := hide (show decide (e = e ∧ a = if e ≠ 0 then disk0 else b) = decide (a = b) by rw [if_neg (by simp [hu])]; simp)
      obtain ⟨aa, ca, rfl⟩ := ha.form
      obtain ⟨ab, cb, rfl⟩ := hb.form
      have HD := hide (fun wx (hK : Same w wx) => sameDisk_any P Q wx _ _ a b (ha.same hK) (hb.same hK))
      rw [HE.out]
      generalize decide (a = b) = q at *
      clear hu HE
      go_enter Try.func27, Try.ntmps27
      go_wp2_with fail
      refine (HD.out _ (((Kept.refl _ w).alloc _).alloc _)).mono ?_
      rintro r w1 ⟨rfl, hK1⟩
      go_wp2_with fail
      go_ret
      exact ⟨rfl, trs (((Kept.refl _ w).alloc _).alloc _) hK1⟩
    · have hu' : (e != 0) = true := by simp [hu]
      have HE := hide (show decide (e = e ∧ a = if e ≠ 0 then disk0 else b) = decide (a = disk0) by rw [if_pos hu]; simp)
      obtain ⟨aa, ca, rfl⟩ := ha.form
      have HD := hide (fun wx (hK : Same w wx) => sameDisk_any P (fun _ => True) wx _ _ a disk0 (ha.same hK) (StSl.nil _ _))
      rw [HE.out]
      generalize decide (a = disk0) = q at *
      clear hu HE
      go_enter Try.func27, Try.ntmps27
      go_wp2_with fail
      refine (HD.out _ (((Kept.refl _ w).alloc _).alloc _)).mono ?_
      rintro r w1 ⟨rfl, hK1⟩
      go_wp2_with fail
      go_ret
      exact ⟨rfl, trs (((Kept.refl _ w).alloc _).alloc _) hK1⟩
  · have he' : (e == u) = false := by rw [beq_eq_false_iff_ne]; exact he
    have HE := hide (show decide (e = u ∧ a = if u ≠ 0 then disk0 else b) = false by simp [he])
    rw [HE.out]
    clear he HE
    by_cases hu : u = 0
    · have hu' : (u != 0) = false := by simp [hu]
      clear hu
      go_enter Try.func27, Try.ntmps27
      go_wp2_with fail
      go_ret
      exact ⟨rfl, ((Kept.refl _ w).alloc _).alloc _⟩
    · have hu' : (u != 0) = true := by simp [hu]
      clear hu
      go_enter Try.func27, Try.ntmps27
      go_wp2_with fail
      go_ret
      exact ⟨rfl, ((Kept.refl _ w).alloc _).alloc _⟩

end Go.Proofs.Ytillhpepfpldcaa

/- The reference: CrashOf, AppendOf: what their first region stands on (append onto an empty row of texts, laid ahead of x's box or behind it). -/
namespace Go.Proofs.Ytillhpepfpldcaa
open Go.RowKit

theorem own_str0 {B : Nat} (w : World) (hb : B ≤ w.heap.size) : (w.alloc (.cells #[] 9)).ownsRow B 9 1 (.slice (some ⟨w.heap.size, 0, none⟩) 0 0) 0 [] := World.ownsRow_lit (size := 1) (base := B) (e := 9) w #[] 0 hb (by unfold maxLen; omega) rfl
theorem own_str1 (w : World) (o : Obj) {B : Nat} (hb : B ≤ w.heap.size) : ((w.alloc o).alloc (.cells #[] 9)).ownsRow B 9 1 (.slice (some ⟨w.heap.size + 1, 0, none⟩) 0 0) 0 [] := by
  have := own_str0 (B := B) (w.alloc o) (by simp; omega)
  rw [World.size_alloc] at this
  exact this
/-- a row of texts does not lie in a disk's box: their types differ -/
theorem row_box {w : World} {B n g : Nat} {v : Value} {xs : List Value} {cs : Array Value} {off : Nat × Nat} (h : w.ownsRow B 9 1 v n xs) (hb : w.heap[g]? = some (.cells cs 38 off)) : ¬ Row v g := by
  intro hr
  rcases h.2 with ⟨rfl, _⟩ | ⟨b, cap, cur, rfl, _, hh, _⟩
  · cases hr
  · cases hr
    rw [hh] at hb
    cases hb

/-- a block beside the empty literal stands where the literal has grown -/
theorem grown_old {W w5 : World} {o1 o2 : Obj} {row : Option Nat} (h : ((W.alloc o1).alloc o2).drew.grownBy w5 row) (hr : row = some (W.heap.size + 1)) : w5.heap[W.heap.size]? = some o1 := by
  subst hr
  exact blk_kept (w := ((W.alloc o1).alloc o2).drew) (al_old W o1 o2) (grown_kept h) (by intro e; exact absurd (Option.some.inj e) (Nat.ne_of_lt (Nat.lt_succ_self _)))
theorem grown_new {W w5 : World} {o1 o2 : Obj} {row : Option Nat} (h : ((W.alloc o1).alloc o2).drew.grownBy w5 row) (hr : row = some W.heap.size) : w5.heap[W.heap.size + 1]? = some o2 := by
  subst hr
  exact blk_kept (w := ((W.alloc o1).alloc o2).drew) (al_new W o1 o2) (grown_kept h) (by intro e; exact absurd (Option.some.inj e).symm (Nat.ne_of_lt (Nat.lt_succ_self _)))

/-- a disk of the call's own: its box, and its row of segments -/
def XB (B : Nat) (w : World) (g : Nat) (d : DiskT) : Prop := B ≤ g ∧ ∃ sv, w.heap[g]? = some (.cells #[sv, .int .i64 d.synced] 38 (0, 0)) ∧ OwnS B w sv d.segs
theorem XB.new {B : Nat} {w : World} {d : DiskT} {sv : Value} (h : OwnS B w sv d.segs) (hB : B ≤ w.heap.size) : XB B (w.alloc (.cells #[sv, .int .i64 d.synced] 38)) w.heap.size d :=
  ⟨hB, sv, heap_alloc_new _ _, h.alloc _⟩
theorem XB.put {B : Nat} {w : World} {d : DiskT} {sv x y : Value} {g : Nat} (h : OwnS B w sv d.segs) (hB : B ≤ g) (hb : w.heap[g]? = some (.cells #[x, y] 38 (0, 0))) : XB B ((w.setCell ⟨g, 0, none⟩ sv).setCell ⟨g, 1, none⟩ (.int .i64 d.synced)) g d := by
  refine ⟨hB, sv, set2b hb _ _, ?_⟩
  refine own_kept2 (X := (· = g)) h (((Kept.refl _ w).setB 0 _).setB 1 _) (fun k hr e => ?_)
  subst e
  exact row_box h hb hr
theorem XB.same {B : Nat} {w w' : World} {g : Nat} {d : DiskT} (h : XB B w g d) (k : Same w w') : XB B w' g d := by
  obtain ⟨h1, sv, h2, h3⟩ := h
  exact ⟨h1, sv, blk_kept h2 k (fun f => f), own_kept h3 k (fun _ _ f => f)⟩
theorem same_put {W w5 : World} {g : Nat} (h : Same W w5) (hg : W.heap.size ≤ g) (x y : Value) : Same W ((w5.setCell ⟨g, 0, none⟩ x).setCell ⟨g, 1, none⟩ y) :=
  (h.setCell (fun k => absurd k (Nat.not_lt.2 hg)) _).setCell (fun k => absurd k (Nat.not_lt.2 hg)) _
/-- a segment of one's own is set -/
theorem own_set {B : Nat} {w : World} {b cap : Nat} {l : List (List UInt8)} (h : OwnS B w (.slice (some ⟨b, 0, none⟩) l.length cap) l) (j : Nat) (x : List UInt8) :
    OwnS B (w.setCell ⟨b, j, none⟩ (.string ⟨x.toArray⟩)) (.slice (some ⟨b, 0, none⟩) l.length cap) (l.set j x) := by
  have hst := (World.ownsRow.stored h j (.string ⟨x.toArray⟩)).1
  show World.ownsRow _ _ _ _ _ (l.set j x).length (stCells (l.set j x))
  rw [List.length_set]
  have : stCells (l.set j x) = (stCells l).set j (.string ⟨x.toArray⟩) := by simp [stCells, List.map_set]
  rw [this]; exact hst

/-- a disk's box holds no text, no event, no batch -/
theorem no_str {w : World} {k n c : Nat} {a : Option Addr} {m : Int} {t : TypeId} (hb : w.heap[k]? = some (.cells #[.slice a n c, .int .i64 m] t (0, 0))) {o : Nat} {s : ByteArray} : ¬ w.cell? ⟨k, o, none⟩ = some (.string s) := by
  intro h
  match o with
  | 0 => simp [World.cell?, hb] at h
  | 1 => simp [World.cell?, hb] at h
  | o + 2 => simp [World.cell?, hb] at h
theorem no_int {w : World} {k n c : Nat} {a : Option Addr} {m : Int} {t : TypeId} (hb : w.heap[k]? = some (.cells #[.slice a n c, .int .i64 m] t (0, 0))) {o : Nat} {i : Int} {v : Value} (h : w.cell? ⟨k, o, none⟩ = some (.int .i64 i)) : ¬ w.cell? ⟨k, o + 1, none⟩ = some v := by
  intro h'
  match o with
  | 0 => simp [World.cell?, hb] at h
  | 1 => simp [World.cell?, hb] at h'
  | o + 2 => simp [World.cell?, hb] at h
theorem StSl.box {P : Nat → Prop} {w w' : World} {v : Value} {l : List (List UInt8)} (h : StSl P w v l) {k n c : Nat} {a : Option Addr} {m : Int} {t : TypeId} (hb : w.heap[k]? = some (.cells #[.slice a n c, .int .i64 m] t (0, 0))) (hk : Kept (· = k) w w') : StSl P w' v l := by
  obtain ⟨ao', cap', hv, hl, hc⟩ := h
  refine ⟨ao', cap', hv, hl, fun i s hi => ?_⟩
  obtain ⟨b, off, ha, hp, h0⟩ := hc i s hi
  exact ⟨b, off, ha, hp, hk.cell h0 (by rintro rfl; exact no_str hb h0)⟩
theorem EvSl.box {P : Nat → Prop} {w w' : World} {v : Value} {l : List EventT} (h : EvSl P w v l) {k n c : Nat} {a : Option Addr} {m : Int} {t : TypeId} (hb : w.heap[k]? = some (.cells #[.slice a n c, .int .i64 m] t (0, 0))) (hk : Kept (· = k) w w') : EvSl P w' v l := by
  obtain ⟨ao', cap', hv, hl, hc⟩ := h
  refine ⟨ao', cap', hv, hl, fun i s hi => ?_⟩
  obtain ⟨b, off, ha, hp, h0⟩ := hc i s hi
  exact ⟨b, off, ha, hp, h0.keep hk (by rintro rfl; exact no_int hb h0.1 h0.2.1)⟩
theorem BaSl.box {P : Nat → Prop} {w w' : World} {v : Value} {l : List BatchT} (h : BaSl P w v l) {k n c : Nat} {a : Option Addr} {m : Int} {t : TypeId} (hb : w.heap[k]? = some (.cells #[.slice a n c, .int .i64 m] t (0, 0))) (hk : Kept (· = k) w w') : BaSl P w' v l := by
  obtain ⟨ao', cap', hv, hl, hc⟩ := h
  refine ⟨ao', cap', hv, hl, fun i s hi => ?_⟩
  obtain ⟨b, off, ve, ha, hp, h0, h1, h2⟩ := hc i s hi
  exact ⟨b, off, ve, ha, hp, hk.cell h0 (by rintro rfl; exact no_int hb h0 h1), hk.cell h1 (by rintro rfl; exact no_int hb h0 h1), h2.box hb hk⟩
theorem ret_box {w wx : World} {g : Nat} {d : DiskT} {a : Option Addr} {c : Nat} (h0 : wx.heap[g]? = some (.cells #[.slice none 0 0, .int .i64 0] 38 (0, 0))) (hK : Same w wx) (hg : w.heap.size ≤ g) (hs : StSl (fun _ => True) wx (.slice a d.segs.length c) d.segs) :
    ((wx.setCell ⟨g, 0, none⟩ (.slice a d.segs.length c)).setCell ⟨g, 1, none⟩ (.int .i64 d.synced)).cell? ⟨g, 0, none⟩ = some (.slice a d.segs.length c) ∧ ((wx.setCell ⟨g, 0, none⟩ (.slice a d.segs.length c)).setCell ⟨g, 1, none⟩ (.int .i64 d.synced)).cell? ⟨g, 1, none⟩ = some (.int .i64 d.synced) ∧
    StSl (fun _ => True) ((wx.setCell ⟨g, 0, none⟩ (.slice a d.segs.length c)).setCell ⟨g, 1, none⟩ (.int .i64 d.synced)) (.slice a d.segs.length c) d.segs ∧ Same w ((wx.setCell ⟨g, 0, none⟩ (.slice a d.segs.length c)).setCell ⟨g, 1, none⟩ (.int .i64 d.synced)) := by
  obtain ⟨q0, q1⟩ := blk2 (set2b h0 (.slice a d.segs.length c) (.int .i64 d.synced))
  exact ⟨q0, q1, hs.box h0 (((Kept.refl _ wx).setB 0 _).setB 1 _), (hK.setCell (fun h => absurd h (Nat.not_lt.2 hg)) _).setCell (fun h => absurd h (Nat.not_lt.2 hg)) _⟩

end Go.Proofs.Ytillhpepfpldcaa
