/- disk.keeper: read. (Written by tool/genk5.py out of k5.head, k5.tail.) -/
import Derived.Test.YtillhpepfpldcaaDisktells19
import Derived.Test.YtillhpepfpldcaaDisktells10
import Derived.Test.YtillhpepfpldcaaDisktells13
namespace Go.Proofs.Ytillhpepfpldcaa
open Go.RowKit

theorem dec_ok (w : World) (l : List UInt8) (b : BatchT) (n : Nat) (h : decodeB l = .ok (b, n)) :
    Calls Try.prog 9 #[.string ⟨l.toArray⟩] w fun r w' => ∃ a c, r = .returned (.tuple #[baV b.number (.slice a b.events.length c), .int .i64 n, .int .i64 0]) ∧ EvSl (w.heap.size ≤ ·) w' (.slice a b.events.length c) b.events ∧ Same w w' := by
  refine (decode_any w l).mono ?_
  rintro r w' (⟨ba, v, m, h1, rfl, h2, h3⟩ | ⟨no, h1, _⟩)
  · rw [h] at h1; cases h1
    obtain ⟨a, c, rfl⟩ := h2.form
    exact ⟨a, c, rfl, h2, h3⟩
  · rw [h] at h1; cases h1
theorem dec_no (w : World) (l : List UInt8) (no : Int) (h : decodeB l = .error no) :
    Calls Try.prog 9 #[.string ⟨l.toArray⟩] w fun r w' => r = .returned (.tuple #[baV 0 (.slice none 0 0), .int .i64 0, .int .i64 no]) ∧ Same w w' ∧ no ≠ 0 := by
  refine (decode_any w l).mono ?_
  rintro r w' (⟨ba, v, m, h1, _⟩ | ⟨no', h1, h2, rfl, h3⟩)
  · rw [h] at h1; cases h1
  · rw [h] at h1; cases h1
    exact ⟨rfl, h3, h2⟩

theorem new_two {w : World} {b : Nat} {x y : Value} {t : TypeId} (h : w.heap[b]? = some (.cells #[x, y] t (0, 0))) : ∀ j u, [x, y][j]? = some u → w.cell? ((⟨b, 0, none⟩ : Addr).add j) = some u := by
  intro j u hj
  rw [addr_add, Nat.zero_add]
  unfold World.cell?
  rw [h]
  simpa using hj
theorem new_one {w : World} {b : Nat} {x : Value} {t : TypeId} (h : w.heap[b]? = some (.cells #[x] t (0, 0))) : ∀ j u, [x][j]? = some u → w.cell? ((⟨b, 0, none⟩ : Addr).add j) = some u := by
  intro j u hj
  rw [addr_add, Nat.zero_add]
  unfold World.cell?
  rw [h]
  simpa using hj

theorem blk_kept' {X : Nat → Prop} {w w' : World} {g : Nat} {o : Obj} (hk : Kept X w w') (h : w.heap[g]? = some o) (hx : ¬ X g) : w'.heap[g]? = some o := blk_kept h hk hx

theorem info_ba : (Try.prog.info? 24).map (fun i => (i.zero, i.size, i.bytes)) = some (some (.agg #[.int .i64 0, .slice none 0 0]), 2, 32) := by kernel_rfl
theorem info_in : (Try.prog.info? 3).map (fun i => (i.zero, i.size, i.bytes)) = some (some (.int .i64 0), 1, 8) := by kernel_rfl

theorem endsB_snoc : ∀ (l : List BatchT) (a : Nat) (b : BatchT), endsB a (l ++ [b]) = endsB a l ++ [a + (flatB l).length + (bytesB b).length] := by
  intro l
  induction l with
  | nil => intro a b; simp [endsB, flatB]
  | cons c r ih =>
    intro a b
    rw [List.cons_append, endsB, ih, endsB, flatB_cons, List.length_append, List.cons_append]
    congr 2
    simp; omega
theorem endsB_last : ∀ (l : List BatchT) (a : Nat), ∃ e0, endsB a l = e0 ++ [a + (flatB l).length] ∧ e0.length = l.length := by
  intro l
  induction l with
  | nil => intro a; exact ⟨[], by simp [endsB, flatB], rfl⟩
  | cons c r ih =>
    intro a
    obtain ⟨e0, h1, h2⟩ := ih (a + (bytesB c).length)
    exact ⟨a :: e0, by rw [endsB, h1, flatB_cons, List.length_append]; simp; omega, by simp [h2]⟩
theorem endsB_len (l : List BatchT) (a : Nat) : (endsB a l).length = l.length + 1 := by
  obtain ⟨e0, h1, h2⟩ := endsB_last l a
  rw [h1, List.length_append, h2]; rfl
theorem flatB_ge : ∀ (l : List BatchT), 2 * l.length ≤ (flatB l).length := by
  intro l
  induction l with
  | nil => simp [flatB]
  | cons c r ih => rw [flatB_cons, List.length_append, List.length_cons]; have := bytes_two c; omega

/-- what read answers -/
def readC (s : List UInt8) (more : Bool) : Int := if (segT s).2.2 ≠ 5 then (segT s).2.2 else if (segT s).2.1 ≠ [] ∧ more = true then 4 else 0

theorem bpCells_app (a b : List (BatchT × Value)) : bpCells (a ++ b) = bpCells a ++ bpCells b := by simp [bpCells]
theorem inCells_app (a b : List Nat) : inCells (a ++ b) = inCells a ++ inCells b := by simp [inCells]

/-- the keeper's ends, set anew -/
theorem KW.ends0 {B : Nat} {w : World} {g : Nat} {sv bv ev : Value} {segs : List (List UInt8)} {syn : Int} {bp : List (BatchT × Value)} {es : List Nat} (h : KW B w g sv bv ev segs syn bp es) (hB : B ≤ w.heap.size) :
    KW B ((w.setCell ⟨g, 3, none⟩ (.slice (some ⟨w.heap.size, 0, none⟩) 1 1)).alloc (.cells #[.int .i64 0] 3)) g sv bv (.slice (some ⟨w.heap.size, 0, none⟩) 1 1) segs syn bp [0] := by
  have hg : g < w.heap.size := (Array.getElem?_eq_some_iff.1 h.blk).1
  have hks : Kept (· = g) w (w.setCell ⟨g, 3, none⟩ (.slice (some ⟨w.heap.size, 0, none⟩) 1 1)) := (Kept.refl _ _).setB 3 _
  have hsz : (w.setCell ⟨g, 3, none⟩ (.slice (some ⟨w.heap.size, 0, none⟩) 1 1)).heap.size = w.heap.size := by simp [World.setCell]
  have hka : Same (w.setCell ⟨g, 3, none⟩ (.slice (some ⟨w.heap.size, 0, none⟩) 1 1)) ((w.setCell ⟨g, 3, none⟩ (.slice (some ⟨w.heap.size, 0, none⟩) 1 1)).alloc (.cells #[.int .i64 0] 3)) := (Kept.refl _ _).alloc _
  have hblk : (w.setCell ⟨g, 3, none⟩ (.slice (some ⟨w.heap.size, 0, none⟩) 1 1)).heap[g]? = some (.cells #[sv, .int .i64 syn, bv, .slice (some ⟨w.heap.size, 0, none⟩) 1 1] 84 (0, 0)) := by
    simp only [World.setCell]
    rw [Array.getElem?_modify, if_pos rfl, h.blk]
    simp
  have hlit := World.ownsRow_lit (size := 1) (base := B) (e := 3) (w.setCell ⟨g, 3, none⟩ (.slice (some ⟨w.heap.size, 0, none⟩) 1 1)) #[.int .i64 0] 1 (by rw [hsz]; exact hB) (by unfold maxLen; omega) rfl
  rw [hsz] at hlit
  have hnew : ∀ k, Row (.slice (some ⟨w.heap.size, 0, none⟩) 1 1) k → k = w.heap.size := fun k hr => (Option.some.inj hr).symm
  refine h.turn (hks.mono (fun i _ hi => .inr (.inr (.inr hi))) |>.trans hka (fun i _ f => f.elim)) ?_ ?_ ?_ ?_ (fun k hr => .inl hr) (fun k hr => .inl hr) (fun k hr => .inr (by have := hnew k hr; omega)) (fun k hk => ⟨fun hh => h.sb k hh.1 hh.2, fun hh => ?_, fun hh => ?_⟩) (fun p hp => .inl hp) h.len h.each
  · exact blk_kept hblk hka (fun f => f)
  · exact own_kept2 (own_kept2 h.own hks (fun k hr e => h.sg (by rw [← e]; exact hr))) hka (fun _ _ f => f)
  · exact own_kept2 (own_kept2 h.bat hks (fun k hr e => h.bg (by rw [← e]; exact hr))) hka (fun _ _ f => f)
  · exact hlit
  · have := (own_up h.own k hh.1).2; omega
  · have := (own_up h.bat k hh.1).2; omega

set_option maxRecDepth 20000 in
set_option maxHeartbeats 6400000 in
theorem read_any {B : Nat} {w : World} {g : Nat} {sv bv0 ev0 : Value} {segs : List (List UInt8)} {syn : Int} {bp0 : List (BatchT × Value)} {es0 : List Nat} (h : KW B w g sv bv0 ev0 segs syn bp0 es0) (hBw : B ≤ w.heap.size) (i : Nat) (s : List UInt8) (hi : segs[i]? = some s) (hbp : bp0.length ≤ 100000) :
    Calls Try.prog 64 #[.pointer (some ⟨g, 0, none⟩), .int .i64 i] w fun r w' => r = .returned (.int .i64 (readC s (decide (i + 1 < segs.length)))) ∧ Kept (B ≤ ·) w w' ∧
      (readC s (decide (i + 1 < segs.length)) = 0 → ∃ bv' ev' bp', KW B w' g sv bv' ev' segs syn bp' (endsB 0 (segT s).1) ∧ bp'.map Prod.fst = bp0.map Prod.fst ++ (segT s).1) := by
  have hil : i < segs.length := (List.getElem?_eq_some_iff.1 hi).1
  have hs4 : s.length ≤ 400 := h.each s (List.mem_of_getElem? hi)
  obtain ⟨c0, c1, c2, c3, cf⟩ := blk4 h.blk
  obtain ⟨asv, cs, hsv⟩ := own_slice h.own
  have hS := own_sts h.own (by have := h.len; unfold maxLen; omega)
  subst hsv
  obtain ⟨bs, os, has, _, q0⟩ := hS.at i hil
  have hsi : segs[i] = s := by have := List.getElem?_eq_getElem hil; rw [hi] at this; exact (Option.some.inj this).symm
  rw [hsi] at q0
  subst has
  have hgw : g < w.heap.size := (Array.getElem?_eq_some_iff.1 h.blk).1
  have hcap : segs.length ≤ cs := hS.len.2.2
  have h8 := h.len
  have HKa := hide (h.ends0 hBw)
  have hgB := h.hB
  have hz := bsize s
  obtain ⟨i0, hi', hz0, hz1, hz2⟩ := info_parts info_ba
  have hi := hi'
  clear hi'
  obtain ⟨j0, hj, hy0, hy1, hy2⟩ := info_parts info_in
  have HT := hide (fun wx (es : List Nat) bv ev bp (hx : KW B wx g (.slice (some ⟨bs, os, none⟩) segs.length cs) bv ev segs syn bp es) => tornAt_any hx i hil)
  clear h hS hsi
  go_enter Try.func64, Try.ntmps64
  go_wp2_with fail
  obtain ⟨w1, hw1⟩ : ∃ w1, w1 = (w.setCell ⟨g, 3, none⟩ (.slice (some ⟨w.heap.size, 0, none⟩) 1 1)).alloc (.cells #[.int .i64 0] 3) := ⟨_, rfl⟩
  have hKw1 : Kept (B ≤ ·) w w1 := by rw [hw1]; exact ((Kept.refl _ w).setCell (fun _ => hgB) _).alloc _
  rw [← hw1] at HKa
  rw [← hw1]
  clear hw1 c0 c1 c2 c3 cf q0
  go_loopg [6] s.length (fun gk endv wr => ∃ (e0 : Nat) (l : List BatchT) (bv ev : Value) (bp : List (BatchT × Value)), endv = .int .i64 e0 ∧ e0 + gk = s.length ∧ Kept (B ≤ ·) w wr ∧ Hid (KW B wr g (.slice (some ⟨bs, os, none⟩) segs.length cs) bv ev segs syn bp (endsB 0 l)) ∧ Hid (bp.map Prod.fst = bp0.map Prod.fst ++ l) ∧ Hid (Rights l ∧ e0 = (flatB l).length ∧ s = flatB l ++ s.drop e0))
  case atStart => exact ⟨0, [], bv0, _, bp0, rfl, by omega, hKw1, HKa, hide (by simp), hide ⟨fun b hb => (by cases hb), by simp [flatB], by simp [flatB]⟩⟩
  case round =>
    obtain ⟨e0, l, bv, ev, bp, rfl, he, hKr, HKr, HBP, HL⟩ := hrel
    clear hKw1 HKa
    by_cases hlt : e0 < s.length
    · have HX := hide (show (⟨s.toArray⟩ : ByteArray).extract e0 s.length = ⟨(s.drop e0).toArray⟩ by
        rw [bytes_extract, List.take_of_length_le (by rw [List.length_drop]; omega)])
      cases hd : decodeB (s.drop e0) with
      | error no =>
        have HSG := hide (segT_of ⟨HL.out.1, HL.out.2.2, hd⟩)
        have HD := hide (fun wx => dec_no wx (s.drop e0) no hd)
        have hne : s.drop e0 ≠ [] := by intro e; have := congrArg List.length e; simp at this; omega
        clear hd
        go_wp2_with fail
        rw [HX.out]
        refine (HD.out _).mono ?_
        rintro r w2 ⟨rfl, hK2, hn0⟩
        have hKb : Kept (B ≤ ·) w (w2.alloc (.cells #[.int .i64 0, .slice none 0 0] 24)) := (hKr.trans hK2 (fun _ _ f => f.elim)).alloc _
        by_cases h5 : no = 5
        · subst h5
          have HTt := hide (HT.out _ _ _ _ _ (HKr.out.same (hK2.alloc (.cells #[.int .i64 0, .slice none 0 0] 24))))
          have HKf := hide (HKr.out.same (hK2.alloc (.cells #[.int .i64 0, .slice none 0 0] 24)))
          have HC := hide (show readC s (decide (i + 1 < segs.length)) = if i + 1 < segs.length then 4 else 0 by
            unfold readC; rw [HSG.out]; simp [hne])
          clear hn0 hne HD
          go_wp2_with fail
          refine HTt.out.mono ?_
          rintro r w3 ⟨rfl, hw3⟩
          subst hw3
          rw [← HC.out]
          go_wp2_with fail
          go_ret
          refine ⟨rfl, hKb, fun _ => ⟨bv, ev, bp, ?_, ?_⟩⟩
          · rw [HSG.out]; exact HKf.out
          · rw [HSG.out]; exact HBP.out
        · have HC := hide (show readC s (decide (i + 1 < segs.length)) = no by
            unfold readC; rw [HSG.out]; simp [h5])
          have h5' : (no == 5) = false := by simp [h5]
          have hn' : (no != 0) = true := by simp [hn0]
          have HN := hide hn0
          clear h5 hne HD hn0
          go_wp2_with fail
          go_ret
          exact ⟨ret_int HC.out.symm, hKb, fun e => absurd (HC.out.symm.trans e) HN.out⟩
      | ok y =>
        obtain ⟨b, n⟩ := y
        obtain ⟨hb1, hb2, hb3, hb4, hb5⟩ := decode_split hd
        have HD := hide (fun wx => dec_ok wx (s.drop e0) b n hd)
        have hnl : e0 + n ≤ s.length := by rw [List.length_drop] at hb5; omega
        have HL2 := hide (show Rights (l ++ [b]) ∧ e0 + n = (flatB (l ++ [b])).length ∧ s = flatB (l ++ [b]) ++ s.drop (e0 + n) by
          refine ⟨fun c hc => ?_, ?_, ?_⟩
          · rcases List.mem_append.1 hc with hc | hc
            · exact HL.out.1 c hc
            · rw [List.mem_singleton] at hc; subst hc; exact hb1
          · rw [flatB_app, flatB_one, List.length_append, ← HL.out.2.1, hb3]
          · rw [flatB_app, flatB_one, List.append_assoc, ← List.drop_drop, ← hb2]
            exact HL.out.2.2)
        have HES := hide (show endsB 0 (l ++ [b]) = endsB 0 l ++ [e0 + n] by rw [endsB_snoc, ← HL.out.2.1, hb3, Nat.zero_add])
        have hel : (endsB 0 l).length ≤ 1000 := by rw [endsB_len]; have := flatB_ge l; have := HL.out.2.1; omega
        have hbpl : bp.length ≤ 101000 := by
          have h1 := congrArg List.length HBP.out
          rw [List.length_append, List.length_map, List.length_map] at h1
          have := flatB_ge l; have := HL.out.2.1; omega
        have HB3 := hide (And.intro hb1 hb3)
        clear hd hb1 hb2 hb3 hb5 HL
        generalize endsB 0 l = es at *
        go_wp2_with fail
        rw [HX.out]
        refine (HD.out _).mono ?_
        rintro r w2 ⟨av, cv, rfl, hE2, hK2⟩
        obtain ⟨bn, bev⟩ := b
        simp only at hE2
        obtain ⟨W, hW⟩ : ∃ W, W = w2.alloc (.cells #[.int .i64 bn, .slice av bev.length cv] 24) := ⟨_, rfl⟩
        obtain ⟨bx, hbx⟩ : ∃ bx, bx = w2.heap.size := ⟨_, rfl⟩
        have hrW : Same wr W := by rw [hW]; exact hK2.alloc _
        have HBX := hide (show W.heap[bx]? = some (.cells #[.int .i64 bn, .slice av bev.length cv] 24 (0, 0)) by rw [hW, hbx]; exact heap_alloc_new _ _)
        have HEV := hide (show EvSl (fun k => wr.heap.size ≤ k ∧ k < W.heap.size) W (.slice av bev.length cv) bev by
          have h1 : EvSl (wr.heap.size ≤ ·) W (.slice av bev.length cv) bev := by rw [hW]; exact hE2.same ((Kept.refl _ w2).alloc _)
          exact h1.mono (fun k hk hp => ⟨hp, hk⟩))
        have hbxr : wr.heap.size ≤ bx := by rw [hbx]; exact hK2.size
        have HK0 := hide (HKr.out.same hrW)
        have hKW : Kept (B ≤ ·) w W := hKr.trans hrW (fun _ _ f => f.elim)
        have hBW : B ≤ W.heap.size := Nat.le_trans hBw hKW.size
        obtain ⟨ab, cb, hbv⟩ := own_slice HK0.out.bat
        obtain ⟨ae, ce, hev⟩ := own_slice HK0.out.end'
        subst hbv hev
        have hnr : Hid (∀ k, W.heap.size ≤ k → ¬ (some k = (Value.slice ab bp.length cb).ownBlock)) := fun k hk e => by have := (own_up HK0.out.bat k e.symm).2; omega
        have HCC : Hid (∀ wy, Kept (fun k => Row (.slice ab bp.length cb) k ∨ Row (.slice ae es.length ce) k) W wy → wy.cell? ⟨g, 2, none⟩ = some (.slice ab bp.length cb) ∧ wy.cell? ⟨g, 3, none⟩ = some (.slice ae es.length ce) ∧ wy.cell? ⟨bx, 0, none⟩ = some (.int .i64 bn) ∧ wy.cell? ⟨bx, 1, none⟩ = some (.slice av bev.length cv)) := by
          intro wy hk
          have hB1 : ¬ Row (.slice ab bp.length cb) bx := fun hr => by have := (own_up (HKr.out.bat) bx hr).2; omega
          have hE1 : ¬ Row (.slice ae es.length ce) bx := fun hr => by have := (own_up (HKr.out.end') bx hr).2; omega
          obtain ⟨u0, u1, u2, u3, _⟩ := blk4 (blk_kept HK0.out.blk hk (fun e => e.elim HK0.out.bg HK0.out.eg))
          obtain ⟨t0, t1⟩ := blk2 (blk_kept HBX.out hk (fun e => e.elim hB1 hE1))
          exact ⟨u2, u3, t0, t1⟩
        clear hK2 hE2
        go_wp2_with fail
        rw [← hW]
        rw [← hbx]
        clear hW hbx HD
        refine wp_region_noPanic ?_
        refine wp_till 16 (fun w' => w'.cell? ⟨g, 2, none⟩ = some (.slice ab bp.length cb) ∧ w'.cell? ⟨g, 3, none⟩ = some (.slice ae es.length ce) ∧ w'.cell? ⟨bx, 0, none⟩ = some (.int .i64 bn) ∧ w'.cell? ⟨bx, 1, none⟩ = some (.slice av bev.length cv)) (by kernel_rfl) ?_ (fun hC0 => ?_)
        · exact HCC.out _ (by repeat' (first | assumption | exact Kept.refl _ _ | refine Kept.drew ?_ | refine Kept.drewN ?_ _ | refine Kept.alloc ?_ _))
        refine till_any (i := 0) (v := ?v1) rfl (by kernel_rfl) (by kernel_rfl) (by kernel_rfl) (by kernel_rfl) (fun _ _ _ h => h) (Or.inl ⟨by rfl, ?hy1⟩) (fun _ => hC0) ?rest1
        case hy1 => (intro w hSw; (try dsimp only at hSw); go_simp <;> (with_reducible rfl))
        try simp only [Act.put, List.setIfInBounds_toArray]
        refine till_any (i := 1) (v := ?v2) rfl (by kernel_rfl) (by kernel_rfl) (by kernel_rfl) (by kernel_rfl) (fun _ _ _ h => h) (Or.inl ⟨by rfl, ?hy2⟩) (fun _ => hC0) ?rest2
        case hy2 => (intro w hSw; (try dsimp only at hSw); go_simp <;> (with_reducible rfl))
        try simp only [Act.put]
        refine till_any (i := 2) (v := ?v3) rfl (by kernel_rfl) (by kernel_rfl) (by kernel_rfl) (by kernel_rfl) (fun _ _ _ h => h) (Or.inl ⟨by rfl, ?hy3⟩) (fun _ => hC0) ?rest3
        case hy3 => (intro w hSw; (try dsimp only at hSw); go_simp <;> (with_reducible rfl))
        try simp only [Act.put]
        refine till_any (i := 3) (v := ?v4) rfl (by kernel_rfl) (by kernel_rfl) (by kernel_rfl) (by kernel_rfl) (fun _ _ _ h => h) (Or.inl ⟨by rfl, ?hy4⟩) (fun _ => hC0) ?rest4
        case hy4 => (intro w hSw; (try dsimp only at hSw); go_simp <;> (with_reducible rfl))
        try simp only [Act.put]
        refine till_any (i := 4) (v := ?v5) rfl (by kernel_rfl) (by kernel_rfl) (by kernel_rfl) (by kernel_rfl) (fun _ _ _ h => h) (Or.inl ⟨by rfl, ?hy5⟩) (fun _ => hC0) ?rest5
        case hy5 => (intro w hSw; (try dsimp only at hSw); go_simp <;> (with_reducible rfl))
        try simp only [Act.put]
        refine till_take (i := 5) (v := ?v6) rfl (by kernel_rfl) (by kernel_rfl) (by kernel_rfl) (by kernel_rfl) (fun _ _ _ h => h) (Or.inl ⟨by rfl, ?hy6⟩) hC0 ?rest6
        case hy6 => (intro w hSw; (try dsimp only at hSw); go_simp <;> (with_reducible rfl))
        try simp only [Act.put]
        refine till_take (i := 6) (v := ?v7) rfl (by kernel_rfl) (by kernel_rfl) (by kernel_rfl) (by kernel_rfl) (fun _ _ _ h => h) (Or.inl ⟨by rfl, ?hy7⟩) hC0 ?rest7
        case hy7 => (intro w hSw; (try dsimp only at hSw); go_simp <;> (with_reducible rfl))
        try simp only [Act.put]
        refine till_any (i := 9) (v := ?v8) rfl (by kernel_rfl) (by kernel_rfl) (by kernel_rfl) (by kernel_rfl) (fun _ _ _ h => h) (Or.inl ⟨by rfl, ?hy8⟩) (fun _ => hC0) ?rest8
        case hy8 => (intro w hSw; (try dsimp only at hSw); go_simp <;> (with_reducible rfl))
        try simp only [Act.put]
        refine till_any (i := 10) (v := ?v9) rfl (by kernel_rfl) (by kernel_rfl) (by kernel_rfl) (by kernel_rfl) (fun _ _ _ h => h) (Or.inl ⟨by rfl, ?hy9⟩) (fun _ => hC0) ?rest9
        case hy9 => (intro w hSw; (try dsimp only at hSw); go_simp <;> (with_reducible rfl))
        try simp only [Act.put]
        refine till_any (i := 11) (v := ?v10) rfl (by kernel_rfl) (by kernel_rfl) (by kernel_rfl) (by kernel_rfl) (fun _ _ _ h => h) (Or.inl ⟨by rfl, ?hy10⟩) (fun _ => hC0) ?rest10
        case hy10 => (intro w hSw; (try dsimp only at hSw); go_simp <;> (with_reducible rfl))
        try simp only [Act.put]
        refine till_take (i := 12) (v := ?v11) rfl (by kernel_rfl) (by kernel_rfl) (by kernel_rfl) (by kernel_rfl) (fun _ _ _ h => h) (Or.inl ⟨by rfl, ?hy11⟩) hC0 ?rest11
        case hy11 => (intro w hSw; (try dsimp only at hSw); go_simp <;> (with_reducible rfl))
        try simp only [Act.put]
        refine till_any (i := 13) (v := ?v12) rfl (by kernel_rfl) (by kernel_rfl) (by kernel_rfl) (by kernel_rfl) (fun _ _ _ h => h) (Or.inl ⟨by rfl, ?hy12⟩) (fun _ => hC0) ?rest12
        case hy12 => (intro w hSw; (try dsimp only at hSw); go_simp <;> (with_reducible rfl))
        try simp only [Act.put]
        refine till_ready (rs := [7, 14]) (by kernel_rfl) (by simp) ?_
        refine TillReady.cons rfl (fun K hK => ?_) (TillReady.cons rfl (fun K hK => ?_) TillReady.nil)
        · skip
          go_simp
          refine hK.out _ _ ?_ (fun hC13 => ?_)
          · first | (refine HCC.out _ ?_; (repeat' (first | exact Kept.refl _ _ | refine Kept.drew ?_ | refine Kept.drewN ?_ _ | refine Kept.alloc ?_ _)); done) | exact HCC.out _ (HR5.out.2.1.mono (fun _ _ h => .inl h)) | exact HCC.out _ ((HR5.out.2.1.alloc _).mono (fun _ _ h => .inl h))
          clear hK K hC0
          try simp only [Act.put, List.setIfInBounds_toArray, List.set_cons_zero, List.set_cons_succ]
          refine till_ready (rs := [8, 14]) (by kernel_rfl) (by simp) ?_
          refine TillReady.cons rfl (fun K hK => ?_) (TillReady.cons rfl (fun K hK => ?_) TillReady.nil)
          · skip
            refine step_append_at rfl (.tmp 51) (.tmp 53) 34 rfl B 24 i0 _ 2 32 Try.underlying34 hi hz0 hz1 hz2 rfl (by decide) (.slice ab bp.length cb) bp.length (bpCells bp) (by rfl) (own_kept2 (X := fun _ => False) HK0.out.bat (by repeat' (first | assumption | exact Kept.refl _ _ | refine Kept.drew ?_ | refine Kept.drewN ?_ _ | refine Kept.alloc ?_ _)) (fun _ _ f => f)) _ 1 1 [.int .i64 bn, .slice av bev.length cv] (by rfl) rfl (by intro j u hj; exact new_two (by first | exact heap_alloc_new _ _ | exact al_old _ _ _ | exact al_new _ _ _) j u hj) (by intro u hu; simp at hu; rcases hu with rfl | rfl <;> rfl) (by unfold maxLen; omega) (by omega) (by have := hBW; simp; omega) ?_
            intro v5 w5 hown5 hgr5 hat5
            obtain ⟨g5, cap5, hv5⟩ := own_form hown5 (by omega)
            subst hv5
            have hK5 : Kept (fun k => Row (.slice ab bp.length cb) k) W w5 := Kept.grown (by repeat' (first | assumption | exact Kept.refl _ _ | refine Kept.drew ?_ | refine Kept.drewN ?_ _ | refine Kept.alloc ?_ _)) hgr5 (fun k hk _ => hk)
            have hr5 : ∀ k, Row (.slice (some ⟨g5, 0, none⟩) (bp.length + 1) cap5) k → Row (.slice ab bp.length cb) k ∨ W.heap.size ≤ k := fun k hr => hat5.elim (fun e => .inl (e.symm.trans hr)) (fun e => .inr (by have : some _ = some k := e.symm.trans hr; cases this; first | exact Nat.le_refl _ | (simp; done) | (simp; omega)))
            have HR5 := hide (And.intro hown5 (And.intro hK5 (And.intro hr5 (grown_kept hgr5))))
            clear hown5 hgr5 hat5 hK5 hr5
            refine hK.out _ _ ?_ (fun hC14 => ?_)
            · first | (refine HCC.out _ ?_; (repeat' (first | exact Kept.refl _ _ | refine Kept.drew ?_ | refine Kept.drewN ?_ _ | refine Kept.alloc ?_ _)); done) | exact HCC.out _ (HR5.out.2.1.mono (fun _ _ h => .inl h)) | exact HCC.out _ ((HR5.out.2.1.alloc _).mono (fun _ _ h => .inl h))
            clear hK K hC13
            try simp only [Act.put, List.setIfInBounds_toArray]
            refine till_ready (rs := [14]) (by kernel_rfl) (by simp) ?_
            refine TillReady.cons rfl (fun K hK => ?_) TillReady.nil
            go_simp
            refine hK.out _ _ ?_ (fun hC15 => ?_)
            · first | (refine HCC.out _ ?_; (repeat' (first | exact Kept.refl _ _ | refine Kept.drew ?_ | refine Kept.drewN ?_ _ | refine Kept.alloc ?_ _)); done) | exact HCC.out _ (HR5.out.2.1.mono (fun _ _ h => .inl h)) | exact HCC.out _ ((HR5.out.2.1.alloc _).mono (fun _ _ h => .inl h))
            clear hK K hC14
            try simp only [Act.put, List.setIfInBounds_toArray, List.set_cons_zero, List.set_cons_succ]
            refine till_ready (rs := [15]) (by kernel_rfl) (by simp) ?_
            refine TillReady.cons rfl (fun K hK => ?_) TillReady.nil
            have hX5 := HR5.out.2.2.2
            refine step_append_at rfl (.tmp 58) (.tmp 60) 82 rfl B 3 j0 _ 1 8 Try.underlying82 hj hy0 hy1 hy2 rfl (by decide) (.slice ae es.length ce) es.length (inCells es) (by rfl) (own_kept2 (X := fun k => Row (.slice ab bp.length cb) k) HK0.out.end' (by first | exact HR5.out.2.1 | exact HR5.out.2.1.alloc _) (fun k hr e => HK0.out.be k e hr)) _ 1 1 [.int .i64 ((e0 : Int) + (n : Int))] (by rfl) rfl (by intro j u hj; refine new_one (t := 3) ?_ j u hj; first | exact heap_alloc_new _ _ | exact blk_kept' hX5 (al_new _ _ _) (fun e => hnr.out _ (Nat.le_succ _) e) | exact blk_kept' hX5 (al_old _ _ _) (fun e => hnr.out _ (Nat.le_refl _) e)) (by intro u hu; simp at hu; subst hu; rfl) (by unfold maxLen; omega) (by omega) (by have := hBW; have := HR5.out.2.1.size; first | omega | (simp; omega)) ?_
            intro v6 w6 hown6 hgr6 hat6
            obtain ⟨g6, cap6, hv6⟩ := own_form hown6 (by omega)
            subst hv6
            have hK6 : Kept (fun k => Row (.slice ae es.length ce) k) w5 w6 := Kept.grown (by repeat' (first | assumption | exact Kept.refl _ _ | refine Kept.drew ?_ | refine Kept.drewN ?_ _ | refine Kept.alloc ?_ _)) hgr6 (fun k hk _ => hk)
            have hr6 : ∀ k, Row (.slice (some ⟨g6, 0, none⟩) (es.length + 1) cap6) k → Row (.slice ae es.length ce) k ∨ w5.heap.size ≤ k := fun k hr => hat6.elim (fun e => .inl (e.symm.trans hr)) (fun e => .inr (by have : some _ = some k := e.symm.trans hr; cases this; first | exact Nat.le_refl _ | (simp; done) | (simp; omega)))
            have HR6 := hide (And.intro hown6 (And.intro hK6 hr6))
            clear hown6 hgr6 hat6 hK6 hr6 hX5
            have hG5 := blk_kept HK0.out.blk HR5.out.2.1 HK0.out.bg
            have hG6 := blk_kept hG5 HR6.out.2.1 HK0.out.eg
            obtain ⟨k0, k1, k2, k3, kf⟩ := blk4 hG6
            clear hG5
            refine hK.out _ _ ?_ (fun hC16 => ?_)
            · exact HCC.out _ ((HR5.out.2.1.mono (Y := fun k => Row (.slice ab bp.length cb) k ∨ Row (.slice ae es.length ce) k) (fun _ _ h => .inl h)).trans (HR6.out.2.1.mono (Y := fun k => Row (.slice ab bp.length cb) k ∨ Row (.slice ae es.length ce) k) (fun _ _ h => .inr h)) (fun _ _ h => h))
            clear hK K hC15
            try simp only [Act.put, List.setIfInBounds_toArray]
            refine till_ready (rs := [16]) (by kernel_rfl) (by simp) ?_
            refine TillReady.free rfl (by kernel_rfl) (fun K hK => ?_) TillReady.nil
            go_simp
            refine hK.out _ _ ?_
            clear hK K
            try simp only [Act.put, List.setIfInBounds_toArray, List.set_cons_zero, List.set_cons_succ]
            refine till_any (i := 17) (v := ?v18) rfl (by kernel_rfl) (by kernel_rfl) (by kernel_rfl) (by kernel_rfl) (fun _ _ _ h => h) (Or.inl ⟨by rfl, ?hy18⟩) (fun h => (Bool.false_ne_true (h.symm.trans (by kernel_rfl))).elim) ?rest18
            case hy18 => (intro w hSw; (try dsimp only at hSw); go_simp <;> (with_reducible rfl))
            try simp only [Act.put, List.setIfInBounds_toArray]
            refine till_ready (rs := [18]) (by kernel_rfl) (by simp) ?_
            refine TillReady.free rfl (by kernel_rfl) (fun K hK => ?_) TillReady.nil
            go_simp
            refine hK.out _ _ ?_
            clear hK K
            try simp only [Act.put, List.setIfInBounds_toArray, List.set_cons_zero, List.set_cons_succ]
            refine till_any (i := 19) (v := ?v20) rfl (by kernel_rfl) (by kernel_rfl) (by kernel_rfl) (by kernel_rfl) (fun _ _ _ h => h) (Or.inl ⟨by rfl, ?hy20⟩) (fun h => (Bool.false_ne_true (h.symm.trans (by kernel_rfl))).elim) ?rest20
            case hy20 => (intro w hSw; (try dsimp only at hSw); go_simp <;> (with_reducible rfl))
            try simp only [Act.put, List.setIfInBounds_toArray]
            refine till_any (i := 20) (v := ?v21) rfl (by kernel_rfl) (by kernel_rfl) (by kernel_rfl) (by kernel_rfl) (fun _ _ _ h => h) (Or.inl ⟨by rfl, ?hy21⟩) (fun h => (Bool.false_ne_true (h.symm.trans (by kernel_rfl))).elim) ?rest21
            case hy21 => (intro w hSw; (try dsimp only at hSw); go_simp <;> (with_reducible rfl))
            try simp only [Act.put]
            refine till_ready (rs := [21]) (by kernel_rfl) (by simp) ?_
            refine TillReady.free rfl (by kernel_rfl) (fun K hK => ?_) TillReady.nil
            go_simp
            refine hK.out _ _ ?_
            clear hK K
            try simp only [Act.put, List.setIfInBounds_toArray, List.set_cons_zero, List.set_cons_succ]
            refine till_done (by kernel_rfl) ?_ _
            refine NoPanic.normal ?_
            have hBle : B ≤ wr.heap.size := Nat.le_trans hBw hKr.size
            have hrWs := hrW.size
            have lsv : ∀ k, Row (.slice (some ⟨bs, os, none⟩) segs.length cs) k → k < wr.heap.size := fun k hr => (own_up HKr.out.own k hr).2
            have lbv : ∀ k, Row (.slice ab bp.length cb) k → k < wr.heap.size := fun k hr => (own_up HKr.out.bat k hr).2
            have lev : ∀ k, Row (.slice ae es.length ce) k → k < wr.heap.size := fun k hr => (own_up HKr.out.end' k hr).2
            have lg : g < wr.heap.size := (Array.getElem?_eq_some_iff.1 HKr.out.blk).1
            obtain ⟨ho5, hk5, hr5, _⟩ := HR5.out
            obtain ⟨ho6, hk6, hr6⟩ := HR6.out
            have h5s := hk5.size
            have lv5 : ∀ k, Row (.slice (some ⟨g5, 0, none⟩) (bp.length + 1) cap5) k → k < w5.heap.size := fun k hr => (own_up ho5 k hr).2
            have hv5g : ¬ Row (.slice (some ⟨g5, 0, none⟩) (bp.length + 1) cap5) g := fun hr => (hr5 g hr).elim HK0.out.bg (fun hx => by omega)
            have hv6g : ¬ Row (.slice (some ⟨g6, 0, none⟩) (es.length + 1) cap6) g := fun hr => (hr6 g hr).elim HK0.out.eg (fun hx => by omega)
            have hKs : Kept (· = g) w6 ((w6.setCell ⟨g, 2, none⟩ (.slice (some ⟨g5, 0, none⟩) (bp.length + 1) cap5)).setCell ⟨g, 3, none⟩ (.slice (some ⟨g6, 0, none⟩) (es.length + 1) cap6)) := ((Kept.refl _ w6).setB 2 _).setB 3 _
            have hk56 : Kept (fun k => Row (.slice ab bp.length cb) k ∨ Row (.slice ae es.length ce) k ∨ k = g) W w6 := (hk5.mono (fun _ _ h => .inl h)).trans (hk6.mono (Y := fun k => Row (.slice ab bp.length cb) k ∨ Row (.slice ae es.length ce) k ∨ k = g) (fun _ _ h => .inr (.inl h))) (fun _ _ h => h)
            have hkF := hk56.trans hKs (fun i _ hi => .inr (.inr hi))
            have ho5' := own_kept2 ho5 hk6 (fun k hr e => (hr5 k hr).elim (fun a => HK0.out.be k a e) (fun a => by have := lev k e; omega))
            have HF : Hid (KW B ((w6.setCell ⟨g, 2, none⟩ (.slice (some ⟨g5, 0, none⟩) (bp.length + 1) cap5)).setCell ⟨g, 3, none⟩ (.slice (some ⟨g6, 0, none⟩) (es.length + 1) cap6)) g (.slice (some ⟨bs, os, none⟩) segs.length cs) (.slice (some ⟨g5, 0, none⟩) (bp.length + 1) cap5) (.slice (some ⟨g6, 0, none⟩) (es.length + 1) cap6) segs syn (bp ++ [(⟨bn, bev⟩, .slice av bev.length cv)]) (es ++ [e0 + n])) := by
              refine HK0.out.turn (hkF.mono (fun _ _ h => .inr h)) ?_ ?_ ?_ ?_ (fun k hr => .inl hr) hr5 (fun k hr => (hr6 k hr).imp id (fun hx => by omega)) (fun k hk => ⟨fun hh => ?_, fun hh => ?_, fun hh => ?_⟩) (fun p hp => ?_) HK0.out.len HK0.out.each
              · simp only [World.setCell]
                rw [Array.getElem?_modify, if_pos rfl, Array.getElem?_modify, if_pos rfl, hG6]
                simp
              · exact own_kept2 HK0.out.own hkF (fun k hr e => by
                  rcases e with e | e | e
                  · exact HK0.out.sb k hr e
                  · exact HK0.out.se k hr e
                  · exact HK0.out.sg (by rw [← e]; exact hr))
              · rw [List.length_append, bpCells_app]
                exact own_kept2 ho5' hKs (fun k hr e => hv5g (by rw [← e]; exact hr))
              · rw [List.length_append, inCells_app]
                have : inCells [e0 + n] = [.int .i64 ((e0 : Int) + (n : Int))] := by simp [inCells]
                rw [this]
                exact own_kept2 ho6 hKs (fun k hr e => hv6g (by rw [← e]; exact hr))
              · have := lsv k hh.1; omega
              · have := lsv k hh.1; omega
              · have h1 := lv5 k hh.1
                rcases hr6 k hh.2 with h2 | h2
                · have := lev k h2; omega
                · omega
              · rcases List.mem_append.1 hp with hp | hp
                · exact .inl hp
                · rw [List.mem_singleton] at hp
                  subst hp
                  refine .inr ((HEV.out.keep hkF (fun k hk e => ?_)).mono (fun k _ hk => ?_))
                  · rcases e with e | e | e
                    · have := lbv k e; omega
                    · have := lev k e; omega
                    · omega
                  · refine ⟨by omega, by omega, fun hr => by have := lsv k hr; omega, fun hr => ?_, fun hr => ?_⟩
                    · rcases hr5 k hr with h2 | h2
                      · have := lbv k h2; omega
                      · omega
                    · rcases hr6 k hr with h2 | h2
                      · have := lev k h2; omega
                      · omega
            have HKF : Hid (Kept (B ≤ ·) w ((w6.setCell ⟨g, 2, none⟩ (.slice (some ⟨g5, 0, none⟩) (bp.length + 1) cap5)).setCell ⟨g, 3, none⟩ (.slice (some ⟨g6, 0, none⟩) (es.length + 1) cap6))) := hKW.trans hkF (fun k _ e => by
              rcases e with e | e | e
              · exact own_row HK0.out.bat k e
              · exact own_row HK0.out.end' k e
              · rw [e]; exact hgB)
            clear hBle hrWs lsv lbv lev lg ho5 hk5 hr5 ho6 hk6 hr6 h5s lv5 hv5g hv6g hKs hk56 hkF ho5' HR5 HR6 hG6 HK0 HCC HEV HBX
            go_wp2_with fail
            go_roundg (gk - n)
            case measure => omega
            case rel =>
              exact ⟨e0 + n, l ++ [⟨bn, bev⟩], _, _, _, by go_num, by omega, HKF.out, hide (by rw [HES.out]; exact HF.out), hide (by rw [List.map_append, HBP.out, List.append_assoc]; rfl), HL2⟩
          · skip
            go_simp
            refine hK.out _ _ ?_ (fun hC23 => ?_)
            · first | (refine HCC.out _ ?_; (repeat' (first | exact Kept.refl _ _ | refine Kept.drew ?_ | refine Kept.drewN ?_ _ | refine Kept.alloc ?_ _)); done) | exact HCC.out _ (HR5.out.2.1.mono (fun _ _ h => .inl h)) | exact HCC.out _ ((HR5.out.2.1.alloc _).mono (fun _ _ h => .inl h))
            clear hK K hC13
            try simp only [Act.put, List.setIfInBounds_toArray, List.set_cons_zero, List.set_cons_succ]
            refine till_ready (rs := [8]) (by kernel_rfl) (by simp) ?_
            refine TillReady.cons rfl (fun K hK => ?_) TillReady.nil
            refine step_append_at rfl (.tmp 51) (.tmp 53) 34 rfl B 24 i0 _ 2 32 Try.underlying34 hi hz0 hz1 hz2 rfl (by decide) (.slice ab bp.length cb) bp.length (bpCells bp) (by rfl) (own_kept2 (X := fun _ => False) HK0.out.bat (by repeat' (first | assumption | exact Kept.refl _ _ | refine Kept.drew ?_ | refine Kept.drewN ?_ _ | refine Kept.alloc ?_ _)) (fun _ _ f => f)) _ 1 1 [.int .i64 bn, .slice av bev.length cv] (by rfl) rfl (by intro j u hj; exact new_two (by first | exact heap_alloc_new _ _ | exact al_old _ _ _ | exact al_new _ _ _) j u hj) (by intro u hu; simp at hu; rcases hu with rfl | rfl <;> rfl) (by unfold maxLen; omega) (by omega) (by have := hBW; simp; omega) ?_
            intro v5 w5 hown5 hgr5 hat5
            obtain ⟨g5, cap5, hv5⟩ := own_form hown5 (by omega)
            subst hv5
            have hK5 : Kept (fun k => Row (.slice ab bp.length cb) k) W w5 := Kept.grown (by repeat' (first | assumption | exact Kept.refl _ _ | refine Kept.drew ?_ | refine Kept.drewN ?_ _ | refine Kept.alloc ?_ _)) hgr5 (fun k hk _ => hk)
            have hr5 : ∀ k, Row (.slice (some ⟨g5, 0, none⟩) (bp.length + 1) cap5) k → Row (.slice ab bp.length cb) k ∨ W.heap.size ≤ k := fun k hr => hat5.elim (fun e => .inl (e.symm.trans hr)) (fun e => .inr (by have : some _ = some k := e.symm.trans hr; cases this; first | exact Nat.le_refl _ | (simp; done) | (simp; omega)))
            have HR5 := hide (And.intro hown5 (And.intro hK5 (And.intro hr5 (grown_kept hgr5))))
            clear hown5 hgr5 hat5 hK5 hr5
            refine hK.out _ _ ?_ (fun hC24 => ?_)
            · first | (refine HCC.out _ ?_; (repeat' (first | exact Kept.refl _ _ | refine Kept.drew ?_ | refine Kept.drewN ?_ _ | refine Kept.alloc ?_ _)); done) | exact HCC.out _ (HR5.out.2.1.mono (fun _ _ h => .inl h)) | exact HCC.out _ ((HR5.out.2.1.alloc _).mono (fun _ _ h => .inl h))
            clear hK K hC23
            try simp only [Act.put, List.setIfInBounds_toArray]
            refine till_ready (rs := [15]) (by kernel_rfl) (by simp) ?_
            refine TillReady.cons rfl (fun K hK => ?_) TillReady.nil
            have hX5 := HR5.out.2.2.2
            refine step_append_at rfl (.tmp 58) (.tmp 60) 82 rfl B 3 j0 _ 1 8 Try.underlying82 hj hy0 hy1 hy2 rfl (by decide) (.slice ae es.length ce) es.length (inCells es) (by rfl) (own_kept2 (X := fun k => Row (.slice ab bp.length cb) k) HK0.out.end' (by first | exact HR5.out.2.1 | exact HR5.out.2.1.alloc _) (fun k hr e => HK0.out.be k e hr)) _ 1 1 [.int .i64 ((e0 : Int) + (n : Int))] (by rfl) rfl (by intro j u hj; refine new_one (t := 3) ?_ j u hj; first | exact heap_alloc_new _ _ | exact blk_kept' hX5 (al_new _ _ _) (fun e => hnr.out _ (Nat.le_succ _) e) | exact blk_kept' hX5 (al_old _ _ _) (fun e => hnr.out _ (Nat.le_refl _) e)) (by intro u hu; simp at hu; subst hu; rfl) (by unfold maxLen; omega) (by omega) (by have := hBW; have := HR5.out.2.1.size; first | omega | (simp; omega)) ?_
            intro v6 w6 hown6 hgr6 hat6
            obtain ⟨g6, cap6, hv6⟩ := own_form hown6 (by omega)
            subst hv6
            have hK6 : Kept (fun k => Row (.slice ae es.length ce) k) w5 w6 := Kept.grown (by repeat' (first | assumption | exact Kept.refl _ _ | refine Kept.drew ?_ | refine Kept.drewN ?_ _ | refine Kept.alloc ?_ _)) hgr6 (fun k hk _ => hk)
            have hr6 : ∀ k, Row (.slice (some ⟨g6, 0, none⟩) (es.length + 1) cap6) k → Row (.slice ae es.length ce) k ∨ w5.heap.size ≤ k := fun k hr => hat6.elim (fun e => .inl (e.symm.trans hr)) (fun e => .inr (by have : some _ = some k := e.symm.trans hr; cases this; first | exact Nat.le_refl _ | (simp; done) | (simp; omega)))
            have HR6 := hide (And.intro hown6 (And.intro hK6 hr6))
            clear hown6 hgr6 hat6 hK6 hr6 hX5
            have hG5 := blk_kept HK0.out.blk HR5.out.2.1 HK0.out.bg
            have hG6 := blk_kept hG5 HR6.out.2.1 HK0.out.eg
            obtain ⟨k0, k1, k2, k3, kf⟩ := blk4 hG6
            clear hG5
            refine hK.out _ _ ?_ (fun hC25 => ?_)
            · exact HCC.out _ ((HR5.out.2.1.mono (Y := fun k => Row (.slice ab bp.length cb) k ∨ Row (.slice ae es.length ce) k) (fun _ _ h => .inl h)).trans (HR6.out.2.1.mono (Y := fun k => Row (.slice ab bp.length cb) k ∨ Row (.slice ae es.length ce) k) (fun _ _ h => .inr h)) (fun _ _ h => h))
            clear hK K hC24
            try simp only [Act.put]
            refine till_ready (rs := [16]) (by kernel_rfl) (by simp) ?_
            refine TillReady.free rfl (by kernel_rfl) (fun K hK => ?_) TillReady.nil
            go_simp
            refine hK.out _ _ ?_
            clear hK K
            try simp only [Act.put, List.setIfInBounds_toArray, List.set_cons_zero, List.set_cons_succ]
            refine till_any (i := 17) (v := ?v27) rfl (by kernel_rfl) (by kernel_rfl) (by kernel_rfl) (by kernel_rfl) (fun _ _ _ h => h) (Or.inl ⟨by rfl, ?hy27⟩) (fun h => (Bool.false_ne_true (h.symm.trans (by kernel_rfl))).elim) ?rest27
            case hy27 => (intro w hSw; (try dsimp only at hSw); go_simp <;> (with_reducible rfl))
            try simp only [Act.put, List.setIfInBounds_toArray]
            refine till_ready (rs := [18]) (by kernel_rfl) (by simp) ?_
            refine TillReady.free rfl (by kernel_rfl) (fun K hK => ?_) TillReady.nil
            go_simp
            refine hK.out _ _ ?_
            clear hK K
            try simp only [Act.put, List.setIfInBounds_toArray, List.set_cons_zero, List.set_cons_succ]
            refine till_any (i := 19) (v := ?v29) rfl (by kernel_rfl) (by kernel_rfl) (by kernel_rfl) (by kernel_rfl) (fun _ _ _ h => h) (Or.inl ⟨by rfl, ?hy29⟩) (fun h => (Bool.false_ne_true (h.symm.trans (by kernel_rfl))).elim) ?rest29
            case hy29 => (intro w hSw; (try dsimp only at hSw); go_simp <;> (with_reducible rfl))
            try simp only [Act.put, List.setIfInBounds_toArray]
            refine till_any (i := 20) (v := ?v30) rfl (by kernel_rfl) (by kernel_rfl) (by kernel_rfl) (by kernel_rfl) (fun _ _ _ h => h) (Or.inl ⟨by rfl, ?hy30⟩) (fun h => (Bool.false_ne_true (h.symm.trans (by kernel_rfl))).elim) ?rest30
            case hy30 => (intro w hSw; (try dsimp only at hSw); go_simp <;> (with_reducible rfl))
            try simp only [Act.put]
            refine till_ready (rs := [21]) (by kernel_rfl) (by simp) ?_
            refine TillReady.free rfl (by kernel_rfl) (fun K hK => ?_) TillReady.nil
            go_simp
            refine hK.out _ _ ?_
            clear hK K
            try simp only [Act.put, List.setIfInBounds_toArray, List.set_cons_zero, List.set_cons_succ]
            refine till_done (by kernel_rfl) ?_ _
            refine NoPanic.normal ?_
            have hBle : B ≤ wr.heap.size := Nat.le_trans hBw hKr.size
            have hrWs := hrW.size
            have lsv : ∀ k, Row (.slice (some ⟨bs, os, none⟩) segs.length cs) k → k < wr.heap.size := fun k hr => (own_up HKr.out.own k hr).2
            have lbv : ∀ k, Row (.slice ab bp.length cb) k → k < wr.heap.size := fun k hr => (own_up HKr.out.bat k hr).2
            have lev : ∀ k, Row (.slice ae es.length ce) k → k < wr.heap.size := fun k hr => (own_up HKr.out.end' k hr).2
            have lg : g < wr.heap.size := (Array.getElem?_eq_some_iff.1 HKr.out.blk).1
            obtain ⟨ho5, hk5, hr5, _⟩ := HR5.out
            obtain ⟨ho6, hk6, hr6⟩ := HR6.out
            have h5s := hk5.size
            have lv5 : ∀ k, Row (.slice (some ⟨g5, 0, none⟩) (bp.length + 1) cap5) k → k < w5.heap.size := fun k hr => (own_up ho5 k hr).2
            have hv5g : ¬ Row (.slice (some ⟨g5, 0, none⟩) (bp.length + 1) cap5) g := fun hr => (hr5 g hr).elim HK0.out.bg (fun hx => by omega)
            have hv6g : ¬ Row (.slice (some ⟨g6, 0, none⟩) (es.length + 1) cap6) g := fun hr => (hr6 g hr).elim HK0.out.eg (fun hx => by omega)
            have hKs : Kept (· = g) w6 ((w6.setCell ⟨g, 2, none⟩ (.slice (some ⟨g5, 0, none⟩) (bp.length + 1) cap5)).setCell ⟨g, 3, none⟩ (.slice (some ⟨g6, 0, none⟩) (es.length + 1) cap6)) := ((Kept.refl _ w6).setB 2 _).setB 3 _
            have hk56 : Kept (fun k => Row (.slice ab bp.length cb) k ∨ Row (.slice ae es.length ce) k ∨ k = g) W w6 := (hk5.mono (fun _ _ h => .inl h)).trans (hk6.mono (Y := fun k => Row (.slice ab bp.length cb) k ∨ Row (.slice ae es.length ce) k ∨ k = g) (fun _ _ h => .inr (.inl h))) (fun _ _ h => h)
            have hkF := hk56.trans hKs (fun i _ hi => .inr (.inr hi))
            have ho5' := own_kept2 ho5 hk6 (fun k hr e => (hr5 k hr).elim (fun a => HK0.out.be k a e) (fun a => by have := lev k e; omega))
            have HF : Hid (KW B ((w6.setCell ⟨g, 2, none⟩ (.slice (some ⟨g5, 0, none⟩) (bp.length + 1) cap5)).setCell ⟨g, 3, none⟩ (.slice (some ⟨g6, 0, none⟩) (es.length + 1) cap6)) g (.slice (some ⟨bs, os, none⟩) segs.length cs) (.slice (some ⟨g5, 0, none⟩) (bp.length + 1) cap5) (.slice (some ⟨g6, 0, none⟩) (es.length + 1) cap6) segs syn (bp ++ [(⟨bn, bev⟩, .slice av bev.length cv)]) (es ++ [e0 + n])) := by
              refine HK0.out.turn (hkF.mono (fun _ _ h => .inr h)) ?_ ?_ ?_ ?_ (fun k hr => .inl hr) hr5 (fun k hr => (hr6 k hr).imp id (fun hx => by omega)) (fun k hk => ⟨fun hh => ?_, fun hh => ?_, fun hh => ?_⟩) (fun p hp => ?_) HK0.out.len HK0.out.each
              · simp only [World.setCell]
                rw [Array.getElem?_modify, if_pos rfl, Array.getElem?_modify, if_pos rfl, hG6]
                simp
              · exact own_kept2 HK0.out.own hkF (fun k hr e => by
                  rcases e with e | e | e
                  · exact HK0.out.sb k hr e
                  · exact HK0.out.se k hr e
                  · exact HK0.out.sg (by rw [← e]; exact hr))
              · rw [List.length_append, bpCells_app]
                exact own_kept2 ho5' hKs (fun k hr e => hv5g (by rw [← e]; exact hr))
              · rw [List.length_append, inCells_app]
                have : inCells [e0 + n] = [.int .i64 ((e0 : Int) + (n : Int))] := by simp [inCells]
                rw [this]
                exact own_kept2 ho6 hKs (fun k hr e => hv6g (by rw [← e]; exact hr))
              · have := lsv k hh.1; omega
              · have := lsv k hh.1; omega
              · have h1 := lv5 k hh.1
                rcases hr6 k hh.2 with h2 | h2
                · have := lev k h2; omega
                · omega
              · rcases List.mem_append.1 hp with hp | hp
                · exact .inl hp
                · rw [List.mem_singleton] at hp
                  subst hp
                  refine .inr ((HEV.out.keep hkF (fun k hk e => ?_)).mono (fun k _ hk => ?_))
                  · rcases e with e | e | e
                    · have := lbv k e; omega
                    · have := lev k e; omega
                    · omega
                  · refine ⟨by omega, by omega, fun hr => by have := lsv k hr; omega, fun hr => ?_, fun hr => ?_⟩
                    · rcases hr5 k hr with h2 | h2
                      · have := lbv k h2; omega
                      · omega
                    · rcases hr6 k hr with h2 | h2
                      · have := lev k h2; omega
                      · omega
            have HKF : Hid (Kept (B ≤ ·) w ((w6.setCell ⟨g, 2, none⟩ (.slice (some ⟨g5, 0, none⟩) (bp.length + 1) cap5)).setCell ⟨g, 3, none⟩ (.slice (some ⟨g6, 0, none⟩) (es.length + 1) cap6))) := hKW.trans hkF (fun k _ e => by
              rcases e with e | e | e
              · exact own_row HK0.out.bat k e
              · exact own_row HK0.out.end' k e
              · rw [e]; exact hgB)
            clear hBle hrWs lsv lbv lev lg ho5 hk5 hr5 ho6 hk6 hr6 h5s lv5 hv5g hv6g hKs hk56 hkF ho5' HR5 HR6 hG6 HK0 HCC HEV HBX
            go_wp2_with fail
            go_roundg (gk - n)
            case measure => omega
            case rel =>
              exact ⟨e0 + n, l ++ [⟨bn, bev⟩], _, _, _, by go_num, by omega, HKF.out, hide (by rw [HES.out]; exact HF.out), hide (by rw [List.map_append, HBP.out, List.append_assoc]; rfl), HL2⟩
        · skip
          go_simp
          refine hK.out _ _ ?_ (fun hC32 => ?_)
          · first | (refine HCC.out _ ?_; (repeat' (first | exact Kept.refl _ _ | refine Kept.drew ?_ | refine Kept.drewN ?_ _ | refine Kept.alloc ?_ _)); done) | exact HCC.out _ (HR5.out.2.1.mono (fun _ _ h => .inl h)) | exact HCC.out _ ((HR5.out.2.1.alloc _).mono (fun _ _ h => .inl h))
          clear hK K hC0
          try simp only [Act.put, List.setIfInBounds_toArray, List.set_cons_zero, List.set_cons_succ]
          refine till_ready (rs := [7]) (by kernel_rfl) (by simp) ?_
          refine TillReady.cons rfl (fun K hK => ?_) TillReady.nil
          go_simp
          refine hK.out _ _ ?_ (fun hC33 => ?_)
          · first | (refine HCC.out _ ?_; (repeat' (first | exact Kept.refl _ _ | refine Kept.drew ?_ | refine Kept.drewN ?_ _ | refine Kept.alloc ?_ _)); done) | exact HCC.out _ (HR5.out.2.1.mono (fun _ _ h => .inl h)) | exact HCC.out _ ((HR5.out.2.1.alloc _).mono (fun _ _ h => .inl h))
          clear hK K hC32
          try simp only [Act.put, List.setIfInBounds_toArray, List.set_cons_zero, List.set_cons_succ]
          refine till_ready (rs := [8]) (by kernel_rfl) (by simp) ?_
          refine TillReady.cons rfl (fun K hK => ?_) TillReady.nil
          refine step_append_at rfl (.tmp 51) (.tmp 53) 34 rfl B 24 i0 _ 2 32 Try.underlying34 hi hz0 hz1 hz2 rfl (by decide) (.slice ab bp.length cb) bp.length (bpCells bp) (by rfl) (own_kept2 (X := fun _ => False) HK0.out.bat (by repeat' (first | assumption | exact Kept.refl _ _ | refine Kept.drew ?_ | refine Kept.drewN ?_ _ | refine Kept.alloc ?_ _)) (fun _ _ f => f)) _ 1 1 [.int .i64 bn, .slice av bev.length cv] (by rfl) rfl (by intro j u hj; exact new_two (by first | exact heap_alloc_new _ _ | exact al_old _ _ _ | exact al_new _ _ _) j u hj) (by intro u hu; simp at hu; rcases hu with rfl | rfl <;> rfl) (by unfold maxLen; omega) (by omega) (by have := hBW; simp; omega) ?_
          intro v5 w5 hown5 hgr5 hat5
          obtain ⟨g5, cap5, hv5⟩ := own_form hown5 (by omega)
          subst hv5
          have hK5 : Kept (fun k => Row (.slice ab bp.length cb) k) W w5 := Kept.grown (by repeat' (first | assumption | exact Kept.refl _ _ | refine Kept.drew ?_ | refine Kept.drewN ?_ _ | refine Kept.alloc ?_ _)) hgr5 (fun k hk _ => hk)
          have hr5 : ∀ k, Row (.slice (some ⟨g5, 0, none⟩) (bp.length + 1) cap5) k → Row (.slice ab bp.length cb) k ∨ W.heap.size ≤ k := fun k hr => hat5.elim (fun e => .inl (e.symm.trans hr)) (fun e => .inr (by have : some _ = some k := e.symm.trans hr; cases this; first | exact Nat.le_refl _ | (simp; done) | (simp; omega)))
          have HR5 := hide (And.intro hown5 (And.intro hK5 (And.intro hr5 (grown_kept hgr5))))
          clear hown5 hgr5 hat5 hK5 hr5
          refine hK.out _ _ ?_ (fun hC34 => ?_)
          · first | (refine HCC.out _ ?_; (repeat' (first | exact Kept.refl _ _ | refine Kept.drew ?_ | refine Kept.drewN ?_ _ | refine Kept.alloc ?_ _)); done) | exact HCC.out _ (HR5.out.2.1.mono (fun _ _ h => .inl h)) | exact HCC.out _ ((HR5.out.2.1.alloc _).mono (fun _ _ h => .inl h))
          clear hK K hC33
          try simp only [Act.put, List.setIfInBounds_toArray]
          refine till_ready (rs := [15]) (by kernel_rfl) (by simp) ?_
          refine TillReady.cons rfl (fun K hK => ?_) TillReady.nil
          have hX5 := HR5.out.2.2.2
          refine step_append_at rfl (.tmp 58) (.tmp 60) 82 rfl B 3 j0 _ 1 8 Try.underlying82 hj hy0 hy1 hy2 rfl (by decide) (.slice ae es.length ce) es.length (inCells es) (by rfl) (own_kept2 (X := fun k => Row (.slice ab bp.length cb) k) HK0.out.end' (by first | exact HR5.out.2.1 | exact HR5.out.2.1.alloc _) (fun k hr e => HK0.out.be k e hr)) _ 1 1 [.int .i64 ((e0 : Int) + (n : Int))] (by rfl) rfl (by intro j u hj; refine new_one (t := 3) ?_ j u hj; first | exact heap_alloc_new _ _ | exact blk_kept' hX5 (al_new _ _ _) (fun e => hnr.out _ (Nat.le_succ _) e) | exact blk_kept' hX5 (al_old _ _ _) (fun e => hnr.out _ (Nat.le_refl _) e)) (by intro u hu; simp at hu; subst hu; rfl) (by unfold maxLen; omega) (by omega) (by have := hBW; have := HR5.out.2.1.size; first | omega | (simp; omega)) ?_
          intro v6 w6 hown6 hgr6 hat6
          obtain ⟨g6, cap6, hv6⟩ := own_form hown6 (by omega)
          subst hv6
          have hK6 : Kept (fun k => Row (.slice ae es.length ce) k) w5 w6 := Kept.grown (by repeat' (first | assumption | exact Kept.refl _ _ | refine Kept.drew ?_ | refine Kept.drewN ?_ _ | refine Kept.alloc ?_ _)) hgr6 (fun k hk _ => hk)
          have hr6 : ∀ k, Row (.slice (some ⟨g6, 0, none⟩) (es.length + 1) cap6) k → Row (.slice ae es.length ce) k ∨ w5.heap.size ≤ k := fun k hr => hat6.elim (fun e => .inl (e.symm.trans hr)) (fun e => .inr (by have : some _ = some k := e.symm.trans hr; cases this; first | exact Nat.le_refl _ | (simp; done) | (simp; omega)))
          have HR6 := hide (And.intro hown6 (And.intro hK6 hr6))
          clear hown6 hgr6 hat6 hK6 hr6 hX5
          have hG5 := blk_kept HK0.out.blk HR5.out.2.1 HK0.out.bg
          have hG6 := blk_kept hG5 HR6.out.2.1 HK0.out.eg
          obtain ⟨k0, k1, k2, k3, kf⟩ := blk4 hG6
          clear hG5
          refine hK.out _ _ ?_ (fun hC35 => ?_)
          · exact HCC.out _ ((HR5.out.2.1.mono (Y := fun k => Row (.slice ab bp.length cb) k ∨ Row (.slice ae es.length ce) k) (fun _ _ h => .inl h)).trans (HR6.out.2.1.mono (Y := fun k => Row (.slice ab bp.length cb) k ∨ Row (.slice ae es.length ce) k) (fun _ _ h => .inr h)) (fun _ _ h => h))
          clear hK K hC34
          try simp only [Act.put]
          refine till_ready (rs := [16]) (by kernel_rfl) (by simp) ?_
          refine TillReady.free rfl (by kernel_rfl) (fun K hK => ?_) TillReady.nil
          go_simp
          refine hK.out _ _ ?_
          clear hK K
          try simp only [Act.put, List.setIfInBounds_toArray, List.set_cons_zero, List.set_cons_succ]
          refine till_any (i := 17) (v := ?v37) rfl (by kernel_rfl) (by kernel_rfl) (by kernel_rfl) (by kernel_rfl) (fun _ _ _ h => h) (Or.inl ⟨by rfl, ?hy37⟩) (fun h => (Bool.false_ne_true (h.symm.trans (by kernel_rfl))).elim) ?rest37
          case hy37 => (intro w hSw; (try dsimp only at hSw); go_simp <;> (with_reducible rfl))
          try simp only [Act.put, List.setIfInBounds_toArray]
          refine till_ready (rs := [18]) (by kernel_rfl) (by simp) ?_
          refine TillReady.free rfl (by kernel_rfl) (fun K hK => ?_) TillReady.nil
          go_simp
          refine hK.out _ _ ?_
          clear hK K
          try simp only [Act.put, List.setIfInBounds_toArray, List.set_cons_zero, List.set_cons_succ]
          refine till_any (i := 19) (v := ?v39) rfl (by kernel_rfl) (by kernel_rfl) (by kernel_rfl) (by kernel_rfl) (fun _ _ _ h => h) (Or.inl ⟨by rfl, ?hy39⟩) (fun h => (Bool.false_ne_true (h.symm.trans (by kernel_rfl))).elim) ?rest39
          case hy39 => (intro w hSw; (try dsimp only at hSw); go_simp <;> (with_reducible rfl))
          try simp only [Act.put, List.setIfInBounds_toArray]
          refine till_any (i := 20) (v := ?v40) rfl (by kernel_rfl) (by kernel_rfl) (by kernel_rfl) (by kernel_rfl) (fun _ _ _ h => h) (Or.inl ⟨by rfl, ?hy40⟩) (fun h => (Bool.false_ne_true (h.symm.trans (by kernel_rfl))).elim) ?rest40
          case hy40 => (intro w hSw; (try dsimp only at hSw); go_simp <;> (with_reducible rfl))
          try simp only [Act.put]
          refine till_ready (rs := [21]) (by kernel_rfl) (by simp) ?_
          refine TillReady.free rfl (by kernel_rfl) (fun K hK => ?_) TillReady.nil
          go_simp
          refine hK.out _ _ ?_
          clear hK K
          try simp only [Act.put, List.setIfInBounds_toArray, List.set_cons_zero, List.set_cons_succ]
          refine till_done (by kernel_rfl) ?_ _
          refine NoPanic.normal ?_
          have hBle : B ≤ wr.heap.size := Nat.le_trans hBw hKr.size
          have hrWs := hrW.size
          have lsv : ∀ k, Row (.slice (some ⟨bs, os, none⟩) segs.length cs) k → k < wr.heap.size := fun k hr => (own_up HKr.out.own k hr).2
          have lbv : ∀ k, Row (.slice ab bp.length cb) k → k < wr.heap.size := fun k hr => (own_up HKr.out.bat k hr).2
          have lev : ∀ k, Row (.slice ae es.length ce) k → k < wr.heap.size := fun k hr => (own_up HKr.out.end' k hr).2
          have lg : g < wr.heap.size := (Array.getElem?_eq_some_iff.1 HKr.out.blk).1
          obtain ⟨ho5, hk5, hr5, _⟩ := HR5.out
          obtain ⟨ho6, hk6, hr6⟩ := HR6.out
          have h5s := hk5.size
          have lv5 : ∀ k, Row (.slice (some ⟨g5, 0, none⟩) (bp.length + 1) cap5) k → k < w5.heap.size := fun k hr => (own_up ho5 k hr).2
          have hv5g : ¬ Row (.slice (some ⟨g5, 0, none⟩) (bp.length + 1) cap5) g := fun hr => (hr5 g hr).elim HK0.out.bg (fun hx => by omega)
          have hv6g : ¬ Row (.slice (some ⟨g6, 0, none⟩) (es.length + 1) cap6) g := fun hr => (hr6 g hr).elim HK0.out.eg (fun hx => by omega)
          have hKs : Kept (· = g) w6 ((w6.setCell ⟨g, 2, none⟩ (.slice (some ⟨g5, 0, none⟩) (bp.length + 1) cap5)).setCell ⟨g, 3, none⟩ (.slice (some ⟨g6, 0, none⟩) (es.length + 1) cap6)) := ((Kept.refl _ w6).setB 2 _).setB 3 _
          have hk56 : Kept (fun k => Row (.slice ab bp.length cb) k ∨ Row (.slice ae es.length ce) k ∨ k = g) W w6 := (hk5.mono (fun _ _ h => .inl h)).trans (hk6.mono (Y := fun k => Row (.slice ab bp.length cb) k ∨ Row (.slice ae es.length ce) k ∨ k = g) (fun _ _ h => .inr (.inl h))) (fun _ _ h => h)
          have hkF := hk56.trans hKs (fun i _ hi => .inr (.inr hi))
          have ho5' := own_kept2 ho5 hk6 (fun k hr e => (hr5 k hr).elim (fun a => HK0.out.be k a e) (fun a => by have := lev k e; omega))
          have HF : Hid (KW B ((w6.setCell ⟨g, 2, none⟩ (.slice (some ⟨g5, 0, none⟩) (bp.length + 1) cap5)).setCell ⟨g, 3, none⟩ (.slice (some ⟨g6, 0, none⟩) (es.length + 1) cap6)) g (.slice (some ⟨bs, os, none⟩) segs.length cs) (.slice (some ⟨g5, 0, none⟩) (bp.length + 1) cap5) (.slice (some ⟨g6, 0, none⟩) (es.length + 1) cap6) segs syn (bp ++ [(⟨bn, bev⟩, .slice av bev.length cv)]) (es ++ [e0 + n])) := by
            refine HK0.out.turn (hkF.mono (fun _ _ h => .inr h)) ?_ ?_ ?_ ?_ (fun k hr => .inl hr) hr5 (fun k hr => (hr6 k hr).imp id (fun hx => by omega)) (fun k hk => ⟨fun hh => ?_, fun hh => ?_, fun hh => ?_⟩) (fun p hp => ?_) HK0.out.len HK0.out.each
            · simp only [World.setCell]
              rw [Array.getElem?_modify, if_pos rfl, Array.getElem?_modify, if_pos rfl, hG6]
              simp
            · exact own_kept2 HK0.out.own hkF (fun k hr e => by
                rcases e with e | e | e
                · exact HK0.out.sb k hr e
                · exact HK0.out.se k hr e
                · exact HK0.out.sg (by rw [← e]; exact hr))
            · rw [List.length_append, bpCells_app]
              exact own_kept2 ho5' hKs (fun k hr e => hv5g (by rw [← e]; exact hr))
            · rw [List.length_append, inCells_app]
              have : inCells [e0 + n] = [.int .i64 ((e0 : Int) + (n : Int))] := by simp [inCells]
              rw [this]
              exact own_kept2 ho6 hKs (fun k hr e => hv6g (by rw [← e]; exact hr))
            · have := lsv k hh.1; omega
            · have := lsv k hh.1; omega
            · have h1 := lv5 k hh.1
              rcases hr6 k hh.2 with h2 | h2
              · have := lev k h2; omega
              · omega
            · rcases List.mem_append.1 hp with hp | hp
              · exact .inl hp
              · rw [List.mem_singleton] at hp
                subst hp
                refine .inr ((HEV.out.keep hkF (fun k hk e => ?_)).mono (fun k _ hk => ?_))
                · rcases e with e | e | e
                  · have := lbv k e; omega
                  · have := lev k e; omega
                  · omega
                · refine ⟨by omega, by omega, fun hr => by have := lsv k hr; omega, fun hr => ?_, fun hr => ?_⟩
                  · rcases hr5 k hr with h2 | h2
                    · have := lbv k h2; omega
                    · omega
                  · rcases hr6 k hr with h2 | h2
                    · have := lev k h2; omega
                    · omega
          have HKF : Hid (Kept (B ≤ ·) w ((w6.setCell ⟨g, 2, none⟩ (.slice (some ⟨g5, 0, none⟩) (bp.length + 1) cap5)).setCell ⟨g, 3, none⟩ (.slice (some ⟨g6, 0, none⟩) (es.length + 1) cap6))) := hKW.trans hkF (fun k _ e => by
            rcases e with e | e | e
            · exact own_row HK0.out.bat k e
            · exact own_row HK0.out.end' k e
            · rw [e]; exact hgB)
          clear hBle hrWs lsv lbv lev lg ho5 hk5 hr5 ho6 hk6 hr6 h5s lv5 hv5g hv6g hKs hk56 hkF ho5' HR5 HR6 hG6 HK0 HCC HEV HBX
          go_wp2_with fail
          go_roundg (gk - n)
          case measure => omega
          case rel =>
            exact ⟨e0 + n, l ++ [⟨bn, bev⟩], _, _, _, by go_num, by omega, HKF.out, hide (by rw [HES.out]; exact HF.out), hide (by rw [List.map_append, HBP.out, List.append_assoc]; rfl), HL2⟩
    · have HSG := hide (segT_of (s := s) (l := l) (r := []) (e := 5) ⟨HL.out.1, by have := HL.out.2.2; rw [List.drop_of_length_le (by omega)] at this; exact this, decodeB_nil⟩)
      have HC := hide (show readC s (decide (i + 1 < segs.length)) = 0 by unfold readC; rw [HSG.out]; simp)
      go_wp2_with fail
      go_ret
      refine ⟨ret_int HC.out.symm, hKr, fun _ => ⟨bv, ev, bp, ?_, ?_⟩⟩
      · rw [HSG.out]; exact HKr.out
      · rw [HSG.out]; exact HBP.out

end Go.Proofs.Ytillhpepfpldcaa
