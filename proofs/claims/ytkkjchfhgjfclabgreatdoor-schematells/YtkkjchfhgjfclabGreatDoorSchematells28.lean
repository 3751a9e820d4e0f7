import Derived.Test.YtkkjchfhgjfclabGreatDoorSchematells27
import Derived.Test.YtkkjchfhgjfclabGreatDoorSchematells13
import Derived.Test.YtkkjchfhgjfclabGreatDoorSchematells22
import Derived.Test.YtkkjchfhgjfclabGreatDoorSchematells24
/- tokens.Row.Text: the row's tokens printed. -/
namespace Go.Proofs.YtkkjchfhgjfclabGreatDoor
open Go.RowKit Go.Shelf

attribute [local go_sem] Oper.semAt_some

/-- the pieces that have come, printed, as cells -/
def pcs (T : List Tok) (len : Nat) (pre : List { j : Nat // 300 * j < len }) : List Value := pre.map (fun x => .string ⟨(printF (chunkT T x.1)).toArray⟩)
theorem pcs_snoc (T : List Tok) (len : Nat) (pre : List { j : Nat // 300 * j < len }) (x : { j : Nat // 300 * j < len }) : pcs T len (pre ++ [x]) = pcs T len pre ++ [.string ⟨(printF (chunkT T x.1)).toArray⟩] := by
  unfold pcs; rw [List.map_append]; rfl
theorem pcs_get (T : List Tok) (len : Nat) (ys : List { j : Nat // 300 * j < len }) (h : ∀ (i : Nat) (y : { j : Nat // 300 * j < len }), ys[i]? = some y → y.1 = i) (i : Nat) (hi : i < ys.length) : (pcs T len ys)[i]? = some (.string ⟨(printF (chunkT T i)).toArray⟩) := by
  unfold pcs
  rw [List.getElem?_map, List.getElem?_eq_getElem hi]
  have := h i ys[i] (List.getElem?_eq_getElem hi)
  simp [this]

/-- between two rounds: the pieces that have come, printed -/
def InvT (T : List Tok) (len B n₀ : Nat) (w0 : World) (pre : List { j : Nat // 300 * j < len }) (W : World) : Prop :=
  ∃ v, W.heap[B]? = some (.cells #[v] 103 (0, 0)) ∧ W.ownsRow n₀ 9 1 v pre.length (pcs T len pre) ∧ Kept (· = B) w0 W

theorem invT_own (T : List Tok) (len B n₀ : Nat) (w0 : World) : OwnFrom w0.heap.size (InvT T len B n₀ w0) := by
  rintro s W W' row ⟨v, h1, h2, h3⟩ hg hr
  have hr2 : ∀ r, row = some r → ∃ o : Obj, W.heap[r]? = some o ∧ o.isCells = false := fun r e => (hr r e).2
  exact ⟨v, blk_nc h1 hg hr2, own_nc h2 hg hr2, h3.grown hg (fun k e hk => by have := (hr k e).1; omega)⟩

set_option maxRecDepth 100000 in
set_option maxHeartbeats 4000000 in
theorem text_in (w : World) (q : Nat) (T : List Tok) (h : RowAt w q T) (ht : Tab w) (hok : okT T) (h0 : 0 < T.length) (hb : T.length ≤ 1000000) :
    CallsIn Fence.wide 5 Tryz.prog 29 #[.pointer (some ⟨q, 0, none⟩)] w fun e w' => e = .returned (.tuple #[.string ⟨(printF T).toArray⟩, .int .i64 0]) ∧ Same w w' := by
  have hq := h.lt
  obtain ⟨v, hh, hown⟩ := h
  obtain ⟨g, cap, rfl⟩ := own_form hown h0
  have hcap : T.length ≤ cap := by
    rcases hown.2 with ⟨e, _⟩ | ⟨g', cap', cur, e, _, _, hc, _⟩
    · cases e
    · injection e with _ _ e3; rw [e3]; exact hc
  have HTK := hide (own_toks hown (by omega))
  have hgw : g < w.heap.size := (hown.lt g rfl).2
  have c0 : w.cell? ⟨q, 0, none⟩ = some (.slice (some ⟨g, 0, none⟩) T.length cap) := by simp [World.cell?, hh]
  have c3 : ∀ o1 o2 o3, (((w.alloc o1).alloc o2).alloc o3).cell? ⟨q, 0, none⟩ = some (.slice (some ⟨g, 0, none⟩) T.length cap) := fun o1 o2 o3 => ((((Kept.refl (fun _ => False) w).alloc o1).alloc o2).alloc o3).cell c0 (fun f => f)
  obtain ⟨i0, hi, hz0, hz1, hz2⟩ := info_parts infoS
  have HT := hide ht
  have HOK := hide hok
  clear hh hown ht hok
  refine callsIn_of_wp_marks Tryz.func29 rfl trivial ?_ rfl
  simp only [Tryz.ntmps29, List.size_toArray, List.length_cons, List.length_nil, Nat.reduceAdd, Nat.reduceSub, Array.replicate_succ, Array.replicate_zero, List.push_toArray, List.append_toArray, List.nil_append, List.cons_append]
  gi_wp2
  refine ⟨trivial, ?_⟩
  refine (chunk_in Fence.wide _ trivial rfl _ _ _ _).mono ?_
  rintro e w' ⟨rfl, rfl⟩
  simp only [World.size_alloc]
  obtain ⟨w0, hw0⟩ : ∃ w0, w0 = (((((w.alloc (.cells #[.string ⟨#[]⟩] 9)).alloc (.cells #[.int .i64 0] 24)).alloc (.cells #[.slice none 0 0] 103)).alloc (.cells #[.slice (some ⟨g, 0, none⟩) T.length cap] 29)).alloc (.cells #[.int .i64 300] 3)) := ⟨_, rfl⟩
  rw [← hw0]
  obtain ⟨N, hN⟩ : ∃ N, N = w.heap.size := ⟨_, rfl⟩
  have hsz : w0.heap.size = N + 5 := by rw [hw0, hN]; simp
  have b0 : w0.heap[N]? = some (.cells #[.string ⟨#[]⟩] 9 (0, 0)) := by
    rw [hw0, hN, Below.heap_alloc _ _ _ (by simp <;> omega), Below.heap_alloc _ _ _ (by simp <;> omega), Below.heap_alloc _ _ _ (by simp <;> omega), Below.heap_alloc _ _ _ (by simp)]; exact heap_alloc_new w _
  have b1 : w0.heap[N + 1]? = some (.cells #[.int .i64 0] 24 (0, 0)) := by
    rw [hw0, hN, Below.heap_alloc _ _ _ (by simp <;> omega), Below.heap_alloc _ _ _ (by simp <;> omega), Below.heap_alloc _ _ _ (by simp)]
    have := heap_alloc_new (w.alloc (.cells #[.string ⟨#[]⟩] 9)) (.cells #[.int .i64 0] 24); simpa using this
  have b2 : w0.heap[N + 2]? = some (.cells #[.slice none 0 0] 103 (0, 0)) := by
    rw [hw0, hN, Below.heap_alloc _ _ _ (by simp <;> omega), Below.heap_alloc _ _ _ (by simp)]
    have := heap_alloc_new ((w.alloc (.cells #[.string ⟨#[]⟩] 9)).alloc (.cells #[.int .i64 0] 24)) (.cells #[.slice none 0 0] 103); simpa using this
  have b3 : w0.heap[N + 3]? = some (.cells #[.slice (some ⟨g, 0, none⟩) T.length cap] 29 (0, 0)) := by
    rw [hw0, hN, Below.heap_alloc _ _ _ (by simp)]
    have := heap_alloc_new (((w.alloc (.cells #[.string ⟨#[]⟩] 9)).alloc (.cells #[.int .i64 0] 24)).alloc (.cells #[.slice none 0 0] 103)) (.cells #[.slice (some ⟨g, 0, none⟩) T.length cap] 29); simpa using this
  have b4 : w0.heap[N + 4]? = some (.cells #[.int .i64 300] 3 (0, 0)) := by
    rw [hw0, hN]
    have := heap_alloc_new ((((w.alloc (.cells #[.string ⟨#[]⟩] 9)).alloc (.cells #[.int .i64 0] 24)).alloc (.cells #[.slice none 0 0] 103)).alloc (.cells #[.slice (some ⟨g, 0, none⟩) T.length cap] 29)) (.cells #[.int .i64 300] 3); simpa using this
  have hK0 : Same w w0 := by rw [hw0]; exact ((((((Kept.refl _ w).alloc _).alloc _).alloc _).alloc _).alloc _)
  have HX := hide (And.intro b0 (And.intro b1 (And.intro b2 (And.intro b3 (And.intro b4 (And.intro hK0 (And.intro hsz hN)))))))
  clear b0 b1 b2 b3 b4 hK0 hw0 c0 c3
  gi_wp2
  simp only [← hN, Nat.add_assoc, Nat.reduceAdd]
  have hs1 : w0.heap.size ≤ N + 5 := by omega
  have hs2 : N + 5 ≤ w0.heap.size := by omega
  have hq1 : q < N := by omega
  clear hN hsz hq hgw
  refine wpIn_rangeFunc_ownF rfl (by decide) (gf := 95) (lb := #[.pointer (some ⟨N + 3, 0, none⟩), .pointer (some ⟨N + 4, 0, none⟩)]) rfl trivial (enters_of Tryz.func95 (by kernel_rfl) rfl)
    (chunk_stops Fence.wide _ trivial rfl (by decide) (N + 3) (N + 4) (N + 2) (N + 5) g T.length cap (by omega) (by omega) w0 (by omega) (by omega) (by omega) (by omega) (by omega) (by have := HX.out.2.2.2.1; simp [World.cell?, this]) (by have := HX.out.2.2.2.2.1; simp [World.cell?, this])) KpX.trans (kpX_b (by omega)) (Below.refl _ _) (fun _ => rfl)
    (InvT T T.length (N + 2) (N + 5) w0) (fun _ _ _ => False) (invT_own _ _ _ _ _) (fun _ _ _ _ _ hs _ _ => hs)
    ⟨_, HX.out.2.2.1, World.ownsRow_nil _ _ _ _, Kept.refl _ _⟩
    (fun x => { tmps := #[.pointer (some ⟨q, 0, none⟩), undef, .pointer (some ⟨N, 0, none⟩), .pointer (some ⟨N + 1, 0, none⟩), .pointer (some ⟨N + 2, 0, none⟩), .slice (some ⟨g, 300 * x.1 * 3, none⟩) (chM T.length x.1) (chM T.length x.1), undef, undef, .pointer (some ⟨q, 0, none⟩), .pointer (some ⟨q, 0, none⟩), .pointer (some ⟨q, 0, none⟩), .slice (some ⟨g, 0, none⟩) T.length cap, .func (.func 95) #[] #[.pointer (some ⟨N + 3, 0, none⟩), .pointer (some ⟨N + 4, 0, none⟩)], .slice (some ⟨g, 300 * x.1 * 3, none⟩) (chM T.length x.1) (chM T.length x.1), undef, undef, undef, undef, undef, undef, undef, undef, undef, undef, undef, undef, undef, undef], defers := [] }) ?assign ?body ?done ?stop
  case assign =>
    intro l x W K hK
    simp only [encC]
    gi_wp2
    exact hK
  case body =>
    rintro l pre x W ⟨v, hB, hown, hK⟩ hpre
    obtain ⟨ao, cp, hv⟩ := own_slice hown
    subst hv
    have hNw : w.heap.size ≤ N ∧ N ≤ w.heap.size := by have := HX.out.2.2.2.2.2.2.2; omega
    have hSw : Same w W := HX.out.2.2.2.2.2.1.trans hK (fun k hk e => by omega)
    have HP := hide (print_ok W _ (chunkT T x.1) ((HTK.out.same hSw).chunk (cap' := chM T.length x.1) x.1) (tab_keep HT.out hSw) (check_chunk HOK.out x.1))
    have HNw := hide hNw
    clear hNw
    gi_wp2
    refine ⟨trivial, ?_⟩
    refine (CallsIn.inRound l (callsIn_wide.2 HP.out)).mono ?_
    rintro e W1 ⟨rfl, hK1⟩
    have hB1 := blk_kept' hB hK1
    have c1 : W1.cell? ⟨N + 2, 0, none⟩ = some (.slice ao pre.length cp) := by simp [World.cell?, hB1]
    have hown1 := own_kept hown hK1 (fun _ _ f => f)
    have hz1' : N + 5 ≤ W1.heap.size := Nat.le_trans hs2 (Nat.le_trans hK.size hK1.size)
    have HZW := hide (show N + 5 ≤ W.heap.size from Nat.le_trans hs2 hK.size)
    have HB1 := hide hB1
    have HHK := hide (hK.trans hK1 (fun _ _ f => f.elim))
    have HB := hide hB
    have HK1 := hide hK1
    have HOW := hide hown
    clear hB1 hK hK1 hSw HP hB hown
    gi_wp2_with (gi_at_builtin; refine wpListIn_append_own _ rfl _ _ 103 rfl (N + 5) 9 i0 _ 1 16 Tryz.underlying103 hi hz0 hz1 hz2 rfl (by decide) _ _ _ rfl (hown1.alloc _) ⟨W1.heap.size, 0, none⟩ 1 1 [.string ⟨(printF (chunkT T x.1)).toArray⟩] rfl rfl (cell_one_new _ _ _) (by simp [Value.oneCell']) ?a3 ?a4 ?a5 ?_)
    case a3 => unfold maxLen; omega
    case a4 => omega
    case a5 => simp; omega
    intro v2 w2 hown2 hgr2 _
    obtain ⟨g2, cap2, hv2⟩ := own_form hown2 (by omega)
    subst hv2
    have hXb : ∀ k, some k = (Value.slice ao pre.length cp).ownBlock → N + 5 ≤ k := fun k e => (hown1.lt k e.symm).1
    have hKb : Kept (fun k => some k = (Value.slice ao pre.length cp).ownBlock) W1 w2 := ((Kept.refl _ W1).alloc _).trans (grown_k hgr2) (fun _ _ e => e)
    have hB2 : w2.heap[N + 2]? = some (.cells #[.slice ao pre.length cp] 103 (0, 0)) := by
      rw [hKb.block (N + 2) (by omega) (fun e => by have := hXb _ e; omega)]; exact HB1.out
    have c2 : w2.cell? ⟨N + 2, 0, none⟩ = some (.slice ao pre.length cp) := by simp [World.cell?, hB2]
    have f2 : w2.frozen? ⟨N + 2, 0, none⟩ = false := by simp [World.frozen?, hB2]
    have hS : Kept (· = N + 2) w2 (w2.setCell ⟨N + 2, 0, none⟩ (.slice (some ⟨g2, 0, none⟩) (pre.length + 1) cap2)) := (Kept.refl _ w2).setB 0 _
    have hKall : Kept (fun k => k = N + 2 ∨ some k = (Value.slice ao pre.length cp).ownBlock) W (w2.setCell ⟨N + 2, 0, none⟩ (.slice (some ⟨g2, 0, none⟩) (pre.length + 1) cap2)) :=
      ((Same.to HK1.out).trans hKb (fun k _ e => .inr e)).trans hS (fun k _ e => .inl e)
    have HFIN := hide (And.intro (keepsOthers_of hKall (fun k e o ho => by
        rcases e with rfl | e
        · rw [HB.out] at ho; cases ho; rfl
        · rcases HOW.out.2 with ⟨e2, _⟩ | ⟨g', cap', cur, e2, _, hc, _⟩
          · have e3 : ao = none := by injection e2
            subst e3; cases e
          · have e3 : ao = some ⟨g', 0, none⟩ := by injection e2
            subst e3
            cases e
            rw [hc] at ho; cases ho; rfl))
      (And.intro (show KpX (N + 2) (N + 5) W (w2.setCell ⟨N + 2, 0, none⟩ (.slice (some ⟨g2, 0, none⟩) (pre.length + 1) cap2)) from ⟨hKall.size, fun k hk hne => by
          by_cases hkW : k < W.heap.size
          · exact hKall.block k hkW (fun e => by
              rcases e with e | e
              · exact hne e
              · have := hXb k e; omega)
          · have := HZW.out
            omega⟩)
        (show InvT T T.length (N + 2) (N + 5) w0 (pre ++ [x]) (w2.setCell ⟨N + 2, 0, none⟩ (.slice (some ⟨g2, 0, none⟩) (pre.length + 1) cap2)) from
          ⟨.slice (some ⟨g2, 0, none⟩) (pre.length + 1) cap2, by simp [World.setCell, Array.getElem?_modify, hB2], by
            have := own_kept hown2 hS (fun k hk e => by omega)
            rw [List.length_append, pcs_snoc]
            exact this, (HHK.out.trans hKb (fun k hk e => by have := hXb k e; omega)).trans hS (fun k _ e => e)⟩)))
    clear hXb hKb hB2 hS hKall hgr2 hown2 hown1
    gi_wp2
    exact HFIN.out
  case done =>
    rintro D ys W hD ⟨hy1, hy2⟩ ⟨v, hB, hown, hK⟩ hdf
    have hpos : 0 < ys.length := by omega
    obtain ⟨g2, cap2, hv2⟩ := own_form hown hpos
    subst hv2
    have hNw : w.heap.size ≤ N ∧ N ≤ w.heap.size := by have := HX.out.2.2.2.2.2.2.2; omega
    have hSw : Same w W := HX.out.2.2.2.2.2.1.trans hK (fun k hk e => by omega)
    have r0 := blk_kept'' HX.out.1 hK (by omega)
    have r1 := blk_kept'' HX.out.2.1 hK (by omega)
    obtain ⟨hg2, hg2'⟩ := hown.lt g2 rfl
    have hcap2 : ys.length ≤ cap2 := by
      rcases hown.2 with ⟨e, _⟩ | ⟨g', cap', cur, e, _, _, hc, _⟩
      · cases e
      · injection e with _ _ e3; rw [e3]; exact hc
    have hj := Tryz.strings_Join g2 0 cap2 ((List.range ys.length).map (fun j => (⟨(printF (chunkT T j)).toArray⟩ : ByteArray))) ⟨#[32]⟩ W
      (fun j x hx => by
        rw [List.getElem?_map] at hx
        obtain ⟨i, hi2, rfl⟩ := Option.map_eq_some_iff.1 hx
        obtain ⟨hi3, hi4⟩ := List.getElem?_eq_some_iff.1 hi2
        simp only [List.getElem_range] at hi4
        subst hi4
        have := World.ownsRow.cells hown (g := g2) rfl j _ (pcs_get T T.length ys hy1 j (by simpa using hi3))
        rw [add_none] at this
        exact this) hg2' (by simp; omega) (by simpa using hcap2) (by
        rw [List.map_map]
        rw [show ((fun x : ByteArray => x.data.toList) ∘ fun j => (⟨(printF (chunkT T j)).toArray⟩ : ByteArray)) = (fun j => printF (chunkT T j)) from funext fun j => by simp]
        rw [show (⟨#[32]⟩ : ByteArray).data.toList = [32] from rfl, chunks_print T ys.length hy2.1 hy2.2]
        have := printF_max HOK.out
        omega)
    rw [List.map_map, show ((fun x : ByteArray => x.data.toList) ∘ fun j => (⟨(printF (chunkT T j)).toArray⟩ : ByteArray)) = (fun j => printF (chunkT T j)) from funext fun j => by simp, show (⟨#[32]⟩ : ByteArray).data.toList = [32] from rfl, chunks_print T ys.length hy2.1 hy2.2, List.length_map, List.length_range] at hj
    have HJ := hide hj
    have c2 : W.cell? ⟨N + 2, 0, none⟩ = some (.slice (some ⟨g2, 0, none⟩) ys.length cap2) := by simp [World.cell?, hB]
    have HR0 := hide r0
    have HR1 := hide r1
    have HDF := hide hdf
    have HSW := hide hSw
    have HNw := hide hNw
    clear hj r0 r1 hown hK hB hSw hNw hy1 hy2 hdf hcap2
    gi_wp2
    refine ⟨trivial, ?_⟩
    refine (callsIn_wide.2 HJ.out).mono ?_
    rintro e W1 ⟨rfl, hb1⟩
    have hK1 : Same W W1 := Kept.of_below hb1
    have r0' := blk_kept' HR0.out hK1
    have r1' := blk_kept' HR1.out hK1
    have d0 : W1.cell? ⟨N, 0, none⟩ = some (.string ⟨#[]⟩) := by simp [World.cell?, r0']
    have d1 : W1.cell? ⟨N + 1, 0, none⟩ = some (.int .i64 0) := by simp [World.cell?, r1']
    have e0 : W1.frozen? ⟨N, 0, none⟩ = false := by simp [World.frozen?, r0']
    have e1 : W1.frozen? ⟨N + 1, 0, none⟩ = false := by simp [World.frozen?, r1']
    gi_wp2
    have hNw := HNw.out
    have hD1 : W1.heap[D]? = some (.deferred (some [])) := by
      rw [hK1.block D (Array.getElem?_eq_some_iff.1 HDF.out).1 (fun f => f)]; exact HDF.out
    obtain ⟨Wz, hWz⟩ : ∃ Wz, Wz = (W1.setCell ⟨N, 0, none⟩ (.string ⟨(printF T).toArray⟩)).setCell ⟨N + 1, 0, none⟩ (.int .i64 0) := ⟨_, rfl⟩
    have hKz : Kept (fun k => k = N ∨ k = N + 1) W1 Wz := by
      rw [hWz]
      exact ((Kept.refl _ W1).setCell (p := ⟨N, 0, none⟩) (fun _ => .inl rfl) _).setCell (p := ⟨N + 1, 0, none⟩) (fun _ => .inr rfl) _
    have hDz : Wz.heap[D]? = some (.deferred (some [])) := by
      rw [hKz.block D (Array.getElem?_eq_some_iff.1 hD1).1 (fun e => by omega)]; exact hD1
    have hrz : ∀ r, some D = some r → ∃ o : Obj, Wz.heap[r]? = some o ∧ o.isCells = false := fun r e => by cases e; exact ⟨_, hDz, rfl⟩
    have z0 : Wz.cell? ⟨N, 0, none⟩ = some (.string ⟨(printF T).toArray⟩) := by
      rw [hWz, World.cell?_setCell_other _ _ _ _ (by simp)]
      exact World.cell?_setCell_same' _ _ _ (by rw [d0]; rfl)
    have z1 : Wz.cell? ⟨N + 1, 0, none⟩ = some (.int .i64 0) := by
      rw [hWz]
      exact World.cell?_setCell_same' _ _ _ (by rw [World.cell?_setCell_other _ _ _ _ (by simp), d1]; rfl)
    have y0 := cell_kept z0 (grownBy_putObj' Wz D (.deferred none)) hrz
    have y1 := cell_kept z1 (grownBy_putObj' Wz D (.deferred none)) hrz
    have hKf : Same w (Wz.putObj D (.deferred none)) :=
      ((tra HSW.out hK1).trans hKz (fun k hk e => by omega)).grown (grownBy_putObj' Wz D (.deferred none)) (fun k e hk => by cases e; omega)
    rw [← hWz]
    clear hWz
    refine ⟨by simp, .inl ⟨_, _, rfl, run_takeDeferred hDz, ?_⟩⟩
    refine ⟨.tuple #[.string ⟨(printF T).toArray⟩, .int .i64 0], ?_, rfl, hKf⟩
    simp [results, Tryz.results29, go_sem, y0, y1]
  case stop =>
    rintro D c pre W _ _ h _
    exact h.elim

theorem text_any (w : World) (q : Nat) (T : List Tok) (h : RowAt w q T) (ht : Tab w) (hok : okT T) (h0 : 0 < T.length) (hb : T.length ≤ 1000000) :
    Calls Tryz.prog 29 #[.pointer (some ⟨q, 0, none⟩)] w fun e w' => e = .returned (.tuple #[.string ⟨(printF T).toArray⟩, .int .i64 0]) ∧ Same w w' :=
  callsIn_wide.1 (text_in w q T h ht hok h0 hb)

end Go.Proofs.YtkkjchfhgjfclabGreatDoor

/- schema.Print, whatever it is handed. -/
namespace Go.Proofs.YtkkjchfhgjfclabGreatDoor
open Go.RowKit

theorem TypSl.below {P : Nat → Prop} {w : World} {v : Value} {l : List TypeT} (h : TypSl P w v l) : TypSl (fun b => b < w.heap.size) w v l := h.mono (fun _ hb _ => hb)

set_option maxRecDepth 20000 in
set_option maxHeartbeats 1600000 in
theorem scPrint_any (w : World) (v : Value) (l : List TypeT) (P : Nat → Prop) (h : TypSl P w v l) (ht : Tab w) :
    Calls Tryz.prog 17 #[v] w fun e w' =>
      (checkSc l = 0 ∧ e = .returned (.tuple #[.string ⟨(printSc l).toArray⟩, .int .i64 0]) ∧ Same w w') ∨ (checkSc l ≠ 0 ∧ e = .returned (.tuple #[.string ⟨#[]⟩, .int .i64 (checkSc l)]) ∧ Same w w') := by
  obtain ⟨m, hm⟩ : ∃ m, checkSc l = m := ⟨_, rfl⟩
  have hck := scCheck_any w v l P h
  rw [hm] at hck ⊢
  have HCK := hide hck
  have HM := hide hm
  have HH := hide h
  have HT := hide ht
  obtain ⟨ao, cap, rfl, hlm, _⟩ := id h
  clear hck hm h ht
  go_enter Tryz.func17, Tryz.ntmps17
  go_wp2_with fail
  refine HCK.out.mono ?_
  rintro e w1 ⟨rfl, hK1⟩
  by_cases hm0 : m = 0
  · have hM0 := HM.out
    rw [hm0] at hM0
    obtain ⟨⟨hl0, hl5⟩, hty, _⟩ := (checkSc_iff l).1 hM0
    have HTY := hide hty
    have HM0 := hide hM0
    clear hty hM0 hlm
    subst hm0
    have HR0 := hide (show RowAt (w1.alloc (.cells #[.slice none 0 0] 56)) w1.heap.size [] from ⟨_, heap_alloc_new w1 _, World.ownsRow_nil _ _ _ _⟩)
    have HTW := hide ((HH.out.same hK1).below.same ((Kept.refl _ w1).alloc (.cells #[.slice none 0 0] 56)))
    go_wp2_with fail
    go_loopg [15] l.length (fun g k wr => ∃ j : Nat, j + g = l.length ∧ k = .int .i64 j ∧ Hid (RowAt wr w1.heap.size (typeToks (l.take j))) ∧ Hid (KT w1.heap.size (w1.alloc (.cells #[.slice none 0 0] 56)) wr))
    case atStart => exact ⟨0, by omega, rfl, HR0, KT.refl _ _⟩
    case round =>
      obtain ⟨j, hj, rfl, HRr, HKr⟩ := hrel
      by_cases hlt : j < l.length
      · obtain ⟨b, off, af, nf, cf, rfl, x0, x1, hnf, hfs⟩ := (HTW.out.kt HKr.out (fun _ h => h)).at j hlt
        have HTT := hide (show typeToks (l.take (j + 1)) = typeToks (l.take j) ++ typeTok l[j] by rw [List.take_succ_eq_append_getElem hlt, typeToks_app, typeToks_one])
        have h6 := (HTY.out l[j] (List.getElem_mem hlt)).2.2.2.1.2
        have hTL : (typeToks (l.take j)).length ≤ 800000 := by
          have h1 := (typeToks_max (l.take j) (fun t ht => (HTY.out t (List.mem_of_mem_take ht)).2.2.2.1.2)).1
          have h2 : (l.take j).length ≤ 5 := by rw [List.length_take]; omega
          omega
        obtain ⟨t, hte⟩ : ∃ t, t = l[j] := ⟨_, rfl⟩
        rw [← hte] at x0 hnf hfs HTT h6
        subst hnf
        have HFS := hide hfs
        have hqr := HRr.out.lt
        have HTL := hide hTL
        clear hte hfs hTL
        have kA : ∀ o, Same wr (wr.alloc o) := fun o => (Kept.refl _ wr).alloc o
        have HPT := hide (fun o => putType_any (wr.alloc o) w1.heap.size _ t af cf (HRr.out.same (kA o)) HTL.out (HFS.out.same (kA o)) h6)
        have HKA := hide kA
        clear kA
        go_wp2_with fail
        refine (HPT.out _).mono ?_
        rintro e w2 ⟨rfl, hR2, hK2⟩
        have HR2 := hide hR2
        have HK2 := hide (HKr.out.trans ((KT.of_same (HKA.out _)).trans hK2))
        clear hR2 hK2 HPT
        go_wp2_with fail
        go_roundg (gk - 1)
        case measure => omega
        case rel => exact ⟨j + 1, by omega, by go_num, by rw [Hid, HTT.out]; exact HR2.out, HK2⟩
      · have hlt' : l.take j = l := List.take_of_length_le (by omega)
        have hRl := HRr.out
        rw [hlt'] at hRl
        have hmx := typeToks_max l (fun t ht => (HTY.out t ht).2.2.2.1.2)
        have hSr : Same w wr := HKr.out.same (tra hK1 ((Kept.refl _ w1).alloc _)) hK1.size
        have HTX := hide (text_any wr w1.heap.size (typeToks l) hRl (tab_keep HT.out hSr) (okT_types HM0.out l HTY.out) (by have := typeToks_len l; omega) (by omega))
        have HSR := hide hSr
        clear hlt' hRl hmx hSr
        go_wp2_with fail
        refine HTX.out.mono ?_
        rintro e w2 ⟨rfl, hK2⟩
        go_wp2_with fail
        go_ret2
        exact ⟨rfl, tra HSR.out hK2⟩
  · have hm1 : (m != 0) = true := by simp [hm0]
    have HM0 := hide hm0
    clear hm0
    go_wp2_with fail
    go_ret2
    exact .inr ⟨HM0.out, rfl, hK1⟩

theorem scPrint_ok (w : World) (v : Value) (l : List TypeT) (P : Nat → Prop) (h : TypSl P w v l) (ht : Tab w) (hc : checkSc l = 0) :
    Calls Tryz.prog 17 #[v] w fun e w' => e = .returned (.tuple #[.string ⟨(printSc l).toArray⟩, .int .i64 0]) ∧ Same w w' := by
  refine (scPrint_any w v l P h ht).mono ?_
  rintro e w' (⟨_, h2, h3⟩ | ⟨h1, _, _⟩)
  · exact ⟨h2, h3⟩
  · exact absurd hc h1
theorem scPrint_bad (w : World) (v : Value) (l : List TypeT) (P : Nat → Prop) (h : TypSl P w v l) (ht : Tab w) (m : Int) (hm : checkSc l = m) (hc : m ≠ 0) :
    Calls Tryz.prog 17 #[v] w fun e w' => e = .returned (.tuple #[.string ⟨#[]⟩, .int .i64 m]) ∧ Same w w' := by
  refine (scPrint_any w v l P h ht).mono ?_
  rintro e w' (⟨h1, _, _⟩ | ⟨_, h2, h3⟩)
  · exact absurd (hm.symm.trans h1) hc
  · rw [hm] at h2; exact ⟨h2, h3⟩
theorem scRead_ok (w : World) (s : ByteArray) (l : List TypeT) (h : readSc s.data.toList = .ok l) :
    Calls Tryz.prog 16 #[.string s] w fun e w' => ∃ v, e = .returned (.tuple #[v, .int .i64 0]) ∧ TypSl (fun b => w.heap.size ≤ b) w' v l ∧ Same w w' := by
  refine (scRead_any w s).mono ?_
  rintro e w' (⟨l', v, h1, h2, h3, h4⟩ | ⟨n, h1, _, _, _⟩)
  · rw [h] at h1; cases h1; exact ⟨v, h2, h3, h4⟩
  · rw [h] at h1; cases h1
theorem scRead_bad (w : World) (s : ByteArray) (n : Int) (h : readSc s.data.toList = .error n) :
    Calls Tryz.prog 16 #[.string s] w fun e w' => e = .returned (.tuple #[.slice none 0 0, .int .i64 n]) ∧ Same w w' ∧ n ≠ 0 := by
  refine (scRead_any w s).mono ?_
  rintro e w' (⟨l', v, h1, h2, h3, h4⟩ | ⟨n', h1, h2, h3, h4⟩)
  · rw [h] at h1; cases h1
  · rw [h] at h1; cases h1; exact ⟨h3, h4, h2⟩

end Go.Proofs.YtkkjchfhgjfclabGreatDoor
