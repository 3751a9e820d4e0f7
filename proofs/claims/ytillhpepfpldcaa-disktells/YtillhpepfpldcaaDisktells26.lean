/- The reference: SegmentOf. -/
import Derived.Test.YtillhpepfpldcaaDisktells14
import Derived.Test.YtillhpepfpldcaaDisktells25
namespace Go.Proofs.Ytillhpepfpldcaa
open Go.RowKit

theorem own_bas2 {B : Nat} {w : World} {v : Value} {bp : List (BatchT × Value)} (hown : w.ownsRow B 24 2 v bp.length (bpCells bp)) (hev : ∀ p ∈ bp, EvSl (B ≤ ·) w p.2 p.1.events) (hl : bp.length ≤ 1000000) {l : List BatchT} (he : bp.map Prod.fst = l) : BaSl (B ≤ ·) w v l := by
  subst he
  rcases hown.2 with ⟨rfl, h0⟩ | ⟨b, cap, cur, rfl, hb, hh, hc1, hc2, hc3, htk⟩
  · obtain rfl : bp = [] := List.length_eq_zero_iff.1 h0
    exact BaSl.nil _ _
  · refine ⟨some ⟨b, 0, none⟩, cap, by rw [List.length_map], by rw [List.length_map]; exact ⟨by unfold maxLen; omega, hc1, fun e => (by cases e)⟩, fun i x hx => ?_⟩
    rw [List.getElem?_map] at hx
    cases hp : bp[i]? with
    | none => rw [hp] at hx; cases hx
    | some p =>
      rw [hp] at hx
      simp only [Option.map_some, Option.some.injEq] at hx
      subst hx
      obtain ⟨g1, g2⟩ := bp_get hp
      have hi : i < bp.length := (List.getElem?_eq_some_iff.1 hp).1
      have c1 := World.ownsRow.cellAt hown (i * 2) (by omega)
      have c2 := World.ownsRow.cellAt hown (i * 2 + 1) (by omega)
      rw [g1] at c1
      rw [g2] at c2
      exact ⟨b, 0, p.2, rfl, hb, by rw [Nat.zero_add]; exact c1, by rw [Nat.zero_add]; exact c2, hev p (List.mem_of_getElem? hp)⟩

/-- decoding a batch from the middle of a segment, by one number for both ways out -/
theorem of_drop (w : World) (t : List UInt8) (hl : t.length ≤ 140737488351232) :
    Calls Try.prog 12 #[.string ⟨t.toArray⟩] w fun r w' => ∃ nu v n no, r = .returned (.tuple #[baV nu v, .int .i64 (n : Nat), .int .i64 no]) ∧
      Hid ((no = 0 → ∃ b, decodeB t = .ok (b, n) ∧ b.number = nu ∧ EvSl (w.heap.size ≤ ·) w' v b.events) ∧ (no ≠ 0 → decodeB t = .error no)) ∧ (∃ ao len cap, v = .slice ao len cap) ∧ Same w w' := by
  refine (batchOf_any w t hl).mono ?_
  rintro r w' (⟨ba, v, n, h1, rfl, h2, h3⟩ | ⟨no, h1, h2, rfl, h3⟩)
  · obtain ⟨ao, cap, rfl⟩ := h2.form
    exact ⟨_, _, n, 0, rfl, ⟨fun _ => ⟨ba, h1, rfl, h2⟩, fun h => absurd rfl h⟩, ⟨_, _, _, rfl⟩, h3⟩
  · exact ⟨_, _, 0, no, rfl, ⟨fun h => absurd h h2, fun _ => h1⟩, ⟨_, _, _, rfl⟩, h3⟩

theorem new_c2b {w : World} {b : Nat} {x0 x1 : Value} {t : TypeId} (h : w.heap[b]? = some (.cells #[x0, x1] t (0, 0))) : ∀ j u, [x0, x1][j]? = some u → w.cell? ((⟨b, 0, none⟩ : Addr).add j) = some u := by
  intro j u hj
  rw [addr_add, Nat.zero_add]
  unfold World.cell?
  rw [h]
  simpa using hj
theorem bpCells_snoc (l : List (BatchT × Value)) (b : BatchT) (v : Value) : bpCells (l ++ [(b, v)]) = bpCells l ++ [.int .i64 b.number, v] := by simp [bpCells]

set_option maxRecDepth 20000 in
set_option maxHeartbeats 6400000 in
theorem segOf_any (w : World) (s : List UInt8) (hs : s.length ≤ 400) :
    Calls Try.prog 53 #[.string ⟨s.toArray⟩] w fun r w' => ∃ v, r = .returned (.tuple #[v, .int .i64 ((wholeS s).length : Nat), .int .i64 (segT s).2.2]) ∧ BaSl (w.heap.size ≤ ·) w' v (segT s).1 ∧ Same w w' := by
  have trs : ∀ {a b c : World}, Same a b → Same b c → Same a c := fun h k => h.trans k (fun _ _ f => f)
  obtain ⟨i0, hi0, hz0, hz1, hz2⟩ := info_parts info_ba
  have hzs := bsz s
  go_enter Try.func53, Try.ntmps53
  go_wp2_with fail
  have HK0 := hide (Kept.refl (fun _ => False) w)
  go_loopg [5, 6] (s.length + 1) (fun gk ov av wr => ∃ (q : Nat) (bp : List (BatchT × Value)), av = .int .i64 q ∧ q + gk = s.length + 1 ∧ q ≤ s.length ∧ bp.length ≤ q ∧ Hid (segT s = (bp.map Prod.fst ++ (segT (s.drop q)).1, (segT (s.drop q)).2)) ∧ Hid (Same w wr) ∧ wr.ownsRow w.heap.size 24 2 ov bp.length (bpCells bp)
    ∧ Hid (∀ p ∈ bp, EvSl (fun k => w.heap.size ≤ k ∧ ¬ some k = ov.ownBlock) wr p.2 p.1.events))
  case atStart => exact ⟨0, [], rfl, by omega, by omega, by simp, by show _ = _; simp, HK0, World.ownsRow_nil _ _ _ _, fun p hp => by cases hp⟩
  case round =>
    obtain ⟨q, bp, rfl, hq, hqs, hbq, HSG, HKr, hown, HEV⟩ := hrel
    clear HK0
    obtain ⟨ao, cap, hv⟩ := own_slice hown
    subst hv
    have hbl : w.heap.size ≤ wr.heap.size := HKr.out.size
    have hX := bytes_extract s q s.length
    have HX := hide (show (⟨s.toArray⟩ : ByteArray).extract q s.length = ⟨(s.drop q).toArray⟩ by rw [bytes_extract]; congr 2; rw [List.take_of_length_le]; rw [List.length_drop]; omega)
    clear hX
    have HO := hide (fun wx => of_drop wx (s.drop q) (by rw [List.length_drop]; omega))
    go_wp2_with fail
    rw [HX.out]
    refine (HO.out _).mono ?_
    rintro r w2 ⟨nu, v, n, no, rfl, HD, ⟨av, ln, cv, rfl⟩, hK2⟩
    by_cases h0 : no = 0
    · subst h0
      obtain ⟨b, hd, hnu, hev⟩ := HD.out.1 rfl
      subst hnu
      obtain ⟨ve, ce, hve⟩ := hev.form
      cases hve
      obtain ⟨d1, d2, d3, d4, d5⟩ := decode_split hd
      rw [List.length_drop] at d5
      have HS2 := hide (show segT s = ((bp ++ [(b, Value.slice av b.events.length cv)]).map Prod.fst ++ (segT (s.drop (q + n))).1, (segT (s.drop (q + n))).2) by
        rw [HSG.out]
        have e1 : segT (s.drop q) = (b :: (segT (s.drop (q + n))).1, (segT (s.drop (q + n))).2) := by
          rw [List.drop_drop] at d2
          rw [d2, segT_cons d1]
        rw [e1]; simp)
      have HN := hide (And.intro d4 d5)
      have HB := hide hev
      have hown2 := own_kept hown hK2 (fun _ _ f => f)
      have HUP := hide (fun k (e : some k = (Value.slice ao bp.length cap).ownBlock) => own_up hown k e.symm)
      have HZ := hide hK2.size
      have HK2 := hide hK2
      clear hown hev d1 d2 d3 d4 d5 hd HD hK2 HX HO HSG
      go_wp2_with (at_builtin; refine wpList_append_own_at _ rfl _ _ 34 rfl w.heap.size 24 i0 _ 2 32 Try.underlying34 hi0 hz0 hz1 hz2 rfl (by decide) _ _ _ rfl ((hown2.alloc _).alloc _) ⟨w2.heap.size + 1, 0, none⟩ 1 1 [.int .i64 b.number, .slice av b.events.length cv] rfl rfl (new_c2b (t := 24) (al_new _ _ _)) ?a2 ?a3 ?a4 ?a5 ?_)
      case a2 => intro u hu; simp at hu; rcases hu with rfl | rfl <;> rfl
      case a3 => unfold maxLen; omega
      case a4 => omega
      case a5 => have := HZ.out; simp; omega
      intro v5 w5 hown5 hgr5 _ hat5
      have hsz : wr.heap.size ≤ w2.heap.size := HZ.out
      have hKg : Kept (fun k => some k = (Value.slice ao bp.length cap).ownBlock) w2 w5 := (((Kept.refl _ w2).alloc _).alloc _).trans (grown_kept hgr5) (fun _ _ e => e)
      have hKb : Kept (fun k => some k = (Value.slice ao bp.length cap).ownBlock) wr w5 := (HK2.out.mono (Y := fun k => some k = (Value.slice ao bp.length cap).ownBlock) (fun _ _ f => f.elim)).trans hKg (fun _ _ e => e)
      have HKF := hide (show Same w w5 from HKr.out.trans hKb (fun k hk e => by have := (HUP.out k e).1; omega))
      have hv5 : ∀ k, some k = v5.ownBlock → some k = (Value.slice ao bp.length cap).ownBlock ∨ k = w2.heap.size + 2 := by
        intro k e
        rcases hat5 with h | h
        · left; rw [← h]; exact e
        · right; rw [h] at e; simpa using e
      have HE5 := hide (show ∀ p ∈ bp ++ [(b, Value.slice av b.events.length cv)], EvSl (fun k => w.heap.size ≤ k ∧ ¬ some k = v5.ownBlock) w5 p.2 p.1.events by
        intro p hp
        rcases List.mem_append.1 hp with hp | hp
        · have e1 := (HEV.out p hp).mono (Q := fun k => (w.heap.size ≤ k ∧ ¬ some k = v5.ownBlock) ∧ ¬ some k = (Value.slice ao bp.length cap).ownBlock) (fun k hk h => ⟨⟨h.1, fun e => by
            rcases hv5 k e with h2 | h2
            · exact h.2 h2
            · omega⟩, h.2⟩)
          exact (e1.keep hKb (fun k hk => hk.2)).mono (fun k _ hk => hk.1)
        · rw [List.mem_singleton] at hp
          subst hp
          have e1 := HB.out.mono (Q := fun k => (w.heap.size ≤ k ∧ ¬ some k = v5.ownBlock) ∧ ¬ some k = (Value.slice ao bp.length cap).ownBlock) (fun k hk h => by
            have h1 : wr.heap.size ≤ k := h
            have h3 : ¬ some k = (Value.slice ao bp.length cap).ownBlock := fun e => by have := (HUP.out k e).2; omega
            refine ⟨⟨by omega, fun e => ?_⟩, h3⟩
            rcases hv5 k e with h2 | h2
            · exact h3 h2
            · omega)
          exact (e1.keep hKg (fun k hk => hk.2)).mono (fun k _ hk => hk.1))
      have HOF := hide (show w5.ownsRow w.heap.size 24 2 v5 (bp ++ [(b, Value.slice av b.events.length cv)]).length (bpCells (bp ++ [(b, Value.slice av b.events.length cv)])) by
        rw [bpCells_snoc, List.length_append]; exact hown5)
      clear hown5 hgr5 hat5 hv5 hKb hKg hown2 HUP HEV
      obtain ⟨hn2, hnq⟩ := HN.out
      go_wp2_with fail
      go_roundg (gk - n)
      case measure => omega
      case rel => exact ⟨q + n, _, by go_num, by omega, by omega, by simp; omega, HS2, HKF, HOF.out, HE5⟩
    · have hno : (no != 0) = true := by simp [h0]
      have hd := HD.out.2 h0
      have HT := hide (show segT s = (bp.map Prod.fst, s.drop q, no) by rw [HSG.out, segT_end hd]; simp)
      have HW := hide (show (wholeS s).length = q by
        have h1 := congrArg List.length (whole_rest s)
        rw [HT.out, List.length_append, List.length_drop] at h1
        omega)
      have HBA := hide (show BaSl (w.heap.size ≤ ·) wr (.slice ao bp.length cap) (bp.map Prod.fst) from own_bas2 hown (fun p hp => (HEV.out p hp).mono (fun k _ hk => hk.1)) (by omega) rfl)
      have HKF := hide (show Kept (fun _ => False) wr (w2.alloc (.cells #[.int .i64 nu, .slice av ln cv] 24)) from hK2.alloc _)
      clear hd h0 HD HSG hown HEV hK2
      go_wp2_with fail
      exact bodyPost_ret (v := .tuple #[.slice ao bp.length cap, .int .i64 (q : Int), .int .i64 no]) (by simp [results, Try.results53, go_sem]) rfl ⟨_, by rw [HT.out, HW.out], by rw [HT.out]; exact HBA.out.same HKF.out, trs HKr.out HKF.out⟩

end Go.Proofs.Ytillhpepfpldcaa
