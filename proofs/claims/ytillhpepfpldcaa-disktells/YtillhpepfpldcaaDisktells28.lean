/- The reference: OpenDisk. -/
import Derived.Test.YtillhpepfpldcaaDisktells27
namespace Go.Proofs.Ytillhpepfpldcaa
open Go.RowKit

theorem check_le {d : DiskT} (h : checkD d = 0) : d.segs.length ≤ 8 ∧ ∀ x ∈ d.segs, x.length ≤ 400 := by
  cases hg : tooGreatD d.segs with
  | true => rw [check_great hg] at h; cases h
  | false => exact great_false.1 hg
theorem open_map {d : DiskT} (h : checkD d = 0) : (openD d).segs = d.segs.map wholeS := by
  have hr := right_of h
  cases hr with
  | none => rfl
  | some i s n k h1 h2 h3 h4 h5 h6 =>
    unfold openD
    simp only
    rw [lastS_app, setLastS_app, List.map_append]
    have : i.map wholeS = i := by
      conv => rhs; rw [← List.map_id i]
      refine List.map_congr_left fun x hx => ?_
      have h7 := (h2 x hx).2
      have h8 : (segT x).2.1 = [] := by rw [h7]
      have h9 := (rest_nil x).1 h8
      exact whole_eq (by omega)
    rw [this]; rfl

/-- append from a slice, nil or not, onto an owned row: and where the new row lies -/
theorem wpl_append_opt {P : Program} {w : World} {ops : Array Oper} {rest : List Oper} {o : Oper} {a : Act} (Q : Exit → Act → World → Prop) (hgd : o.guard = none) (s x : Operand) (t : TypeId)
    (ho : o.op = .call { callee := .builtin .append, args := #[s, x], argTypes := #[t, t] })
    (base : Nat) (e : TypeId) (i : TypeInfo) (z : Value) (size bytes : Nat) (ht : P.underlying t = some (.slice e)) (hi : P.info? e = some i) (hz : i.zero = some z)
    (hsize : i.size = size) (hby : i.bytes = bytes) (hzs : z.cells.size = size) (hsz : 0 < size)
    (v : Value) (n : Nat) (xs : List Value) (hs : a.eval s = v) (hown : w.ownsRow base e size v n xs)
    (ao : Option Addr) (m c : Nat) (news : List Value) (hx : a.eval x = .slice ao m c) (hnone : ao = none → m = 0 ∧ c = 0) (hl : news.length = m * size) (hnews : ∀ ad, ao = some ad → ∀ j u, news[j]? = some u → w.cell? (ad.add j) = some u) (h1 : ∀ u ∈ news, u.oneCell' = true)
    (h63 : n + m ≤ maxLen) (hbytes : (n + m) * bytes ≤ 140737488355328) (hbase : base ≤ w.heap.size)
    (h : ∀ v' w', w'.ownsRow base e size v' (n + m) (xs ++ news) → w.grownBy w' v.ownBlock → (v'.ownBlock = v.ownBlock ∨ v'.ownBlock = some w.heap.size) → wpList P ops Q rest (a.put o.dst v') w') :
    wpList P ops Q (o :: rest) a w := by
  cases ao with
  | some ad => exact wpList_append_own_at _ hgd s x t ho base e i z size bytes ht hi hz hsize hby hzs hsz v n xs hs hown ad m c news hx hl (hnews ad rfl) h1 h63 hbytes hbase (fun v' w' a b _ d => h v' w' a b d)
  | none =>
    obtain ⟨rfl, rfl⟩ := hnone rfl
    obtain rfl : news = [] := List.length_eq_zero_iff.1 (by simpa using hl)
    have hrun := run_append_owned_none (P := P) (w := w) base t o.type e i size ht hi v n xs hown
    refine wpList_plain hgd fun K hK => ?_
    unfold Oper.wp
    simp only [execOp, ho, resolve, invoke, builtin, Sem.run_bind, Sem.run_pure, Result.andThen_ok, List.map_toArray, List.map_cons, List.map_nil, hs, hx, hrun]
    exact hK _ _ (h v w (by simpa using hown) ⟨rfl, rfl, rfl, Nat.le_refl _, fun _ _ _ => rfl⟩ (.inl rfl))

set_option maxRecDepth 20000 in
set_option maxHeartbeats 12800000 in
theorem rOpenDisk_any (P : Nat → Prop) (w : World) (v : Value) (d : DiskT) (h : StSl P w v d.segs) (hc : checkD d = 0) :
    Calls Try.prog 21 #[diV v d.synced] w fun r w' => ∃ bv sv, r = .returned (.tuple #[bv, diV sv (openD d).synced]) ∧ BaSl (fun _ => True) w' bv (batchesD d.segs) ∧ StSl (fun _ => True) w' sv (openD d).segs ∧ Same w w' := by
  have trs : ∀ {a b c : World}, Same a b → Same b c → Same a c := fun h k => h.trans k (fun _ _ f => f)
  have HOM := hide (open_map hc)
  obtain ⟨hl8, hx4⟩ := check_le hc
  obtain ⟨l, sy⟩ := d
  simp only at h hl8 hx4 ⊢
  have HL4 := hide hx4
  have HBL := hide (fun j => (bats_len (segs := l.take j) (by rw [List.length_take]; omega) (fun s hs => hx4 s (List.mem_of_mem_take hs)) : (batchesD (l.take j)).length ≤ 1600))
  obtain ⟨ao, cap, rfl⟩ := h.form
  obtain ⟨_, h63, hcap⟩ := h.len
  obtain ⟨ib, hib, hbz0, hbz1, hbz2⟩ := info_parts info_ba
  obtain ⟨is, his, hsz0, hsz1, hsz2⟩ := info_parts info_str
  obtain ⟨W, hW⟩ : ∃ W, W = ((w.alloc (.cells #[.slice ao l.length cap, .int .i64 sy] 38)).alloc (.cells #[.slice none 0 0, .int .i64 0] 38)).alloc (.cells #[.slice none 0 0, .int .i64 0] 38) := ⟨_, rfl⟩
  obtain ⟨g, hg⟩ : ∃ g, g = w.heap.size := ⟨_, rfl⟩
  obtain ⟨g1, hg1⟩ : ∃ g1, g1 = w.heap.size + 1 := ⟨_, rfl⟩
  obtain ⟨gx, hgx⟩ : ∃ gx, gx = w.heap.size + 1 + 1 := ⟨_, rfl⟩
  have HGD := hide (show W.heap[g]? = some (.cells #[.slice ao l.length cap, .int .i64 sy] 38 (0, 0)) by
    rw [hW, hg]; exact blk_kept (al_old w _ _) ((Kept.refl (fun _ => False) _).alloc _) (fun f => f))
  have HGR := hide (show W.heap[g1]? = some (.cells #[.slice none 0 0, .int .i64 0] 38 (0, 0)) by
    rw [hW, hg1]; exact blk_kept (al_new w _ _) ((Kept.refl (fun _ => False) _).alloc _) (fun f => f))
  have HGX := hide (show W.heap[gx]? = some (.cells #[.slice none 0 0, .int .i64 0] 38 (0, 0)) by
    rw [hW, hgx]
    have := heap_alloc_new ((w.alloc (.cells #[.slice ao l.length cap, .int .i64 sy] 38)).alloc (.cells #[.slice none 0 0, .int .i64 0] 38)) (.cells #[.slice none 0 0, .int .i64 0] 38)
    simpa using this)
  have HKW := hide (show Same w W by rw [hW]; exact (((Kept.refl _ w).alloc _).alloc _).alloc _)
  have hWs : W.heap.size = w.heap.size + 3 := by rw [hW]; simp
  have HS := hide ((h.mono (Q := (· < g)) (fun k hk _ => by show k < g; omega)).same HKW.out)
  clear hx4 hc h
  go_enter Try.func21, Try.ntmps21
  go_wp2_with fail
  rw [← hW, ← hgx, ← hg1, ← hg]
  clear hW
  have hgs : g < g1 ∧ g1 < gx := by omega
  obtain ⟨hgs1, hgs2⟩ := hgs
  have hg0 : w.heap.size ≤ g := by omega
  clear hg hg1 hgx hWs
  go_loopg [4, 6] l.length (fun gk ov iv wr => ∃ (i n : Nat) (bp : List (BatchT × Value)) (sv : Value), iv = .int .i64 i ∧ i + gk = l.length ∧ Hid (bp.map Prod.fst = batchesD (l.take i)) ∧ Hid (Same w wr) ∧ Hid (Kept (gx ≤ ·) W wr)
    ∧ Hid (wr.heap[gx]? = some (.cells #[sv, .int .i64 n] 38 (0, 0))) ∧ Hid (n = (wholeS (lastS (l.take i))).length) ∧ wr.ownsRow (gx + 1) 24 2 ov bp.length (bpCells bp) ∧ wr.ownsRow (gx + 1) 9 1 sv i (stCells ((l.take i).map wholeS))
    ∧ Hid (∀ k, Row ov k → Row sv k → False) ∧ Hid (∀ p ∈ bp, EvSl (fun k => gx + 1 ≤ k ∧ ¬ Row ov k ∧ ¬ Row sv k) wr p.2 p.1.events))
  case atStart => exact ⟨0, 0, [], .slice none 0 0, rfl, by omega, rfl, HKW, Kept.refl _ _, HGX, rfl, World.ownsRow_nil _ _ _ _, World.ownsRow_nil _ _ _ _, (fun k h => by cases h), (fun p hp => by cases hp)⟩
  case round =>
    obtain ⟨i, n, bp, sv, rfl, hi, HBP, HKr, HKg, HGx, HN, hown, howns, HAP, HEV⟩ := hrel
    clear HGX
    obtain ⟨ob, obc, hov⟩ := own_slice hown
    subst hov
    obtain ⟨sb, sbc, hsv⟩ := own_slice howns
    subst hsv
    have HGd := hide (blk_kept HGD.out HKg.out (by show ¬ gx ≤ g; omega))
    obtain ⟨c0, c1⟩ := blk2 HGd.out
    by_cases hlt : i < l.length
    · have HSr := hide (HS.out.keep HKg.out (fun k hk => by have h1 : k < g := hk; show ¬ gx ≤ k; omega))
      obtain ⟨b, off, hao, hbg, e0⟩ := HSr.out.at i hlt
      subst hao
      obtain ⟨x, hx⟩ : ∃ x, x = l[i] := ⟨_, rfl⟩
      rw [← hx] at e0
      have hx4 : x.length ≤ 400 := by rw [hx]; exact HL4.out _ (List.getElem_mem hlt)
      have HT := hide (show l.take (i + 1) = l.take i ++ [x] by rw [hx]; exact List.take_succ_eq_append_getElem hlt)
      have HX := hide hx
      clear hx
      obtain ⟨m, hm⟩ : ∃ m, gk = m + 1 := ⟨gk - 1, by omega⟩
      subst hm
      have HSO := hide (fun wx => segOf_any wx x hx4)
      have HO := hide (And.intro hown howns)
      clear hown howns
      go_wp2_with fail
      refine (HSO.out _).mono ?_
      clear HSO
      rintro r w2 ⟨v2, rfl, hB2, hK2⟩
      obtain ⟨a2, cp2, hv2⟩ := hB2.form
      subst hv2
      obtain ⟨bl, hb1, hb2, hb3, hb4, hb5⟩ := hB2.pairs
      have HLL := hide (show (bp ++ bl).length ≤ 1600 ∧ (bp ++ bl).map Prod.fst = batchesD (l.take (i + 1)) by
        have h1 : (bp ++ bl).map Prod.fst = batchesD (l.take (i + 1)) := by
          rw [HT.out, List.map_append, HBP.out, hb1]
          simp [batchesD]
        refine ⟨?_, h1⟩
        have h2 := congrArg List.length h1
        rw [List.length_map] at h2
        rw [h2]
        exact HBL.out (i + 1))
      have hbl : bp.length + bl.length ≤ 1600 := by have := HLL.out.1; rw [List.length_append] at this; exact this
      rw [← hb2] at hb3
      have HB3 := hide hb3
      have HB4 := hide hb4
      have HB5 := hide hb5
      have hmm : (segT x).1.length = bl.length := hb2.symm
      rw [hmm]
      have hz2 : wr.heap.size ≤ w2.heap.size := hK2.size
      have hownb := own_kept HO.out.1 hK2 (fun _ _ f => f)
      have HUPB := hide (fun k (e : Row (Value.slice ob bp.length obc) k) => own_up HO.out.1 k e)
      have HUPS := hide (fun k (e : Row (Value.slice sb i sbc) k) => own_up HO.out.2 k e)
      have hgw : gx < wr.heap.size := (Array.getElem?_eq_some_iff.1 HGx.out).1
      have hbs1 := bpCells_one (hb5)
      have HK2 := hide hK2
      clear hK2 hb1 hb2 hb3 hb4 hb5 hB2 hmm c0 c1 e0
      go_wp2_with (at_builtin; refine wpl_append_opt _ rfl _ _ 34 rfl (gx + 1) 24 ib _ 2 32 Try.underlying34 hib hbz0 hbz1 hbz2 rfl (by decide) _ _ _ rfl hownb a2 bl.length cp2 (bpCells bl) rfl HB3.out (bpCells_len bl) HB4.out hbs1 ?a3 ?a4 ?a5 ?_)
      case a3 => unfold maxLen; omega
      case a4 => omega
      case a5 => omega
      intro v5 w5 hown5 hgr5 hat5
      obtain ⟨ob5, oc5, hv5⟩ := own_slice hown5
      subst hv5
      have hn5 : ∀ k, Row (Value.slice ob5 (bp.length + bl.length) oc5) k → Row (Value.slice ob bp.length obc) k ∨ k = w2.heap.size := by
        intro k e
        rcases hat5 with h | h
        · exact .inl (h.symm.trans e)
        · exact .inr (Option.some.inj (h.symm.trans e)).symm
      have hK5 : Kept (fun k => Row (Value.slice ob bp.length obc) k) w2 w5 := (grown_kept hgr5).mono (fun k _ e => e.symm)
      have hKb : Kept (fun k => Row (Value.slice ob bp.length obc) k) wr w5 := (HK2.out.mono (Y := fun k => Row (Value.slice ob bp.length obc) k) (fun _ _ f => f.elim)).trans hK5 (fun _ _ e => e)
      have HW5 := hide (show Same w w5 from HKr.out.trans hKb (fun k hk e => by have := (HUPB.out k e).1; omega))
      have HKg5 := hide (show Kept (gx ≤ ·) W w5 from HKg.out.trans (hKb.mono (Y := (gx ≤ ·)) (fun k _ e => by have := (HUPB.out k e).1; show gx ≤ k; omega)) (fun _ _ e => e))
      have HGx5 := hide (blk_kept HGx.out hKb (fun e => by have := (HUPB.out _ e).1; omega))
      have HOS5 := hide (own_kept2 HO.out.2 hKb (fun k e1 e2 => HAP.out k e2 e1))
      have HOB5 := hide (show w5.ownsRow (gx + 1) 24 2 (.slice ob5 (bp.length + bl.length) oc5) (bp ++ bl).length (bpCells (bp ++ bl)) by
        rw [List.length_append, show bpCells (bp ++ bl) = bpCells bp ++ bpCells bl by unfold bpCells; rw [List.flatMap_append]]; exact hown5)
      have HAP5 := hide (show ∀ k, Row (Value.slice ob5 (bp.length + bl.length) oc5) k → Row (Value.slice sb i sbc) k → False by
        intro k e1 e2
        rcases hn5 k e1 with h | h
        · exact HAP.out k h e2
        · have := (HUPS.out k e2).2; omega)
      have HEV5 := hide (show ∀ p ∈ bp ++ bl, EvSl (fun k => gx + 1 ≤ k ∧ ¬ Row (Value.slice ob5 (bp.length + bl.length) oc5) k ∧ ¬ Row (Value.slice sb i sbc) k) w5 p.2 p.1.events by
        intro p hp
        rcases List.mem_append.1 hp with hp | hp
        · have e1 := (HEV.out p hp).mono (Q := fun k => (gx + 1 ≤ k ∧ ¬ Row (Value.slice ob5 (bp.length + bl.length) oc5) k ∧ ¬ Row (Value.slice sb i sbc) k) ∧ ¬ Row (Value.slice ob bp.length obc) k) (fun k hk h => ⟨⟨h.1, fun e => by
            rcases hn5 k e with h2 | h2
            · exact h.2.1 h2
            · omega, h.2.2⟩, h.2.1⟩)
          exact (e1.keep hKb (fun k hk => hk.2)).mono (fun k _ hk => hk.1)
        · have e1 := (HB5.out p hp).mono (Q := fun k => (gx + 1 ≤ k ∧ ¬ Row (Value.slice ob5 (bp.length + bl.length) oc5) k ∧ ¬ Row (Value.slice sb i sbc) k) ∧ ¬ Row (Value.slice ob bp.length obc) k) (fun k hk h => by
            have h1 : wr.heap.size ≤ k := h
            have h3 : ¬ Row (Value.slice ob bp.length obc) k := fun e => by have := (HUPB.out k e).2; omega
            refine ⟨⟨by omega, fun e => ?_, fun e => by have := (HUPS.out k e).2; omega⟩, h3⟩
            rcases hn5 k e with h2 | h2
            · exact h3 h2
            · omega)
          exact (e1.keep hK5 (fun k hk => hk.2)).mono (fun k _ hk => hk.1))
      have HUP5 := hide (fun k (e : Row (Value.slice ob5 (bp.length + bl.length) oc5) k) => own_up hown5 k e)
      have HUS5 := hide (fun k (e : Row (Value.slice sb i sbc) k) => own_up HOS5.out k e)
      have hgw5 : gx < w5.heap.size := (Array.getElem?_eq_some_iff.1 HGx5.out).1
      have HC5 := hide (show ∀ wy, Kept (gx + 1 ≤ ·) w5 wy → wy.cell? ⟨gx, 0, none⟩ = some (.slice sb i sbc) ∧ wy.cell? ⟨g, 0, none⟩ = some (.slice (some ⟨b, off, none⟩) l.length cap) ∧ wy.cell? ⟨b, off + i, none⟩ = some (.string ⟨x.toArray⟩) by
        intro wy hy
        obtain ⟨u0, u1⟩ := blk2 HGx5.out
        obtain ⟨u2, u3⟩ := blk2 (blk_kept HGD.out HKg5.out (by show ¬ gx ≤ g; omega))
        have HS5 := HS.out.keep HKg5.out (fun k hk => by have h1 : k < g := hk; show ¬ gx ≤ k; omega)
        obtain ⟨b2, off2, hao, _, u4⟩ := HS5.at i hlt
        cases hao
        rw [← HX.out] at u4
        exact ⟨hy.cell u0 (by show ¬ gx + 1 ≤ gx; omega), hy.cell u2 (by show ¬ gx + 1 ≤ g; omega), hy.cell u4 (by have h1 : b < g := hbg; show ¬ gx + 1 ≤ b; omega)⟩)
      obtain ⟨y, hy⟩ : ∃ y, wholeS x = y := ⟨_, rfl⟩
      have hyl : y.length ≤ x.length := by rw [← hy]; exact whole_le x
      have hXT : (⟨x.toArray⟩ : ByteArray).extract 0 y.length = ⟨y.toArray⟩ := by
        rw [bytes_extract, Nat.sub_zero, List.drop_zero, ← hy, whole_take]
      have hzx := bsz x
      have HY := hide hy
      rw [hy]
      clear hown5 hgr5 hat5 hn5 hK5 hKb hownb hbs1 HB3 HB4 HB5 HUPB HUPS HK2 HAP HEV HO HGx HKg HKr HGd HSr hz2 hgw hy
      go_wp2_with fail
      refine wp_region_noPanic ?_
      refine wp_till 12 (fun w' => w'.cell? ⟨gx, 0, none⟩ = some (.slice sb i sbc) ∧ w'.cell? ⟨g, 0, none⟩ = some (.slice (some ⟨b, off, none⟩) l.length cap) ∧ w'.cell? ⟨b, off + i, none⟩ = some (.string ⟨x.toArray⟩)) (by kernel_rfl) ?_ (fun hC0 => ?_)
      · exact HC5.out _ (by repeat' (first | assumption | exact Kept.refl _ _ | refine Kept.drew ?_ | refine Kept.drewN ?_ _ | refine Kept.alloc ?_ _))
      refine till_any (i := 0) (v := ?v1) rfl (by kernel_rfl) (by kernel_rfl) (by kernel_rfl) (by kernel_rfl) (fun _ _ _ h => h) (Or.inl ⟨by rfl, ?hy1⟩) (fun _ => hC0) ?rest1
      case hy1 => (intro w hSw; (try dsimp only at hSw); go_simp <;> (with_reducible rfl))
      try simp only [Act.put, List.setIfInBounds_toArray]
      refine till_take (i := 1) (v := ?v2) rfl (by kernel_rfl) (by kernel_rfl) (by kernel_rfl) (by kernel_rfl) (fun _ _ _ h => h) (Or.inl ⟨by rfl, ?hy2⟩) hC0 ?rest2
      case hy2 => (intro w hSw; (try dsimp only at hSw); go_simp <;> (with_reducible rfl))
      try simp only [Act.put]
      refine till_any (i := 2) (v := ?v3) rfl (by kernel_rfl) (by kernel_rfl) (by kernel_rfl) (by kernel_rfl) (fun _ _ _ h => h) (Or.inl ⟨by rfl, ?hy3⟩) (fun _ => hC0) ?rest3
      case hy3 => (intro w hSw; (try dsimp only at hSw); go_simp <;> (with_reducible rfl))
      try simp only [Act.put]
      refine till_take (i := 3) (v := ?v4) rfl (by kernel_rfl) (by kernel_rfl) (by kernel_rfl) (by kernel_rfl) (fun _ _ _ h => h) (Or.inl ⟨by rfl, ?hy4⟩) hC0 ?rest4
      case hy4 => (intro w hSw; (try dsimp only at hSw); go_simp <;> (with_reducible rfl))
      try simp only [Act.put]
      refine till_any (i := 4) (v := ?v5) rfl (by kernel_rfl) (by kernel_rfl) (by kernel_rfl) (by kernel_rfl) (fun _ _ _ h => h) (Or.inl ⟨by rfl, ?hy5⟩) (fun _ => hC0) ?rest5
      case hy5 => (intro w hSw; (try dsimp only at hSw); go_simp <;> (with_reducible rfl))
      try simp only [Act.put]
      refine till_any (i := 5) (v := ?v6) rfl (by kernel_rfl) (by kernel_rfl) (by kernel_rfl) (by kernel_rfl) (fun _ _ _ h => h) (Or.inl ⟨by rfl, ?hy6⟩) (fun _ => hC0) ?rest6
      case hy6 => (intro w hSw; (try dsimp only at hSw); go_simp <;> (with_reducible rfl))
      try simp only [Act.put]
      refine till_take (i := 6) (v := ?v7) rfl (by kernel_rfl) (by kernel_rfl) (by kernel_rfl) (by kernel_rfl) (fun _ _ _ h => h) (Or.inl ⟨by rfl, ?hy7⟩) hC0 ?rest7
      case hy7 => (intro w hSw; (try dsimp only at hSw); go_simp <;> (with_reducible rfl))
      try simp only [Act.put]
      refine till_any (i := 7) (v := ?v8) rfl (by kernel_rfl) (by kernel_rfl) (by kernel_rfl) (by kernel_rfl) (fun _ _ _ h => h) (Or.inl ⟨by rfl, ?hy8⟩) (fun _ => hC0) ?rest8
      case hy8 => (intro w hSw; (try dsimp only at hSw); go_simp <;> (with_reducible rfl))
      try simp only [Act.put]
      refine till_any (i := 8) (v := ?v9) rfl (by kernel_rfl) (by kernel_rfl) (by kernel_rfl) (by kernel_rfl) (fun _ _ _ h => h) (Or.inl ⟨by rfl, ?hy9⟩) (fun _ => hC0) ?rest9
      case hy9 => (intro w hSw; (try dsimp only at hSw); go_simp <;> (with_reducible rfl))
      try simp only [Act.put]
      refine till_ready (rs := [9]) (by kernel_rfl) (by simp) ?_
      refine TillReady.cons rfl (fun K hK => ?_) TillReady.nil
      go_simp
      refine hK.out _ _ ?_ (fun hC10 => ?_)
      · first | exact HC5.out _ (by repeat' (first | assumption | exact Kept.refl _ _ | refine Kept.drew ?_ | refine Kept.drewN ?_ _ | refine Kept.alloc ?_ _)) | exact HC5.out _ HKC8.out
      clear hK K hC0
      try simp only [Act.put, List.setIfInBounds_toArray, List.set_cons_zero, List.set_cons_succ]
      refine till_ready (rs := [10]) (by kernel_rfl) (by simp) ?_
      refine TillReady.cons rfl (fun K hK => ?_) TillReady.nil
      refine step_append_at rfl (.tmp 31) (.tmp 39) 36 rfl (gx + 1) 9 is _ 1 16 Try.underlying36 his hsz0 hsz1 hsz2 rfl (by decide) (.slice sb i sbc) i _ (by rfl) (own_kept2 (X := fun _ => False) HOS5.out (by repeat' (first | assumption | exact Kept.refl _ _ | refine Kept.drew ?_ | refine Kept.drewN ?_ _ | refine Kept.alloc ?_ _)) (fun _ _ f => f)) _ 1 1 [.string ⟨y.toArray⟩] (by rfl) rfl (by intro j u hj; exact new_one (by first | exact heap_alloc_new _ _ | exact al_old _ _ _ | exact al_new _ _ _) j u hj) (by intro u hu; simp at hu; subst hu; rfl) (by unfold maxLen; omega) (by omega) (by simp; omega) ?_
      intro v8 w8 hown8 hgr8 hat8
      obtain ⟨a8, c8, hv8⟩ := own_slice hown8
      subst hv8
      have HR8 := hide (show Kept (fun k => Row (Value.slice sb i sbc) k) w5 w8 ∧ (∀ k, Row (Value.slice a8 (i + 1) c8) k → Row (Value.slice sb i sbc) k ∨ w5.heap.size ≤ k) ∧ w8.ownsRow (gx + 1) 9 1 (Value.slice a8 (i + 1) c8) (i + 1) (stCells ((l.take i).map wholeS) ++ [.string ⟨y.toArray⟩]) from ⟨Kept.grown (by repeat' (first | assumption | exact Kept.refl _ _ | refine Kept.drew ?_ | refine Kept.drewN ?_ _ | refine Kept.alloc ?_ _)) hgr8 (fun k hk _ => hk), fun k e => by
        rcases hat8 with h | h
        · exact .inl (h.symm.trans e)
        · right
          have h2 := Option.some.inj (h.symm.trans e)
          rw [← h2]
          first | exact Nat.le_refl _ | (simp; done) | (simp; omega), hown8⟩)
      have HKC8 := hide (show Kept (gx + 1 ≤ ·) w5 w8 from HR8.out.1.mono (fun k _ e => (HUS5.out k e).1))
      have hG8 := blk_kept HGx5.out HR8.out.1 (fun e => by have := (HUS5.out _ e).1; omega)
      have p2 := fro2 hG8
      obtain ⟨q8, q9⟩ := blk2 hG8
      clear hown8 hgr8 hat8
      refine hK.out _ _ ?_ (fun hC11 => ?_)
      · first | exact HC5.out _ (by repeat' (first | assumption | exact Kept.refl _ _ | refine Kept.drew ?_ | refine Kept.drewN ?_ _ | refine Kept.alloc ?_ _)) | exact HC5.out _ HKC8.out
      clear hK K hC10
      try simp only [Act.put, List.setIfInBounds_toArray]
      refine till_any (i := 11) (v := ?v12) rfl (by kernel_rfl) (by kernel_rfl) (by kernel_rfl) (by kernel_rfl) (fun _ _ _ h => h) (Or.inl ⟨by rfl, ?hy12⟩) (fun _ => hC11) ?rest12
      case hy12 => (intro w hSw; (try dsimp only at hSw); go_simp <;> (with_reducible rfl))
      try simp only [Act.put]
      refine till_ready (rs := [12]) (by kernel_rfl) (by simp) ?_
      refine TillReady.free rfl (by kernel_rfl) (fun K hK => ?_) TillReady.nil
      go_simp
      refine hK.out _ _ ?_
      clear hK K
      try simp only [Act.put, List.setIfInBounds_toArray, List.set_cons_zero, List.set_cons_succ]
      refine till_done (by kernel_rfl) ?_ _
      refine NoPanic.normal ?_
      skip
      have hK8 : Kept (fun k => Row (Value.slice sb i sbc) k) w5 w8 := HR8.out.1
      have hn8 : ∀ k, Row (Value.slice a8 (i + 1) c8) k → Row (Value.slice sb i sbc) k ∨ w5.heap.size ≤ k := HR8.out.2.1
      have hown8 := HR8.out.2.2
      clear HR8
      have p3 := fro2 (set2b hG8 (Value.slice a8 (i + 1) c8) (.int .i64 n))
      have hS : Kept (· = gx) w8 ((w8.setCell ⟨gx, 0, none⟩ (Value.slice a8 (i + 1) c8)).setCell ⟨gx, 1, none⟩ (.int .i64 (y.length : Int))) := ((Kept.refl _ w8).setB 0 _).setB 1 _
      have hK9 : Kept (fun k => Row (Value.slice sb i sbc) k ∨ k = gx) w5 ((w8.setCell ⟨gx, 0, none⟩ (Value.slice a8 (i + 1) c8)).setCell ⟨gx, 1, none⟩ (.int .i64 (y.length : Int))) := (hK8.mono (Y := fun k => Row (Value.slice sb i sbc) k ∨ k = gx) (fun _ _ e => .inl e)).trans hS (fun _ _ e => .inr e)
      have HGF := hide (set2b hG8 (Value.slice a8 (i + 1) c8) (.int .i64 (y.length : Int)))
      have HWF := hide (show Same w _ from HW5.out.trans hK9 (fun k hk e => by
        rcases e with e | e
        · have := (HUS5.out k e).1; omega
        · omega))
      have HKF := hide (show Kept (gx ≤ ·) W _ from HKg5.out.trans (hK9.mono (Y := (gx ≤ ·)) (fun k _ e => by
        show gx ≤ k
        rcases e with e | e
        · have := (HUS5.out k e).1; omega
        · omega)) (fun _ _ e => e))
      have HOF := hide (own_kept2 HOB5.out hK9 (fun k e1 e => by
        rcases e with e | e
        · exact HAP5.out k e1 e
        · have := (HUP5.out k e1).1; omega))
      have HSF := hide (own_kept2 hown8 hS (fun k e1 e => by have := (own_up hown8 k e1).1; have h1 : k = gx := e; omega))
      have HAF := hide (show ∀ k, Row (Value.slice ob5 (bp.length + bl.length) oc5) k → Row (Value.slice a8 (i + 1) c8) k → False by
        intro k e1 e2
        rcases hn8 k e2 with h | h
        · exact HAP5.out k e1 h
        · have := (HUP5.out k e1).2; omega)
      have HEF := hide (show ∀ p ∈ bp ++ bl, EvSl (fun k => gx + 1 ≤ k ∧ ¬ Row (Value.slice ob5 (bp.length + bl.length) oc5) k ∧ ¬ Row (Value.slice a8 (i + 1) c8) k) ((w8.setCell ⟨gx, 0, none⟩ (Value.slice a8 (i + 1) c8)).setCell ⟨gx, 1, none⟩ (.int .i64 (y.length : Int))) p.2 p.1.events by
        intro p hp
        have e1 := (HEV5.out p hp).mono (Q := fun k => (gx + 1 ≤ k ∧ ¬ Row (Value.slice ob5 (bp.length + bl.length) oc5) k ∧ ¬ Row (Value.slice a8 (i + 1) c8) k) ∧ ¬ Row (Value.slice sb i sbc) k) (fun k hk h => ⟨⟨h.1, h.2.1, fun e => by
          rcases hn8 k e with h2 | h2
          · exact h.2.2 h2
          · omega⟩, h.2.2⟩)
        exact (e1.keep hK9 (fun k hk e => by
          rcases e with e | e
          · exact hk.2 e
          · have := hk.1.1; omega)).mono (fun k _ hk => hk.1))
      have HNF := hide (show y.length = (wholeS (lastS (l.take (i + 1)))).length by rw [HT.out, lastS_app, HY.out])
      have HSF2 := hide (show World.ownsRow ((w8.setCell ⟨gx, 0, none⟩ (Value.slice a8 (i + 1) c8)).setCell ⟨gx, 1, none⟩ (.int .i64 (y.length : Int))) (gx + 1) 9 1 (Value.slice a8 (i + 1) c8) (i + 1) (stCells ((l.take (i + 1)).map wholeS)) by
        rw [HT.out, List.map_append, List.map_cons, List.map_nil, HY.out, show ∀ a b, stCells (a ++ b) = stCells a ++ stCells b from fun a b => by simp [stCells]]
        exact HSF.out)
      have HLL2 := HLL.out.2
      have hbp2 : (bp ++ bl).length = bp.length + bl.length := List.length_append
      have HBP2 := hide HLL2
      rw [hbp2] at HOF
      clear hK8 hn8 hown8 hS hK9 HSF HLL2 hbp2 HEV5 HAP5 HOB5 HOS5 HKg5 HW5 HUP5 HUS5 HC5 hXT hG8
      go_wp2_with fail
      go_roundg m
      case measure => omega
      case rel =>
        refine ⟨i + 1, y.length, bp ++ bl, (Value.slice a8 (i + 1) c8), by go_num, by omega, HBP2, HWF, HKF, HGF, HNF, ?_, HSF2.out, HAF, HEF⟩
        rw [List.length_append]; exact HOF.out
    · have hil : i = l.length := by omega
      have hgk : gk = 0 := by omega
      subst hgk
      have hnlt : ¬ (i : Int) < (l.length : Int) := by omega
      have HGr1 := hide (blk_kept HGR.out HKg.out (by show ¬ gx ≤ g1; omega))
      obtain ⟨x0, x1⟩ := blk2 HGx.out
      have p2 := fro2 HGr1.out
      obtain ⟨q0, q1⟩ := blk2 (set2b HGr1.out (.slice sb i sbc) (.int .i64 (n : Int)))
      have hS : Kept (· = g1) wr ((wr.setCell ⟨g1, 0, none⟩ (.slice sb i sbc)).setCell ⟨g1, 1, none⟩ (.int .i64 (n : Int))).drew := (((Kept.refl _ wr).setB 0 _).setB 1 _).drew
      have HWF := hide (show Same w _ from HKr.out.trans hS (fun k hk e => by have h1 : k = g1 := e; omega))
      have HBF := hide (show BaSl (fun _ => True) _ (.slice ob bp.length obc) (batchesD l) from own_bas (own_kept2 hown hS (fun k e1 e => by have := (own_up hown k e1).1; have h1 : k = g1 := e; omega)) (fun p hp => (HEV.out p hp).keep hS (fun k hk e => by have h1 : k = g1 := e; omega)) (by
        have h1 := congrArg List.length HBP.out
        rw [List.length_map] at h1
        have := HBL.out i
        omega) (by rw [HBP.out, hil, List.take_length]))
      have HSF := hide (show StSl (fun _ => True) _ (.slice sb i sbc) (l.map wholeS) from (own_sts (l := l.map wholeS) (by
        have h1 := own_kept2 howns hS (fun k e1 e => by have := (own_up howns k e1).1; have h2 : k = g1 := e; omega)
        have e2 : (l.take i).map wholeS = l.map wholeS := by rw [hil, List.take_length]
        rw [e2] at h1
        have e3 : (l.map wholeS).length = i := by rw [List.length_map]; omega
        show World.ownsRow _ _ _ _ _ (l.map wholeS).length _
        rw [e3]
        exact h1) (by unfold maxLen; rw [List.length_map]; omega)).mono (fun _ _ _ => trivial))
      have HNF := hide (show (n : Int) = (openD ⟨l, sy⟩).synced by
        show (n : Int) = ((wholeS (lastS l)).length : Int)
        rw [HN.out, hil, List.take_length])
      have HCX := hide (show ∀ wy, Same wr wy → wy.cell? ⟨gx, 0, none⟩ = some (.slice sb i sbc) ∧ wy.cell? ⟨gx, 1, none⟩ = some (.int .i64 (n : Int)) from fun wy hy => ⟨hy.cell x0 (fun f => f), hy.cell x1 (fun f => f)⟩)
      have hqr := blk2 HGr1.out
      obtain ⟨r0, r1⟩ := hqr
      clear hil hown howns HAP HEV hS x0 x1
      go_wp2_with fail
      refine wp_region_noPanic ?_
      refine wp_till 3 (fun w' => w'.cell? ⟨gx, 0, none⟩ = some (.slice sb i sbc) ∧ w'.cell? ⟨gx, 1, none⟩ = some (.int .i64 (n : Int))) (by kernel_rfl) ?_ (fun hC0 => ?_)
      · exact HCX.out _ (by repeat' (first | assumption | exact Kept.refl _ _ | refine Kept.drew ?_ | refine Kept.drewN ?_ _ | refine Kept.alloc ?_ _))
      refine till_any (i := 0) (v := ?zv1) rfl (by kernel_rfl) (by kernel_rfl) (by kernel_rfl) (by kernel_rfl) (fun _ _ _ h => h) (Or.inl ⟨by rfl, ?zhy1⟩) (fun _ => hC0) ?zrest1
      case zhy1 => (intro w hSw; (try dsimp only at hSw); go_simp <;> (with_reducible rfl))
      try simp only [Act.put, List.setIfInBounds_toArray]
      refine till_take (i := 1) (v := ?zv2) rfl (by kernel_rfl) (by kernel_rfl) (by kernel_rfl) (by kernel_rfl) (fun _ _ _ h => h) (Or.inl ⟨by rfl, ?zhy2⟩) hC0 ?zrest2
      case zhy2 => (intro w hSw; (try dsimp only at hSw); go_simp <;> (with_reducible rfl))
      try simp only [Act.put]
      refine till_any (i := 2) (v := ?zv3) rfl (by kernel_rfl) (by kernel_rfl) (by kernel_rfl) (by kernel_rfl) (fun _ _ _ h => h) (Or.inl ⟨by rfl, ?zhy3⟩) (fun _ => hC0) ?zrest3
      case zhy3 => (intro w hSw; (try dsimp only at hSw); go_simp <;> (with_reducible rfl))
      try simp only [Act.put]
      refine till_ready (rs := [3]) (by kernel_rfl) (by simp) ?_
      refine TillReady.free rfl (by kernel_rfl) (fun K hK => ?_) TillReady.nil
      go_simp
      refine hK.out _ _ ?_
      clear hK K
      try simp only [Act.put, List.setIfInBounds_toArray, List.set_cons_zero, List.set_cons_succ]
      refine till_done (by kernel_rfl) ?_ _
      refine NoPanic.normal ?_
      skip
      go_wp2_with fail
      exact bodyPost_ret (v := .tuple #[.slice ob bp.length obc, diV (.slice sb i sbc) (n : Int)]) (by simp [results, Try.results21, go_sem, q0, q1]) rfl ⟨_, _, by rw [HNF.out], HBF.out, by rw [HOM.out]; exact HSF.out, HWF.out⟩

end Go.Proofs.Ytillhpepfpldcaa
