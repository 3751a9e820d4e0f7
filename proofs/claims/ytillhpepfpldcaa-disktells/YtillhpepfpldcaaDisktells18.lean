import Derived.Test.YtillhpepfpldcaaDisktells16
import Derived.Test.YtillhpepfpldcaaDisktells17
import Derived.Test.YtillhpepfpldcaaDisktells12
import Derived.Test.YtillhpepfpldcaaDisktells11
import Derived.Test.YtillhpepfpldcaaDisktells06
import Derived.OneCell
/- disk.keeper: how it lies in memory; last, setLast, whole, torn, cut, sync, hasRoom, tornAt. -/
namespace Go.Proofs.Ytillhpepfpldcaa
open Go.RowKit

def inCells (l : List Nat) : List Value := l.map fun (n : Nat) => Value.int .i64 n
def bpCells (l : List (BatchT × Value)) : List Value := l.flatMap fun p => [.int .i64 p.1.number, p.2]
theorem inCells_len (l : List Nat) : (inCells l).length = l.length := by simp [inCells]
theorem bpCells_len (l : List (BatchT × Value)) : (bpCells l).length = l.length * 2 := by
  induction l with
  | nil => rfl
  | cons e r ih => simp only [bpCells, List.flatMap_cons, List.length_append, List.length_cons] at ih ⊢; rw [ih]; simp; omega

/-- a keeper in block g, what it keeps in blocks of its own from block B on -/
structure KW (B : Nat) (w : World) (g : Nat) (sv bv ev : Value) (segs : List (List UInt8)) (syn : Int) (bp : List (BatchT × Value)) (es : List Nat) : Prop where
  blk : w.heap[g]? = some (.cells #[sv, .int .i64 syn, bv, ev] 84 (0, 0))
  own : OwnS B w sv segs
  bat : w.ownsRow B 24 2 bv bp.length (bpCells bp)
  evs : ∀ p ∈ bp, EvSl (fun k => B ≤ k ∧ k ≠ g ∧ ¬ Row sv k ∧ ¬ Row bv k ∧ ¬ Row ev k) w p.2 p.1.events
  end' : w.ownsRow B 3 1 ev es.length (inCells es)
  hB : B ≤ g
  sg : ¬ Row sv g
  bg : ¬ Row bv g
  eg : ¬ Row ev g
  sb : ∀ k, Row sv k → ¬ Row bv k
  se : ∀ k, Row sv k → ¬ Row ev k
  be : ∀ k, Row bv k → ¬ Row ev k
  len : segs.length ≤ 8
  each : ∀ s ∈ segs, s.length ≤ 400

theorem KW.up {B : Nat} {w : World} {g : Nat} {sv bv ev : Value} {segs : List (List UInt8)} {syn : Int} {bp : List (BatchT × Value)} {es : List Nat} (h : KW B w g sv bv ev segs syn bp es) {X : Nat → Prop} {w' : World} (hk : Kept X w w') (hx : ∀ k, B ≤ k → ¬ X k) : KW B w' g sv bv ev segs syn bp es :=
  { h with
    blk := blk_kept h.blk hk (hx g h.hB)
    own := own_kept h.own hk hx
    bat := own_kept h.bat hk hx
    evs := fun p hp => (h.evs p hp).keep hk (fun b hb => hx b hb.1)
    end' := own_kept h.end' hk hx }
theorem KW.same {B : Nat} {w : World} {g : Nat} {sv bv ev : Value} {segs : List (List UInt8)} {syn : Int} {bp : List (BatchT × Value)} {es : List Nat} (h : KW B w g sv bv ev segs syn bp es) {w' : World} (hk : Same w w') : KW B w' g sv bv ev segs syn bp es := h.up hk (fun _ _ f => f)

/-- a row stands where its own block does -/
theorem own_kept2 {w w' : World} {base : Nat} {e : TypeId} {size : Nat} {v : Value} {n : Nat} {xs : List Value} (h : w.ownsRow base e size v n xs) {X : Nat → Prop} (hk : Kept X w w') (hX : ∀ g, Row v g → ¬ X g) : w'.ownsRow base e size v n xs := by
  obtain ⟨h1, h2⟩ := h
  refine ⟨h1, ?_⟩
  rcases h2 with h2 | ⟨g, cap, cur, hv, hg, hh, r⟩
  · exact Or.inl h2
  · have hlt : g < w.heap.size := (Array.getElem?_eq_some_iff.1 hh).1
    exact Or.inr ⟨g, cap, cur, hv, hg, by rw [hk.block g hlt (hX g (by rw [hv]; rfl))]; exact hh, r⟩

theorem blk4 {w : World} {g : Nat} {x0 x1 x2 x3 : Value} {t : TypeId} (h : w.heap[g]? = some (.cells #[x0, x1, x2, x3] t (0, 0))) :
    w.cell? ⟨g, 0, none⟩ = some x0 ∧ w.cell? ⟨g, 1, none⟩ = some x1 ∧ w.cell? ⟨g, 2, none⟩ = some x2 ∧ w.cell? ⟨g, 3, none⟩ = some x3 ∧ ∀ o, w.frozen? ⟨g, o, none⟩ = false := by
  simp [World.cell?, World.frozen?, h]

section
variable {B : Nat} {w : World} {g : Nat} {sv bv ev : Value} {segs : List (List UInt8)} {syn : Int} {bp : List (BatchT × Value)} {es : List Nat}

theorem last_any (h : KW B w g sv bv ev segs syn bp es) :
    Calls Try.prog 52 #[.pointer (some ⟨g, 0, none⟩)] w fun r w' => r = .returned (.string ⟨(lastS segs).toArray⟩) ∧ ∃ n, w' = w.drewN n := by
  obtain ⟨c0, c1, c2, c3, cf⟩ := blk4 h.blk
  rcases List.eq_nil_or_concat segs with rfl | ⟨i, s, rfl⟩
  · obtain ⟨ao, cap, rfl⟩ := own_slice h.own
    clear h
    go_enter Try.func52, Try.ntmps52
    go_wp2_with fail
    go_ret
    exact ⟨rfl, 0, rfl⟩
  · simp only [List.concat_eq_append] at *
    have hl : (i ++ [s]).length = i.length + 1 := by simp
    have h8 := h.len
    have hS := own_sts h.own (by unfold maxLen; omega)
    obtain ⟨ao, cap, rfl⟩ := own_slice h.own
    obtain ⟨b, off, rfl, _, e0⟩ := hS.at i.length (by omega)
    rw [List.getElem_concat_length rfl] at e0
    rw [lastS_app]
    have hne : (((i ++ [s]).length : Int) == 0) = false := by rw [beq_eq_false_iff_ne]; omega
    rw [hl] at c0 hne
    rw [hl] at h8
    clear h hS hl
    go_enter Try.func52, Try.ntmps52
    go_wp2_with fail
    go_quiet (fail)
    go_wp2_with fail
    go_ret
    exact ⟨rfl, _, rfl⟩

/-! what is stored -/
theorem KW.seg {b cap : Nat} (h : KW B w g (.slice (some ⟨b, 0, none⟩) segs.length cap) bv ev segs syn bp es) (j : Nat) (x : List UInt8) (hx : x.length ≤ 400) :
    KW B (w.setCell ⟨b, j, none⟩ (.string ⟨x.toArray⟩)) g (.slice (some ⟨b, 0, none⟩) segs.length cap) bv ev (segs.set j x) syn bp es := by
  have hk : Kept (· = b) w (w.setCell ⟨b, j, none⟩ (.string ⟨x.toArray⟩)) := (Kept.refl _ w).setB j _
  have hrb : Row (.slice (some ⟨b, 0, none⟩) segs.length cap) b := rfl
  have hst := (World.ownsRow.stored h.own j (.string ⟨x.toArray⟩)).1
  refine { h with blk := blk_kept h.blk hk (fun e => h.sg (by rw [e]; rfl)), own := ?_, bat := ownsRow_setCell_other h.bat (fun e => h.sb b hrb e) _, evs := fun p hp => (h.evs p hp).keep hk (fun k hk' e => hk'.2.2.1 (by rw [e]; rfl)), end' := ownsRow_setCell_other h.end' (fun e => h.se b hrb e) _, len := by rw [List.length_set]; exact h.len, each := fun s hs => ?_ }
  · show World.ownsRow _ _ _ _ _ (segs.set j x).length (stCells (segs.set j x))
    rw [List.length_set]
    have : stCells (segs.set j x) = (stCells segs).set j (.string ⟨x.toArray⟩) := by simp [stCells, List.map_set]
    rw [this]; exact hst
  · rcases List.mem_or_eq_of_mem_set hs with hs | rfl
    · exact h.each s hs
    · exact hx

theorem KW.set1 (h : KW B w g sv bv ev segs syn bp es) (n : Int) : KW B (w.setCell ⟨g, 1, none⟩ (.int .i64 n)) g sv bv ev segs n bp es := by
  have hk : Kept (· = g) w (w.setCell ⟨g, 1, none⟩ (.int .i64 n)) := (Kept.refl _ w).setB 1 _
  refine { h with blk := ?_, own := ownsRow_setCell_other h.own (fun e => h.sg e) _, bat := ownsRow_setCell_other h.bat (fun e => h.bg e) _, evs := fun p hp => (h.evs p hp).keep hk (fun k hk' e => hk'.2.1 e), end' := ownsRow_setCell_other h.end' (fun e => h.eg e) _ }
  have := h.blk
  simp [World.setCell, Array.getElem?_modify, this]

theorem setLastS_eq (l : List (List UInt8)) (x : List UInt8) (i : List (List UInt8)) (s : List UInt8) (h : l = i ++ [s]) : setLastS l x = l.set i.length x := by
  subst h
  rw [setLastS_app]; simp

theorem setLast_any (h : KW B w g sv bv ev segs syn bp es) (x : List UInt8) (hx : x.length ≤ 400) :
    Calls Try.prog 66 #[.pointer (some ⟨g, 0, none⟩), .string ⟨x.toArray⟩] w fun r w' => r = .returned (.tuple #[]) ∧ KW B w' g sv bv ev (setLastS segs x) syn bp es ∧ Kept (B ≤ ·) w w' := by
  have HH := hide h
  obtain ⟨c0, c1, c2, c3, cf⟩ := blk4 h.blk
  rcases List.eq_nil_or_concat segs with rfl | ⟨i, s, rfl⟩
  · obtain ⟨ao, cap, rfl⟩ := own_slice h.own
    clear h
    go_enter Try.func66, Try.ntmps66
    go_wp2_with fail
    first | go_end0 | refine bodyPost_ret (results_none rfl _ _ _) rfl ?_
    exact ⟨rfl, HH.out, Kept.refl _ _⟩
  · simp only [List.concat_eq_append] at *
    have hl : (i ++ [s]).length = i.length + 1 := by simp
    have h8 := h.len
    obtain ⟨b, cap, rfl⟩ := own_form h.own (by omega)
    have e0 := World.ownsRow.cellAt h.own i.length (by omega)
    have f0 := World.ownsRow.frozenAt h.own i.length
    have hbB : B ≤ b := own_row h.own b rfl
    have hcap : (i ++ [s]).length ≤ cap := by
      rcases h.own.2 with ⟨h', _⟩ | ⟨g', cap', cur, h', _, hg, h2, _⟩
      · cases h'
      · cases h'; exact h2
    have HST := hide (h.seg i.length x hx)
    have hbg : b ≠ g := fun e => h.sg (by rw [← e]; rfl)
    have he : (stCells (i ++ [s]))[i.length]? = some (.string ⟨s.toArray⟩) := stCells_get (by simp)
    rw [he] at e0
    rw [setLastS_eq _ x i s rfl]
    rw [hl] at c0 h8 hcap
    rw [hl] at HST
    have HS2 := HST
    clear h hl HST HH he
    go_enter Try.func66, Try.ntmps66
    go_wp2_with fail
    go_region
    all_goals
      go_wp2_with fail
      first | go_end0 | refine bodyPost_ret (results_none rfl _ _ _) rfl ?_
      refine ⟨rfl, ?_, ?_⟩
      · have := HS2.out.same (Kept.refl (fun _ => False) _).drew
        simpa using this
      · exact ((Kept.refl _ w).drew).setCell (fun _ => hbB) _

end

end Go.Proofs.Ytillhpepfpldcaa

/- disk.keeper: whole, torn, cut, sync, hasRoom, tornAt. -/
namespace Go.Proofs.Ytillhpepfpldcaa
open Go.RowKit

section
variable {B : Nat} {w : World} {g : Nat} {sv bv ev : Value} {segs : List (List UInt8)} {syn : Int} {bp : List (BatchT × Value)} {es : List Nat}

theorem inCells_get {l : List Nat} {i : Nat} {n : Nat} (h : l[i]? = some n) : (inCells l)[i]? = some (.int .i64 n) := by
  unfold inCells; rw [List.getElem?_map, h]; rfl

theorem whole_any {es0 : List Nat} {n : Nat} (h : KW B w g sv bv ev segs syn bp (es0 ++ [n])) (hsm : es0.length ≤ 100000) :
    Calls Try.prog 48 #[.pointer (some ⟨g, 0, none⟩)] w fun r w' => r = .returned (.int .i64 n) ∧ ∃ n, w' = w.drewN n := by
  obtain ⟨c0, c1, c2, c3, cf⟩ := blk4 h.blk
  have hl : (es0 ++ [n]).length = es0.length + 1 := by simp
  obtain ⟨b, cap, rfl⟩ := own_form h.end' (by omega)
  have e0 := World.ownsRow.cellAt h.end' es0.length (by omega)
  have he : (inCells (es0 ++ [n]))[es0.length]? = some (.int .i64 n) := inCells_get (by simp)
  rw [he] at e0
  have hcap : (es0 ++ [n]).length ≤ cap := by
    rcases h.end'.2 with ⟨h', _⟩ | ⟨g', cap', cur, h', _, hg, h2, _⟩
    · cases h'
    · cases h'; exact h2
  rw [hl] at c3 hcap
  clear h hl he
  go_enter Try.func48, Try.ntmps48
  go_wp2_with fail
  go_quiet (fail)
  go_wp2_with fail
  go_ret
  exact ⟨rfl, _, rfl⟩

theorem last_len (h : KW B w g sv bv ev segs syn bp es) : (lastS segs).length ≤ 400 := by
  rcases List.eq_nil_or_concat segs with rfl | ⟨i, s, rfl⟩
  · simp [lastS]
  · simp only [List.concat_eq_append] at *
    rw [lastS_app]
    exact h.each s (by simp)

theorem same_drewN {w wx : World} {n : Nat} (h : wx = w.drewN n) : Same w wx := by rw [h]; exact (Kept.refl _ w).drewN n

theorem torn_any {es0 : List Nat} {n : Nat} (h : KW B w g sv bv ev segs syn bp (es0 ++ [n])) (hsm : es0.length ≤ 100000) :
    Calls Try.prog 50 #[.pointer (some ⟨g, 0, none⟩)] w fun r w' => r = .returned (.bool (decide (n < (lastS segs).length))) ∧ Same w w' := by
  have HW := hide (whole_any h hsm)
  have HL := hide (fun wx hk => last_any (h.same (w' := wx) hk))
  have hz := bsize (lastS segs)
  have hll := last_len h
  clear h
  generalize lastS segs = s at *
  go_enter Try.func50, Try.ntmps50
  go_wp2_with fail
  refine HW.out.mono ?_
  rintro r w1 ⟨rfl, m1, hw1⟩
  have hK1 := same_drewN hw1
  clear hw1
  go_wp2_with fail
  refine (HL.out _ hK1).mono ?_
  rintro r w2 ⟨rfl, m2, hw2⟩
  have hK2 := hK1.trans (same_drewN hw2) (fun _ _ f => f)
  clear hw2
  go_wp2_with fail
  go_ret
  exact ⟨ret_bool (by simp), hK2⟩

theorem cut_any (h : KW B w g sv bv ev segs syn bp es) (n : Nat) (hn : n ≤ (lastS segs).length) :
    Calls Try.prog 47 #[.pointer (some ⟨g, 0, none⟩), .int .i64 n] w fun r w' => r = .returned (.tuple #[]) ∧ KW B w' g sv bv ev (setLastS segs ((lastS segs).take n)) syn bp es ∧ Kept (B ≤ ·) w w' := by
  have HL := hide (last_any h)
  have hz := bsize (lastS segs)
  have hll := last_len h
  have HX := hide (show (⟨(lastS segs).toArray⟩ : ByteArray).extract 0 n = ⟨((lastS segs).take n).toArray⟩ by
    apply ByteArray.ext
    simp)
  have HSL := hide (fun wx hk => setLast_any (h.same (w' := wx) hk) ((lastS segs).take n) (by rw [List.length_take]; omega))
  clear h
  generalize lastS segs = s at *
  go_enter Try.func47, Try.ntmps47
  go_wp2_with fail
  refine HL.out.mono ?_
  rintro r w1 ⟨rfl, m1, hw1⟩
  have hK1 := same_drewN hw1
  clear hw1
  go_wp2_with fail
  rw [HX.out]
  refine (HSL.out _ hK1).mono ?_
  rintro r w2 ⟨rfl, hk2, hK2⟩
  go_wp2_with fail
  first | go_end0 | refine bodyPost_ret (results_none rfl _ _ _) rfl ?_
  exact ⟨rfl, hk2, hK1.to.trans hK2 (fun _ _ e => e)⟩

theorem sync_any (h : KW B w g sv bv ev segs syn bp es) :
    Calls Try.prog 49 #[.pointer (some ⟨g, 0, none⟩)] w fun r w' => r = .returned (.tuple #[]) ∧ KW B w' g sv bv ev segs (lastS segs).length bp es ∧ Kept (B ≤ ·) w w' := by
  have HL := hide (last_any h)
  have hz := bsize (lastS segs)
  have hll := last_len h
  have HS := hide (fun wx hk => (h.same (w' := wx) hk).set1 (lastS segs).length)
  have HB := hide (fun wx (hk : Same w wx) => blk4 (h.same hk).blk)
  have hgB := h.hB
  clear h
  generalize lastS segs = s at *
  go_enter Try.func49, Try.ntmps49
  go_wp2_with fail
  refine HL.out.mono ?_
  rintro r w1 ⟨rfl, m1, hw1⟩
  have hK1 := same_drewN hw1
  obtain ⟨d0, d1, d2, d3, df⟩ := HB.out w1 hK1
  clear hw1
  go_wp2_with fail
  first | go_end0 | refine bodyPost_ret (results_none rfl _ _ _) rfl ?_
  exact ⟨rfl, HS.out w1 hK1, hK1.to.setCell (fun _ => hgB) _⟩

theorem room_any (h : KW B w g sv bv ev segs syn bp es) (n : Nat) (hn : n ≤ 100000) :
    Calls Try.prog 67 #[.pointer (some ⟨g, 0, none⟩), .int .i64 n] w fun r w' => r = .returned (.bool (decide (segs ≠ [] ∧ (lastS segs).length + n ≤ 400))) ∧ Same w w' := by
  obtain ⟨c0, c1, c2, c3, cf⟩ := blk4 h.blk
  have HL := hide (last_any h)
  have hz := bsize (lastS segs)
  have hll := last_len h
  have h8 := h.len
  obtain ⟨ao, cap, rfl⟩ := own_slice h.own
  by_cases hne : segs = []
  · have HD := hide (decide_eq_false (p := segs ≠ [] ∧ (lastS segs).length + n ≤ 400) (fun e => e.1 hne))
    have hl0 : segs.length = 0 := by rw [hne]; rfl
    have hl1 : ¬ (0 : Int) < (segs.length : Int) := by omega
    clear h hne
    generalize lastS segs = s at *
    go_enter Try.func67, Try.ntmps67
    go_wp2_with fail
    go_ret
    exact ⟨ret_bool (by simpa using HD.out.symm), (by repeat' (first | assumption | exact Kept.refl _ _ | refine Kept.drewN ?_ _ | refine Kept.drew ?_ | refine Kept.alloc ?_ _ | refine Kept.setB ?_ _ _))⟩
  · have hl1 : (0 : Int) < (segs.length : Int) := by have := List.length_pos_iff.2 hne; omega
    have HD := hide (show decide (segs ≠ [] ∧ (lastS segs).length + n ≤ 400) = decide ((lastS segs).length + n ≤ 400) by rw [Bool.eq_iff_iff]; simp [hne])
    clear h hne
    generalize lastS segs = s at *
    go_enter Try.func67, Try.ntmps67
    go_wp2_with fail
    refine HL.out.mono ?_
    rintro r w1 ⟨rfl, m1, hw1⟩
    have hK1 := same_drewN hw1
    clear hw1
    go_wp2_with fail
    go_ret
    exact ⟨ret_bool (by rw [HD.out, Bool.eq_iff_iff]; simp; omega), hK1⟩

theorem tornAt_any (h : KW B w g sv bv ev segs syn bp es) (i : Nat) (hi : i < segs.length) :
    Calls Try.prog 81 #[.pointer (some ⟨g, 0, none⟩), .int .i64 i] w fun r w' => r = .returned (.int .i64 (if i + 1 < segs.length then 4 else 0)) ∧ w' = w := by
  obtain ⟨c0, c1, c2, c3, cf⟩ := blk4 h.blk
  have h8 := h.len
  obtain ⟨ao, cap, rfl⟩ := own_slice h.own
  clear h
  by_cases hlt : i + 1 < segs.length
  · have HD := hide (show (if i + 1 < segs.length then (4 : Int) else 0) = 4 by rw [if_pos hlt])
    generalize (if i + 1 < segs.length then (4 : Int) else 0) = x at *
    go_enter Try.func81, Try.ntmps81
    go_wp2_with fail
    go_ret
    exact ⟨ret_int HD.out.symm, rfl⟩
  · have HD := hide (show (if i + 1 < segs.length then (4 : Int) else 0) = 0 by rw [if_neg hlt])
    generalize (if i + 1 < segs.length then (4 : Int) else 0) = x at *
    go_enter Try.func81, Try.ntmps81
    go_wp2_with fail
    go_ret
    exact ⟨ret_int HD.out.symm, rfl⟩

end

end Go.Proofs.Ytillhpepfpldcaa
