/- parse.Line: going through tokens. -/
import Derived.Test.YtkkjchfhgjfclabGreatDoorSchematells17
import Derived.Test.YtkkjchfhgjfclabGreatDoorSchematells07
import Derived.Test.YtkkjchfhgjfclabGreatDoorSchematells04
namespace Go.Proofs.YtkkjchfhgjfclabGreatDoor
open Go.RowKit

/-- v is a slice of the numbers l, in w -/
def IntSl (w : World) (v : Value) (l : List Int) : Prop :=
  ∃ b off cap, v = .slice (some ⟨b, off, none⟩) l.length cap ∧ l.length ≤ 1000 ∧ ∀ i x, l[i]? = some x → w.cell? ⟨b, off + i, none⟩ = some (.int .i64 x)

theorem IntSl.same {w w' : World} {v : Value} {l : List Int} (h : IntSl w v l) (hk : Same w w') : IntSl w' v l := by
  obtain ⟨b, off, cap, hv, hl, hc⟩ := h
  exact ⟨b, off, cap, hv, hl, fun i x hx => hk.cell (hc i x hx) (fun f => f)⟩

theorem IntSl.new1 (w : World) (x : Int) (t : TypeId) : IntSl (w.alloc (.cells #[.int .i64 x] t)) (.slice (some ⟨w.heap.size, 0, none⟩) 1 1) [x] := by
  refine ⟨_, 0, 1, rfl, by simp, fun i y hy => ?_⟩
  cases i with
  | zero => simp at hy; subst hy; simp
  | succ i => simp at hy
theorem IntSl.new2 (w : World) (x y : Int) (t : TypeId) : IntSl (w.alloc (.cells #[.int .i64 x, .int .i64 y] t)) (.slice (some ⟨w.heap.size, 0, none⟩) 2 2) [x, y] := by
  refine ⟨_, 0, 2, rfl, by simp, fun i z hz => ?_⟩
  match i, hz with
  | 0, hz => simp at hz; subst hz; simp
  | 1, hz => simp at hz; subst hz; simp
  | i + 2, hz => simp at hz

set_option maxRecDepth 20000 in
set_option maxHeartbeats 800000 in
theorem index_any (w : World) (v : Value) (l : List Int) (x : Int) (h : IntSl w v l) :
    Calls Tryz.prog 145 #[v, .int .i64 x] w fun e w' =>
      (∃ j : Nat, e = .returned (.int .i64 j) ∧ l.contains x = true ∧ Same w w') ∨ (e = .returned (.int .i64 (-1)) ∧ l.contains x = false ∧ Same w w') := by
  obtain ⟨b, off, cap, rfl, hl, hc⟩ := h
  go_enter Tryz.func145, Tryz.ntmps145
  go_wp2_with fail
  go_loopg [8] l.length (fun g i wr => ∃ j : Nat, j + g = l.length ∧ i = .int .i64 j ∧ wr = w ∧ Hid ((l.take j).contains x = false))
  case atStart => exact ⟨0, by omega, rfl, rfl, by simp [Hid]⟩
  case round =>
    obtain ⟨j, hj, rfl, rfl, HN⟩ := hrel
    by_cases hlt : j < l.length
    · have c0 := hc j l[j] (List.getElem?_eq_getElem hlt)
      have HT := hide (show l.take (j + 1) = l.take j ++ [l[j]] from List.take_succ_eq_append_getElem hlt)
      have HM := hide (show l[j] ∈ l from List.getElem_mem hlt)
      obtain ⟨a, ha⟩ : ∃ a, a = l[j] := ⟨_, rfl⟩
      rw [← ha] at c0 HT HM
      clear ha hc
      by_cases hx : x = a
      · have hx' : (x == a) = true := by simp [hx]
        have HX := hide hx
        clear hx
        go_wp2_with fail
        go_ret
        exact .inl ⟨j, rfl, by rw [HX.out]; simpa using HM.out, Kept.refl _ _⟩
      · have hx' : (x == a) = false := by simp [hx]
        have HX := hide hx
        clear hx
        go_wp2_with fail
        go_roundg (gk - 1)
        case measure => omega
        case rel => exact ⟨j + 1, by omega, by go_num, rfl, by
          have h1 := HN.out
          have h2 := HX.out
          rw [Hid, HT.out]
          simp only [List.contains_eq_mem, List.mem_append, List.mem_singleton, decide_eq_false_iff_not, not_or] at h1 ⊢
          exact ⟨h1, h2⟩⟩
    · clear hc
      go_wp2_with fail
      go_ret
      exact .inr ⟨rfl, by rw [← HN.out, List.take_of_length_le (by omega)], Kept.refl _ _⟩

theorem contains_is (w : World) (v : Value) (l : List Int) (x : Int) (h : IntSl w v l) (q : Bool) (hq : l.contains x = q) :
    Calls Tryz.prog 134 #[v, .int .i64 x] w fun e w' => e = .returned (.bool q) ∧ Same w w' := by
  have HI := hide (index_any w v l x h)
  have HQ := hide hq
  obtain ⟨b, off, cap, rfl, hl, hc⟩ := h
  clear hq hc
  go_enter Tryz.func134, Tryz.ntmps134
  go_wp2_with fail
  refine HI.out.mono ?_
  rintro e w1 (⟨j, rfl, ha, hK⟩ | ⟨rfl, ha, hK⟩)
  · have HA := hide ha
    clear ha
    go_wp2_with fail
    go_ret
    exact ⟨ret_bool (by rw [← HQ.out, HA.out]), hK⟩
  · have HA := hide ha
    clear ha
    go_wp2_with fail
    go_ret
    exact ⟨ret_bool (by rw [← HQ.out, HA.out]), hK⟩

/-- the line at q has the tokens r still to come, in w -/
def LineAt (w : World) (q : Nat) (r : List Tok) : Prop :=
  ∃ ao cap, w.heap[q]? = some (.cells #[.slice ao r.length cap] 112 (0, 0)) ∧ r.length ≤ cap ∧ TokSl w (.slice ao r.length cap) r ∧ (r ≠ [] → ∀ b off, ao = some ⟨b, off, none⟩ → b < q)

theorem LineAt.lt {w : World} {q : Nat} {r : List Tok} (h : LineAt w q r) : q < w.heap.size := by
  obtain ⟨ao, cap, hh, _⟩ := h
  exact (Array.getElem?_eq_some_iff.1 hh).1

theorem LineAt.same {w w' : World} {q : Nat} {r : List Tok} (h : LineAt w q r) (hk : Same w w') : LineAt w' q r := by
  have hl := h.lt
  obtain ⟨ao, cap, hh, hc, ht, hb⟩ := h
  exact ⟨ao, cap, by rw [hk.block q hl (fun f => f)]; exact hh, hc, ht.same hk, hb⟩

/-- a line is kept where nothing up to it is turned -/
theorem LineAt.after {w w' : World} {q : Nat} {r : List Tok} (h : LineAt w q r) {X : Nat → Prop} (hk : Kept X w w') (hx : ∀ k, X k → q < k) : LineAt w' q r := by
  have hl := h.lt
  obtain ⟨ao, cap, hh, hc, ht, hb⟩ := h
  refine ⟨ao, cap, by rw [hk.block q hl (fun f => Nat.lt_irrefl _ (hx q f))]; exact hh, hc, ?_, hb⟩
  obtain ⟨ao2, cp2, hv2, hl2, hc2⟩ := ht
  refine ⟨ao2, cp2, hv2, hl2, fun i u hu => ?_⟩
  obtain ⟨b2, o2, e2, g0, g1, g2⟩ := hc2 i u hu
  cases hv2
  subst e2
  have hb2 : ¬ X b2 := fun f => by
    have h1 := hx b2 f
    have h2 := hb (by intro e; subst e; simp at hu) b2 o2 rfl
    omega
  exact ⟨b2, o2, rfl, hk.cell g0 hb2, hk.cell g1 hb2, hk.cell g2 hb2⟩

theorem LineAt.cell {w : World} {q : Nat} {r : List Tok} (h : LineAt w q r) : ∃ ao cap, w.cell? ⟨q, 0, none⟩ = some (.slice ao r.length cap) ∧ w.frozen? ⟨q, 0, none⟩ = false ∧ r.length ≤ cap := by
  obtain ⟨ao, cap, hh, hc, _, _⟩ := h
  exact ⟨ao, cap, by simp [World.cell?, hh], by simp [World.frozen?, hh], hc⟩

theorem TokSl.tail {w : World} {b off n cap cap' : Nat} {t : Tok} {r : List Tok} (h : TokSl w (.slice (some ⟨b, off, none⟩) n cap) (t :: r)) : TokSl w (.slice (some ⟨b, off + 3, none⟩) r.length cap') r := by
  obtain ⟨ao, cp, hv, hl, hc⟩ := h
  cases hv
  refine ⟨_, cap', rfl, by simp at hl; omega, fun i u hu => ⟨b, off + 3, rfl, ?_⟩⟩
  obtain ⟨b', o', e, h0, h1, h2⟩ := hc (i + 1) u (by simpa using hu)
  cases e
  rw [show off + 3 + i * 3 = off + (i + 1) * 3 from by omega]
  exact ⟨h0, h1, h2⟩

/-- the first token, and the line behind it -/
theorem LineAt.first {w : World} {q : Nat} {t : Tok} {r : List Tok} (h : LineAt w q (t :: r)) : ∃ b off cap, w.cell? ⟨q, 0, none⟩ = some (.slice (some ⟨b, off, none⟩) (r.length + 1) cap) ∧ w.frozen? ⟨q, 0, none⟩ = false ∧ r.length + 1 ≤ cap ∧
    w.cell? ⟨b, off, none⟩ = some (.int .i64 t.k) ∧ w.cell? ⟨b, off + 1, none⟩ = some (.string ⟨t.s.toArray⟩) ∧ w.cell? ⟨b, off + 2, none⟩ = some (.int .i64 t.n) ∧
    b < q ∧ ∀ w1, Same w w1 → ∀ cap' off', r.length ≤ cap' → (off' = off + 3 ∨ r = []) → LineAt (w1.setCell ⟨q, 0, none⟩ (.slice (some ⟨b, off', none⟩) r.length cap')) q r := by
  obtain ⟨ao, cap, hh, hc, ht, hbl⟩ := h
  obtain ⟨b, off, e, h0, h1, h2⟩ := ht.at 0 (by simp)
  subst e
  have hbq0 : b < q := hbl (by simp) b off rfl
  simp only [Nat.zero_mul, Nat.add_zero, List.getElem_cons_zero] at h0 h1 h2
  have hq := (Array.getElem?_eq_some_iff.1 hh).1
  refine ⟨b, off, cap, by simp [World.cell?, hh], by simp [World.frozen?, hh], by simpa using hc, h0, h1, h2, hbq0, fun w1 hk cap' off' hcap hoff => ?_⟩
  have hh1 : w1.heap[q]? = some (.cells #[.slice (some ⟨b, off, none⟩) (t :: r).length cap] 112 (0, 0)) := by rw [hk.block q hq (fun f => f)]; exact hh
  refine ⟨some ⟨b, off', none⟩, cap', ?_, hcap, ?_, fun _ b2 o2 e2 => by cases e2; exact hbq0⟩
  · simp [World.setCell, Array.getElem?_modify, hh1]
  · have hbq : b ≠ q := by
      intro e
      subst e
      simp [World.cell?, hh] at h2
    rcases hoff with rfl | rfl
    · have hK : Kept (· = q) w1 (w1.setCell ⟨q, 0, none⟩ (.slice (some ⟨b, off + 3, none⟩) r.length cap')) := (Kept.refl _ w1).setB 0 _
      obtain ⟨ao2, cp2, hv2, hl2, hc2⟩ := (TokSl.tail (cap' := cap') (ht.same hk))
      refine ⟨ao2, cp2, hv2, hl2, fun i u hu => ?_⟩
      obtain ⟨b2, o2, e2, g0, g1, g2⟩ := hc2 i u hu
      cases hv2
      cases e2
      exact ⟨b, off + 3, rfl, hK.cell g0 hbq, hK.cell g1 hbq, hK.cell g2 hbq⟩
    · exact ⟨_, _, rfl, by simp, fun i u hu => by simp at hu⟩

theorem newLine_any (w : World) (v : Value) (T : List Tok) (h : TokSl w v T) (hc : ∀ ao n cap, v = .slice ao n cap → n ≤ cap) :
    Calls Tryz.prog 33 #[v] w fun e w' => e = .returned (.pointer (some ⟨w.heap.size, 0, none⟩)) ∧ LineAt w' w.heap.size T ∧ Same w w' ∧ w'.heap.size = w.heap.size + 1 := by
  obtain ⟨ao, cap, rfl, hl, hcs⟩ := id h
  have HB := hide (show T ≠ [] → ∀ b off, ao = some ⟨b, off, none⟩ → b < w.heap.size from fun hT b off e => by
    cases T with
    | nil => exact absurd rfl hT
    | cons t T =>
      obtain ⟨b2, o2, e2, g0, _⟩ := hcs 0 t rfl
      rw [e] at e2
      cases e2
      exact World.block_lt_of_cell? w _ g0)
  clear hcs
  have HC := hide (hc _ _ _ rfl)
  have HT := hide h
  clear hc h
  go_enter Tryz.func33, Tryz.ntmps33
  go_wp2_with fail
  go_ret
  have hK : Same w (w.alloc (.cells #[.slice ao T.length cap] 112)) := (Kept.refl _ w).alloc _
  exact ⟨rfl, ⟨ao, cap, heap_alloc_new w _, HC.out, HT.out.same hK, HB.out⟩, hK, by simp⟩

theorem ended_is (w : World) (q : Nat) (r : List Tok) (h : LineAt w q r) (b : Bool) (hb : decide (r.length = 0) = b) :
    Calls Tryz.prog 75 #[.pointer (some ⟨q, 0, none⟩)] w fun e w' => e = .returned (.bool b) ∧ w' = w := by
  obtain ⟨ao, cap, c, f, _⟩ := h.cell
  have HB := hide hb
  clear hb h
  go_enter Tryz.func75, Tryz.ntmps75
  go_wp2_with fail
  go_ret
  exact ⟨ret_bool (by rw [← HB.out, Bool.eq_iff_iff]; simp), rfl⟩

theorem line_end {w w2 : World} {q b off cap' : Nat} {r : List Tok} (hK : Same w w2) (hL : LineAt (w2.setCell ⟨q, 0, none⟩ (.slice (some ⟨b, off, none⟩) r.length cap')) q r) (hq : q < w.heap.size) :
    ∀ x y z o, LineAt (((((w2.setCell ⟨q, 0, none⟩ (.slice (some ⟨b, off, none⟩) r.length cap')).setCell ⟨w.heap.size, 0, none⟩ x).setCell ⟨w.heap.size, 1, none⟩ y).setCell ⟨w.heap.size, 2, none⟩ z).alloc o) q r ∧ Kept (· = q) w (((((w2.setCell ⟨q, 0, none⟩ (.slice (some ⟨b, off, none⟩) r.length cap')).setCell ⟨w.heap.size, 0, none⟩ x).setCell ⟨w.heap.size, 1, none⟩ y).setCell ⟨w.heap.size, 2, none⟩ z).alloc o) := by
  intro x y z o
  have hKq : Kept (· = q) w w2 := hK.to
  have hKK : Kept (· = w.heap.size) (w2.setCell ⟨q, 0, none⟩ (.slice (some ⟨b, off, none⟩) r.length cap')) (((((w2.setCell ⟨q, 0, none⟩ (.slice (some ⟨b, off, none⟩) r.length cap')).setCell ⟨w.heap.size, 0, none⟩ x).setCell ⟨w.heap.size, 1, none⟩ y).setCell ⟨w.heap.size, 2, none⟩ z).alloc o) :=
    (((((Kept.refl _ _).setB 0 x).setB 1 y).setB 2 z).alloc o)
  exact ⟨hL.after hKK (by intro k hk; omega), (hKq.setB 0 _).trans hKK (fun i hi e => by omega)⟩

set_option maxRecDepth 20000 in
set_option maxHeartbeats 800000 in
theorem take_ok (w : World) (q : Nat) (t : Tok) (r : List Tok) (v : Value) (l : List Int) (h : LineAt w q (t :: r)) (hv : IntSl w v l) (hk : l.contains t.k = true) :
    Calls Tryz.prog 106 #[.pointer (some ⟨q, 0, none⟩), v] w fun e w' => e = .returned (.agg #[.int .i64 t.k, .string ⟨t.s.toArray⟩, .int .i64 t.n]) ∧ LineAt w' q r ∧ Kept (· = q) w w' := by
  have hlen : r.length ≤ 9000000000000 := by
    obtain ⟨_, _, _, _, ⟨_, _, _, hl, _⟩, _⟩ := id h
    simp at hl; omega
  have hq := h.lt
  obtain ⟨b, off, cap, c, f, hcap, h0, h1, h2, _, hstep⟩ := h.first
  have HE := hide (fun w1 hK => ended_is w1 q (t :: r) (h.same hK) false (by simp))
  have HCO := hide (fun w1 hK => contains_is w1 v l t.k (hv.same hK) true hk)
  have HS := hide hstep
  obtain ⟨b', off', cap', rfl, hl', _⟩ := hv
  clear hk hstep h
  have cA : ∀ o, (w.alloc o).cell? ⟨q, 0, none⟩ = some (.slice (some ⟨b, off, none⟩) (r.length + 1) cap) := fun o => ((Kept.refl (fun _ => False) w).alloc o).cell c (fun f => f)
  have kA : ∀ o, Same w (w.alloc o) := fun o => (Kept.refl _ w).alloc o
  go_enter Tryz.func106, Tryz.ntmps106
  go_wp2_with fail
  refine (HE.out _ (kA _)).mono ?_
  rintro e w1 ⟨rfl, rfl⟩
  have d0 := (kA (.cells #[.int .i64 0, .string ⟨#[]⟩, .int .i64 0] 65)).cell h0 (fun f => f)
  go_wp2_with fail
  refine (HCO.out _ (kA _)).mono ?_
  rintro e w2 ⟨rfl, hK2⟩
  have hK : Same w w2 := (kA _).trans hK2 (fun _ _ f => f.elim)
  have hnew := new_kept hK2 (fun f => f)
  have e0 := hK.cell h0 (fun f => f)
  have e1 := hK.cell h1 (fun f => f)
  have e2 := hK.cell h2 (fun f => f)
  have ec := hK.cell c (fun f => f)
  have ef : w2.frozen? ⟨q, 0, none⟩ = false := by
    have := hK.block q hq (fun f => f)
    rw [← f]; simp [World.frozen?, this]
  have hq2 : q < w2.heap.size := Nat.lt_of_lt_of_le hq hK.size
  have hw2 : w.heap.size < w2.heap.size := (Array.getElem?_eq_some_iff.1 hnew).1
  have hqn : q ≠ w.heap.size := by omega
  have hqn' : w.heap.size ≠ q := by omega
  have n0 : w2.cell? ⟨w.heap.size, 0, none⟩ = some (.int .i64 0) := by simp [World.cell?, hnew]
  have n1 : w2.cell? ⟨w.heap.size, 1, none⟩ = some (.string ⟨#[]⟩) := by simp [World.cell?, hnew]
  have n2 : w2.cell? ⟨w.heap.size, 2, none⟩ = some (.int .i64 0) := by simp [World.cell?, hnew]
  have nf : ∀ o, w2.frozen? ⟨w.heap.size, o, none⟩ = false := fun o => by simp [World.frozen?, hnew]
  have HF := hide (fun off' cp (hcp : r.length ≤ cp) (ho : off' = off + 3 ∨ r = []) => line_end hK (HS.out w2 hK cp off' hcp ho) hq)
  clear HS HE HCO cA kA h0 h1 h2 c f d0 hnew hK2
  go_wp2_with fail
  all_goals
    refine bodyPost_ret (v := .agg #[.int .i64 t.k, .string ⟨t.s.toArray⟩, .int .i64 t.n]) (by simp [results, Tryz.results106, go_sem, n0, n1, n2, hw2]) rfl ⟨rfl, ?_⟩
    refine HF.out _ _ (by omega) ?_ _ _ _ _
  · exact .inr (List.length_eq_zero_iff.1 (by omega))
  · exact .inl rfl

/-- nothing of these kinds comes next -/
theorem take_bad (w : World) (q : Nat) (r : List Tok) (v : Value) (l : List Int) (h : LineAt w q r) (hv : IntSl w v l) (hk : ∀ t r', r = t :: r' → l.contains t.k = false) :
    Calls Tryz.prog 106 #[.pointer (some ⟨q, 0, none⟩), v] w fun e w' => e = fault 1 ∧ Kept (· = q) w w' := by
  have kA : ∀ o, Same w (w.alloc o) := fun o => (Kept.refl _ w).alloc o
  cases r with
  | nil =>
    have HE := hide (fun w1 hK => ended_is w1 q [] (h.same hK) true (by simp))
    obtain ⟨b', off', cap', rfl, hl', _⟩ := hv
    clear hk h
    go_enter Tryz.func106, Tryz.ntmps106
    go_wp2_with fail
    refine (HE.out _ (kA _)).mono ?_
    rintro e w1 ⟨rfl, rfl⟩
    go_wp2_with fail
    exact ⟨rfl, rfl, (kA _).to⟩
  | cons t r =>
    obtain ⟨b, off, cap, c, f, hcap, h0, h1, h2, _, _⟩ := h.first
    have HE := hide (fun w1 hK => ended_is w1 q (t :: r) (h.same hK) false (by simp))
    have HCO := hide (fun w1 hK => contains_is w1 v l t.k (hv.same hK) false (hk t r rfl))
    obtain ⟨b', off', cap', rfl, hl', _⟩ := hv
    clear hk h
    have cA : ∀ o, (w.alloc o).cell? ⟨q, 0, none⟩ = some (.slice (some ⟨b, off, none⟩) (r.length + 1) cap) := fun o => ((Kept.refl (fun _ => False) w).alloc o).cell c (fun f => f)
    have d0 := (kA (.cells #[.int .i64 0, .string ⟨#[]⟩, .int .i64 0] 65)).cell h0 (fun f => f)
    go_enter Tryz.func106, Tryz.ntmps106
    go_wp2_with fail
    refine (HE.out _ (kA _)).mono ?_
    rintro e w1 ⟨rfl, rfl⟩
    go_wp2_with fail
    refine (HCO.out _ (kA _)).mono ?_
    rintro e w2 ⟨rfl, hK2⟩
    have hK : Same w w2 := (kA _).trans hK2 (fun _ _ f => f.elim)
    go_wp2_with fail
    exact ⟨rfl, rfl, hK.to⟩

set_option maxRecDepth 20000 in
set_option maxHeartbeats 800000 in
theorem skip_yes (w : World) (q : Nat) (t : Tok) (r : List Tok) (c : UInt8) (h : LineAt w q (t :: r)) (hs : isS c (t :: r) = true) :
    Calls Tryz.prog 97 #[.pointer (some ⟨q, 0, none⟩), .string ⟨#[c]⟩] w fun e w' => e = .returned (.bool true) ∧ LineAt w' q r ∧ Kept (· = q) w w' := by
  have hlen : r.length ≤ 9000000000000 := by
    obtain ⟨_, _, _, _, ⟨_, _, _, hl, _⟩, _⟩ := id h
    simp at hl; omega
  have HE := hide (ended_is w q (t :: r) h false (by simp))
  obtain ⟨b, off, cap, cc, f, hcap, h0, h1, h2, _, hstep⟩ := h.first
  have HS := hide (fun off' cp (hcp : r.length ≤ cp) (ho : off' = off + 3 ∨ r = []) => hstep w (Kept.refl _ _) cp off' hcp ho)
  simp only [isS, Bool.and_eq_true, decide_eq_true_eq] at hs
  obtain ⟨hk, hts⟩ := hs
  rw [hk] at h0
  rw [hts] at h1
  have h1' : w.cell? ⟨b, off + 1, none⟩ = some (.string ⟨#[c]⟩) := h1
  clear hstep h h1 hk hts
  go_enter Tryz.func97, Tryz.ntmps97
  go_wp2_with fail
  refine HE.out.mono ?_
  rintro e w1 ⟨rfl, rfl⟩
  go_wp2_with fail
  all_goals go_ret
  · exact ⟨rfl, HS.out _ _ (by omega) (.inr (List.length_eq_zero_iff.1 (by omega))), (Kept.refl _ _).setB 0 _⟩
  · exact ⟨rfl, HS.out _ _ (by omega) (.inl rfl), (Kept.refl _ _).setB 0 _⟩

theorem skip_no (w : World) (q : Nat) (r : List Tok) (c : UInt8) (h : LineAt w q r) (hs : isS c r = false) :
    Calls Tryz.prog 97 #[.pointer (some ⟨q, 0, none⟩), .string ⟨#[c]⟩] w fun e w' => e = .returned (.bool false) ∧ w' = w := by
  cases r with
  | nil =>
    have HE := hide (ended_is w q [] h true (by simp))
    clear h hs
    go_enter Tryz.func97, Tryz.ntmps97
    go_wp2_with fail
    refine HE.out.mono ?_
    rintro e w1 ⟨rfl, rfl⟩
    go_wp2_with fail
    go_ret
    exact ⟨rfl, rfl⟩
  | cons t r =>
    have HE := hide (ended_is w q (t :: r) h false (by simp))
    obtain ⟨b, off, cap, cc, f, hcap, h0, h1, h2, _, hstep⟩ := h.first
    by_cases hk : t.k = 4
    · have hts : t.s ≠ [c] := by
        intro e
        simp [isS, hk, e] at hs
      have hne : (t.s == [c]) = false := by simp [hts]
      rw [hk] at h0
      clear hstep h hk hs hts
      go_enter Tryz.func97, Tryz.ntmps97
      go_wp2_with fail
      refine HE.out.mono ?_
      rintro e w1 ⟨rfl, rfl⟩
      go_wp2_with fail
      go_ret
      exact ⟨rfl, rfl⟩
    · have hk' : (t.k != 4) = true := by simp [hk]
      clear hstep h hk hs
      go_enter Tryz.func97, Tryz.ntmps97
      go_wp2_with fail
      refine HE.out.mono ?_
      rintro e w1 ⟨rfl, rfl⟩
      go_wp2_with fail
      go_ret
      exact ⟨rfl, rfl⟩

theorem sign_yes (w : World) (q : Nat) (t : Tok) (r : List Tok) (c : UInt8) (h : LineAt w q (t :: r)) (hs : isS c (t :: r) = true) :
    Calls Tryz.prog 64 #[.pointer (some ⟨q, 0, none⟩), .string ⟨#[c]⟩] w fun e w' => e = .returned (.tuple #[]) ∧ LineAt w' q r ∧ Kept (· = q) w w' := by
  have HS := hide (skip_yes w q t r c h hs)
  clear h hs
  go_enter Tryz.func64, Tryz.ntmps64
  go_wp2_with fail
  refine HS.out.mono ?_
  rintro e w1 ⟨rfl, hL, hK⟩
  go_wp2_with fail
  go_end0
  exact ⟨rfl, hL, hK⟩

theorem sign_no (w : World) (q : Nat) (r : List Tok) (c : UInt8) (h : LineAt w q r) (hs : isS c r = false) :
    Calls Tryz.prog 64 #[.pointer (some ⟨q, 0, none⟩), .string ⟨#[c]⟩] w fun e w' => e = fault 1 ∧ Kept (· = q) w w' := by
  have HS := hide (skip_no w q r c h hs)
  clear h hs
  go_enter Tryz.func64, Tryz.ntmps64
  go_wp2_with fail
  refine HS.out.mono ?_
  rintro e w1 ⟨rfl, rfl⟩
  go_wp2_with fail
  exact ⟨rfl, rfl, Kept.refl _ _⟩

theorem take_any (w : World) (q : Nat) (r : List Tok) (v : Value) (l : List Int) (h : LineAt w q r) (hv : IntSl w v l) :
    Calls Tryz.prog 106 #[.pointer (some ⟨q, 0, none⟩), v] w fun e w' =>
      (∃ t r', r = t :: r' ∧ l.contains t.k = true ∧ e = .returned (.agg #[.int .i64 t.k, .string ⟨t.s.toArray⟩, .int .i64 t.n]) ∧ LineAt w' q r' ∧ Kept (· = q) w w')
      ∨ ((∀ t r', r = t :: r' → l.contains t.k = false) ∧ e = fault 1 ∧ Kept (· = q) w w') := by
  cases r with
  | nil => exact (take_bad w q [] v l h hv (fun t r' e => by cases e)).mono fun e w' ⟨h1, h2⟩ => .inr ⟨fun t r' e => (by cases e), h1, h2⟩
  | cons t r =>
    cases hk : l.contains t.k with
    | true => exact (take_ok w q t r v l h hv hk).mono fun e w' ⟨h1, h2, h3⟩ => .inl ⟨t, r, rfl, hk, h1, h2, h3⟩
    | false => exact (take_bad w q (t :: r) v l h hv (fun u r' e => by cases e; exact hk)).mono fun e w' ⟨h1, h2⟩ => .inr ⟨fun u r' e => (by cases e; exact hk), h1, h2⟩

/-- a name must come -/
theorem take1_any (w : World) (q : Nat) (r : List Tok) (h : LineAt w q r) :
    Calls Tryz.prog 106 #[.pointer (some ⟨q, 0, none⟩), .slice (some ⟨w.heap.size, 0, none⟩) 1 1] (w.alloc (.cells #[.int .i64 1] 3)) fun e w' =>
      (∃ t r', r = t :: r' ∧ t.k = 1 ∧ e = .returned (.agg #[.int .i64 1, .string ⟨t.s.toArray⟩, .int .i64 t.n]) ∧ LineAt w' q r' ∧ Kept (· = q) w w')
      ∨ ((∀ t r', r = t :: r' → t.k ≠ 1) ∧ e = fault 1 ∧ Kept (· = q) w w') := by
  have kA : Kept (· = q) w (w.alloc (.cells #[.int .i64 1] 3)) := (Kept.refl _ w).alloc _
  refine (take_any _ q r _ [1] (h.same ((Kept.refl _ w).alloc _)) (IntSl.new1 w 1 _)).mono ?_
  rintro e w' (⟨t, r', h1, h2, h3, h4, h5⟩ | ⟨h1, h2, h3⟩)
  · have hk : t.k = 1 := by simpa using h2
    rw [hk] at h3
    exact .inl ⟨t, r', h1, hk, h3, h4, kA.trans h5 (fun _ _ e => e)⟩
  · exact .inr ⟨fun t r' e hk => by have := h1 t r' e; simp [hk] at this, h2, kA.trans h3 (fun _ _ e => e)⟩

theorem sign_any (w : World) (q : Nat) (r : List Tok) (c : UInt8) (h : LineAt w q r) :
    Calls Tryz.prog 64 #[.pointer (some ⟨q, 0, none⟩), .string ⟨#[c]⟩] w fun e w' =>
      (∃ t r', r = t :: r' ∧ isS c r = true ∧ e = .returned (.tuple #[]) ∧ LineAt w' q r' ∧ Kept (· = q) w w') ∨ (isS c r = false ∧ e = fault 1 ∧ Kept (· = q) w w') := by
  cases hs : isS c r with
  | true =>
    cases r with
    | nil => cases hs
    | cons t r => exact (sign_yes w q t r c h hs).mono fun e w' ⟨h1, h2, h3⟩ => .inl ⟨t, r, rfl, rfl, h1, h2, h3⟩
  | false => exact (sign_no w q r c h hs).mono fun e w' ⟨h1, h2⟩ => .inr ⟨rfl, h1, h2⟩

theorem skip_any (w : World) (q : Nat) (r : List Tok) (c : UInt8) (h : LineAt w q r) :
    Calls Tryz.prog 97 #[.pointer (some ⟨q, 0, none⟩), .string ⟨#[c]⟩] w fun e w' =>
      (∃ t r', r = t :: r' ∧ isS c r = true ∧ e = .returned (.bool true) ∧ LineAt w' q r' ∧ Kept (· = q) w w') ∨ (isS c r = false ∧ e = .returned (.bool false) ∧ w' = w) := by
  cases hs : isS c r with
  | true =>
    cases r with
    | nil => cases hs
    | cons t r => exact (skip_yes w q t r c h hs).mono fun e w' ⟨h1, h2, h3⟩ => .inl ⟨t, r, rfl, rfl, h1, h2, h3⟩
  | false => exact (skip_no w q r c h hs).mono fun e w' ⟨h1, h2⟩ => .inr ⟨rfl, h1, h2⟩

theorem end_any (w : World) (q : Nat) (r : List Tok) (h : LineAt w q r) :
    Calls Tryz.prog 66 #[.pointer (some ⟨q, 0, none⟩)] w fun e w' => (r = [] ∧ e = .returned (.tuple #[]) ∧ w' = w) ∨ (r ≠ [] ∧ e = fault 1 ∧ w' = w) := by
  cases r with
  | nil =>
    have HE := hide (ended_is w q [] h true (by simp))
    clear h
    go_enter Tryz.func66, Tryz.ntmps66
    go_wp2_with fail
    refine HE.out.mono ?_
    rintro e w1 ⟨rfl, rfl⟩
    go_wp2_with fail
    go_end0
    exact .inl ⟨by trivial, rfl, rfl⟩
  | cons t r =>
    have HE := hide (ended_is w q (t :: r) h false (by simp))
    clear h
    go_enter Tryz.func66, Tryz.ntmps66
    go_wp2_with fail
    refine HE.out.mono ?_
    rintro e w1 ⟨rfl, rfl⟩
    go_wp2_with fail
    exact ⟨by trivial, .inr ⟨by simp, rfl, rfl⟩⟩

end Go.Proofs.YtkkjchfhgjfclabGreatDoor
