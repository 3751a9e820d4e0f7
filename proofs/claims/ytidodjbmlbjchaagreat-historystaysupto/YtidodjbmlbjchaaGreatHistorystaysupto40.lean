/- state.Do. -/
import Derived.Test.YtidodjbmlbjchaaGreatHistorystaysupto39
import Derived.Test.YtidodjbmlbjchaaGreatHistorystaysupto23
namespace Go.Proofs.YtidodjbmlbjchaaGreat
open Go.RowKit

/-- what Do answers -/
def doA (w w' : World) (r : Ending) (x : Except Int StateT) : Prop :=
  Same w w' ∧ match x with
  | .error m => r = .returned (.tuple #[stV (.slice none 0 0) (.slice none 0 0), .int .i64 m])
  | .ok s => ∃ vt vh, r = .returned (.tuple #[stV vt vh, .int .i64 0]) ∧ TypSl (w.heap.size ≤ ·) w' vt s.types ∧ ThgSl (w.heap.size ≤ ·) w' vh s.things

/-- a doer with a state of the call's own -/
structure Doer (b0 : Nat) (w : World) (gd : Nat) (vt vh : Value) (s : StateT) (e : EventT) (lo1 hi1 lo2 hi2 : Nat) : Prop where
  blk : w.heap[gd]? = some (.cells (doC vt vh e) 52 (0, 0))
  ty : TyO lo1 hi1 w vt s.types
  th : ThO lo2 hi2 w vh s.things
  low : b0 ≤ lo1 ∧ b0 ≤ lo2 ∧ b0 ≤ gd
  off : hi1 ≤ lo2 ∨ hi2 ≤ lo1
  gd1 : gd < lo1 ∨ hi1 ≤ gd
  gd2 : gd < lo2 ∨ hi2 ≤ gd
  up : hi1 ≤ w.heap.size ∧ hi2 ≤ w.heap.size

theorem doIt_no {s : StateT} {e : EventT} {m : Int} (h : doIt s e = .error m) : m ≠ 0 := by
  unfold doIt at h
  split at h
  · repeat' (split at h)
    all_goals (cases h <;> decide)
  · split at h
    · cases h; decide
    · split at h
      · split at h
        · cases h; decide
        · cases h
      · unfold changeSt at h
        split at h
        · cases h; decide
        · split at h
          · cases h; decide
          · split at h
            · cases h; exact setC_no _ _ _ _ _ _ (by assumption)
            · split at h
              · cases h; assumption
              · cases h

/-- what do leaves of a doer -/
def doR (b0 : Nat) (w w' : World) (gd : Nat) (vt : Value) (e : EventT) (r : Ending) (x : Except Int StateT) : Prop :=
  Kept (b0 ≤ ·) w w' ∧ match x with
      | .error m => m ≠ 0 ∧ r = .returned (.int .i64 m)
      | .ok s' => r = .returned (.int .i64 0) ∧ ∃ vh', w'.heap[gd]? = some (.cells (doC vt vh' e) 52 (0, 0)) ∧ TypSl (b0 ≤ ·) w' vt s'.types ∧ ThgSl (b0 ≤ ·) w' vh' s'.things

theorem do_run {b0 : Nat} {w : World} {gd lo1 hi1 lo2 hi2 : Nat} {vt vh : Value} {s : StateT} {e : EventT} (d : Doer b0 w gd vt vh s e lo1 hi1 lo2 hi2) (hs : Right s) (he : RightEv s.types e) :
    Calls Tryz.prog 27 #[.pointer (some ⟨gd, 0, none⟩)] w fun r w' => doR b0 w w' gd vt e r (doIt s e) := by
  obtain ⟨hb, hty, hth, ⟨hl1, hl2, hl3⟩, hoff, hg1, hg2, hu1, hu2⟩ := d
  have h5 := (right_types hs).1
  have h6 := (right_types hs).2
  have hcs := right_cells hs
  have hfit := right_fit hs
  have hfew := hs.few
  have hso := hs.sorted
  have hsl := hty.sl (by unfold maxLen; omega) (fun c hc => by have := h6 c hc; unfold maxLen; omega)
  have hkeep := fun (w' : World) (hk : Kept (fun k => lo2 ≤ k ∧ k < hi2 ∨ k = gd) w w') => (hty.keep hk (fun k a b c => by omega)).sl (by unfold maxLen; omega) (fun c hc => by have := h6 c hc; unfold maxLen; omega)
  have hdt : ∀ s', doIt s e = .ok s' → s'.types = s.types := fun s' h => (do_right (by rw [doSt_mk hs he]; exact h)).2
  obtain ⟨types, things⟩ := s
  simp only at *
  obtain ⟨tp, D, htp, hown, hhr, hD0, hDm, hDn, hceo⟩ := hth
  subst htp
  have hlen : (tp.map Prod.fst).length = tp.length := by simp
  have hthg : ThgSl anyB w vh (tp.map Prod.fst) := thg_own hown (fun _ _ => trivial) (by unfold maxLen; omega) (fun p hp => by
    obtain ⟨i, hi⟩ := List.getElem?_of_mem hp
    have hm : p.1 ∈ tp.map Prod.fst := List.mem_map_of_mem hp
    exact ((hceo i p hi).sl (by have := (hcs p.1 hm).1; unfold maxLen; omega) (fun c hc => by have := ((hcs p.1 hm).2 c hc).2; unfold maxLen; omega)).any) rfl
  have hlow : lo2 ≤ w.heap.size := by
    have := D_mono hDm tp.length 0 (by omega) (Nat.le_refl _)
    omega
  refine (do_any w gd lo2 hi2 vt vh types tp D e hb hsl.any hown hthg hD0 hDm hDn hhr hceo hso (by omega) he.ty (fun t ht => by have := h6 t ht; omega) hfit (fun t ht => by have := (hcs t ht).1; omega) (fun t ht c hc => ⟨((hcs t ht).2 c hc).1, by have := ((hcs t ht).2 c hc).2; omega⟩) hlow he.kind).mono ?_
  rintro r w' ⟨hK, hm⟩
  refine ⟨hK.mono (fun i _ hi => by omega), ?_⟩
  cases hx : doIt ⟨types, tp.map Prod.fst⟩ e with
  | error m =>
    rw [hx] at hm
    exact ⟨doIt_no hx, hm⟩
  | ok s' =>
    rw [hx] at hm
    obtain ⟨rfl, vh', h1, h2⟩ := hm
    have ht := hdt s' hx
    exact ⟨rfl, vh', h1, by rw [ht]; exact (hkeep w' hK).mono (fun k _ hk => by omega), h2.mono (fun k _ hk => by omega)⟩

theorem put8 {w : World} {g : Nat} {a0 a1 a2 a3 a4 a5 a6 a7 : Value} {t : TypeId} (h : w.heap[g]? = some (.cells #[a0, a1, a2, a3, a4, a5, a6, a7] t (0, 0))) (b0 b1 b2 b3 b4 b5 b6 b7 : Value) :
    ((((((((w.setCell ⟨g, 0, none⟩ b0).setCell ⟨g, 1, none⟩ b1).setCell ⟨g, 2, none⟩ b2).setCell ⟨g, 3, none⟩ b3).setCell ⟨g, 4, none⟩ b4).setCell ⟨g, 5, none⟩ b5).setCell ⟨g, 6, none⟩ b6).setCell ⟨g, 7, none⟩ b7).heap[g]? = some (.cells #[b0, b1, b2, b3, b4, b5, b6, b7] t (0, 0)) := by
  simp [World.setCell, Array.getElem?_modify, h]

theorem cells8 {w : World} {g : Nat} {a0 a1 a2 a3 a4 a5 a6 a7 : Value} {t : TypeId} (h : w.heap[g]? = some (.cells #[a0, a1, a2, a3, a4, a5, a6, a7] t (0, 0))) :
    w.cell? ⟨g, 0, none⟩ = some a0 ∧ w.cell? ⟨g, 1, none⟩ = some a1 ∧ w.cell? ⟨g, 2, none⟩ = some a2 ∧ w.cell? ⟨g, 3, none⟩ = some a3 ∧ w.cell? ⟨g, 4, none⟩ = some a4 ∧ w.cell? ⟨g, 5, none⟩ = some a5 ∧ w.cell? ⟨g, 6, none⟩ = some a6 ∧ w.cell? ⟨g, 7, none⟩ = some a7 ∧ ∀ o, w.frozen? ⟨g, o, none⟩ = false := by
  simp [World.cell?, World.frozen?, h]

theorem lt_new {w : World} {o : Obj} {lo : Nat} (h : (w.alloc o).drew.heap.size ≤ lo) : w.heap.size < lo := by
  have h2 : (w.alloc o).heap.size ≤ lo := h
  rw [World.size_alloc] at h2
  omega

theorem doer_new {b0 lo1 hi1 lo2 hi2 : Nat} {wa : World} {vt vh : Value} {s : StateT} {e : EventT} (hty : TyO lo1 hi1 wa vt s.types) (hth : ThO lo2 hi2 wa vh s.things) (hl : b0 ≤ lo1 ∧ b0 ≤ lo2) (hoff : hi1 ≤ lo2 ∨ hi2 ≤ lo1) (hu : hi1 ≤ wa.heap.size ∧ hi2 ≤ wa.heap.size) (hb : b0 ≤ wa.heap.size) :
    Doer b0 (wa.alloc (.cells (doC vt vh e) 52)) wa.heap.size vt vh s e lo1 hi1 lo2 hi2 :=
  ⟨heap_alloc_new _ _, hty.same ((Kept.refl _ wa).alloc _), hth.same ((Kept.refl _ wa).alloc _), ⟨hl.1, hl.2, hb⟩, hoff, .inr hu.1, .inr hu.2, by rw [World.size_alloc]; omega⟩

theorem doer_put {b0 gd lo1 hi1 lo2 hi2 : Nat} {wa : World} {vt vh a0 a1 a2 a3 a4 a5 a6 a7 : Value} {s : StateT} {e : EventT} (hz : wa.heap[gd]? = some (.cells #[a0, a1, a2, a3, a4, a5, a6, a7] 52 (0, 0))) (hty : TyO lo1 hi1 wa vt s.types) (hth : ThO lo2 hi2 wa vh s.things) (hl : b0 ≤ lo1 ∧ b0 ≤ lo2 ∧ b0 ≤ gd) (hoff : hi1 ≤ lo2 ∨ hi2 ≤ lo1) (hu : hi1 ≤ wa.heap.size ∧ hi2 ≤ wa.heap.size) (h1 : gd < lo1) (h2 : gd < lo2) :
    Doer b0 ((((((((wa.setCell ⟨gd, 0, none⟩ vt).setCell ⟨gd, 1, none⟩ vh).setCell ⟨gd, 2, none⟩ (.int .i64 e.kind)).setCell ⟨gd, 3, none⟩ (.int .i64 e.ty)).setCell ⟨gd, 4, none⟩ (.int .i64 e.id)).setCell ⟨gd, 5, none⟩ (.int .i64 e.field)).setCell ⟨gd, 6, none⟩ (.int .i64 e.n)).setCell ⟨gd, 7, none⟩ (.string ⟨e.text.toArray⟩)) gd vt vh s e lo1 hi1 lo2 hi2 ∧
    Kept (· = gd) wa ((((((((wa.setCell ⟨gd, 0, none⟩ vt).setCell ⟨gd, 1, none⟩ vh).setCell ⟨gd, 2, none⟩ (.int .i64 e.kind)).setCell ⟨gd, 3, none⟩ (.int .i64 e.ty)).setCell ⟨gd, 4, none⟩ (.int .i64 e.id)).setCell ⟨gd, 5, none⟩ (.int .i64 e.field)).setCell ⟨gd, 6, none⟩ (.int .i64 e.n)).setCell ⟨gd, 7, none⟩ (.string ⟨e.text.toArray⟩)) := by
  have hK := (((((((((Kept.refl (· = gd) wa).setB 0 vt).setB 1 vh).setB 2 (.int .i64 e.kind)).setB 3 (.int .i64 e.ty)).setB 4 (.int .i64 e.id)).setB 5 (.int .i64 e.field)).setB 6 (.int .i64 e.n)).setB 7 (.string ⟨e.text.toArray⟩))
  have hs := hK.size
  exact ⟨⟨put8 hz _ _ _ _ _ _ _ _, hty.keep hK (fun k a b c => by omega), hth.keep hK (fun k a b c => by omega), hl, hoff, .inl h1, .inl h2, by omega⟩, hK⟩

end Go.Proofs.YtidodjbmlbjchaaGreat
