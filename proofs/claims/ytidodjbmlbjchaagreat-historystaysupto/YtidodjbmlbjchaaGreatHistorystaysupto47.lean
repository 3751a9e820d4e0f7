/- history.Back: its drawn region. (Written by tool/genhb5.py.) -/
import Derived.Test.YtidodjbmlbjchaaGreatHistorystaysupto45
import Derived.Test.YtidodjbmlbjchaaGreatHistorystaysupto46
namespace Go.Proofs.YtidodjbmlbjchaaGreat
open Go.RowKit

def SVs (b : StateT) (w : World) (z : Value) : Prop := ∃ a5 c5 a6 c6, z = stV (.slice a5 b.types.length c5) (.slice a6 b.things.length c6) ∧ TypSl anyB w (.slice a5 b.types.length c5) b.types ∧ ThgSl anyB w (.slice a6 b.things.length c6) b.things
theorem SVs.same {b : StateT} {w w' : World} {z : Value} (h : SVs b w z) (k : Same w w') : SVs b w' z := by
  obtain ⟨a5, c5, a6, c6, e, h1, h2⟩ := h
  exact ⟨a5, c5, a6, c6, e, h1.same k, h2.same k⟩
def SVt (b : StateT) (w : World) (u : Value) : Prop := ∃ z, u = .tuple #[z, .int .i64 0] ∧ SVs b w z
theorem SVt.same {b : StateT} {w w' : World} {z : Value} (h : SVt b w z) (k : Same w w') : SVt b w' z := by
  obtain ⟨z, e, h1⟩ := h
  exact ⟨z, e, h1.same k⟩

/-- a block of two empty slices is none of those that types or things lie in -/
theorem nil_cell {w : World} {g : Nat} {t : TypeId} (h : w.heap[g]? = some (.cells #[.slice none 0 0, .slice none 0 0] t (0, 0))) {o : Nat} {v : Value} (hc : w.cell? ⟨g, o, none⟩ = some v) : v = .slice none 0 0 := by
  match o, hc with
  | 0, hc => simp [World.cell?, h] at hc; exact hc.symm
  | 1, hc => simp [World.cell?, h] at hc; exact hc.symm
  | o + 2, hc => simp [World.cell?, h] at hc
theorem FldSl.off {P : Nat → Prop} {w : World} {g : Nat} {t : TypeId} {v : Value} {l : List FieldT} (hg : w.heap[g]? = some (.cells #[.slice none 0 0, .slice none 0 0] t (0, 0))) (h : FldSl P w v l) : FldSl (fun k => P k ∧ k ≠ g) w v l := by
  obtain ⟨ao, cap, hv, hl, hc⟩ := h
  refine ⟨ao, cap, hv, hl, fun i f hf => ?_⟩
  obtain ⟨b, off, ha, hp, h0, h1, h2⟩ := hc i f hf
  exact ⟨b, off, ha, ⟨hp, fun e => by subst e; cases nil_cell hg h0⟩, h0, h1, h2⟩
theorem TypSl.off {P : Nat → Prop} {w : World} {g : Nat} {t : TypeId} {v : Value} {l : List TypeT} (hg : w.heap[g]? = some (.cells #[.slice none 0 0, .slice none 0 0] t (0, 0))) (h : TypSl P w v l) : TypSl (fun k => P k ∧ k ≠ g) w v l := by
  obtain ⟨ao, cap, hv, hl, hc⟩ := h
  refine ⟨ao, cap, hv, hl, fun i f hf => ?_⟩
  obtain ⟨b, off, vf, ha, hp, h0, h1, h2⟩ := hc i f hf
  exact ⟨b, off, vf, ha, ⟨hp, fun e => by subst e; cases nil_cell hg h0⟩, h0, h1, h2.off hg⟩
theorem IdsSl.off {P : Nat → Prop} {w : World} {g : Nat} {t : TypeId} {v : Value} {l : List Int} (hg : w.heap[g]? = some (.cells #[.slice none 0 0, .slice none 0 0] t (0, 0))) (h : IdsSl P w v l) : IdsSl (fun k => P k ∧ k ≠ g) w v l := by
  obtain ⟨ao, cap, hv, hl, hc⟩ := h
  refine ⟨ao, cap, hv, hl, fun i f hf => ?_⟩
  obtain ⟨b, off, ha, hp, h0⟩ := hc i f hf
  exact ⟨b, off, ha, ⟨hp, fun e => by subst e; cases nil_cell hg h0⟩, h0⟩
theorem CelSl.off {P : Nat → Prop} {w : World} {g : Nat} {t : TypeId} {v : Value} {l : List CellT} (hg : w.heap[g]? = some (.cells #[.slice none 0 0, .slice none 0 0] t (0, 0))) (h : CelSl P w v l) : CelSl (fun k => P k ∧ k ≠ g) w v l := by
  obtain ⟨ao, cap, hv, hl, hc⟩ := h
  refine ⟨ao, cap, hv, hl, fun i f hf => ?_⟩
  obtain ⟨b, off, vf, ha, hp, h0, h1, h2, h3⟩ := hc i f hf
  exact ⟨b, off, vf, ha, ⟨hp, fun e => by subst e; cases nil_cell hg h0⟩, h0, h1, h2, h3.off hg⟩
theorem ThgSl.off {P : Nat → Prop} {w : World} {g : Nat} {t : TypeId} {v : Value} {l : List ThingT} (hg : w.heap[g]? = some (.cells #[.slice none 0 0, .slice none 0 0] t (0, 0))) (h : ThgSl P w v l) : ThgSl (fun k => P k ∧ k ≠ g) w v l := by
  obtain ⟨ao, cap, hv, hl, hc⟩ := h
  refine ⟨ao, cap, hv, hl, fun i f hf => ?_⟩
  obtain ⟨b, off, vf, ha, hp, h0, h1, h2, h3⟩ := hc i f hf
  exact ⟨b, off, vf, ha, ⟨hp, fun e => by subst e; cases nil_cell hg h0⟩, h0, h1, h2, h3.off hg⟩

/-- the region, its operations listed so far -/
structure BJ (Wy : World) (st li jv sl : Value) (b : StateT) (ls : Array Bool) (w : World) (v11 v12 u27 u28 u29 u30 u31 u32 u33 u34 : Value) : Prop where
  same : Same Wy w
  f0 : ls.getD 0 false = true → u28 = st
  f1 : ls.getD 1 false = true → u29 = li
  f2 : ls.getD 2 false = true → u30 = jv
  f3 : ls.getD 3 false = true → u31 = sl
  f4 : ls.getD 4 false = true → (∃ z, u32 = .tuple #[z, .int .i64 0]) ∧ (ls.getD 9 false = false → SVt b w u32)
  f5 : ls.getD 5 false = true → (∃ z, u27 = .tuple #[z, .int .i64 0]) ∧ (ls.getD 9 false = false → SVt b w u27)
  f6 : ls.getD 6 false = true → ls.getD 9 false = false → SVs b w u33
  f7 : ls.getD 7 false = true → u34 = .int .i64 0
  f8 : ls.getD 8 false = true → ∃ g, v11 = .pointer (some ⟨g, 0, none⟩) ∧ Wy.heap.size ≤ g ∧ (ls.getD 9 false = false → w.heap[g]? = some (.cells #[.slice none 0 0, .slice none 0 0] 25 (0, 0)))
  f9 : ls.getD 9 false = true → ∃ g a5 c5 a6 c6, v11 = .pointer (some ⟨g, 0, none⟩) ∧ w.heap[g]? = some (.cells #[.slice a5 b.types.length c5, .slice a6 b.things.length c6] 25 (0, 0)) ∧ TypSl anyB w (.slice a5 b.types.length c5) b.types ∧ ThgSl anyB w (.slice a6 b.things.length c6) b.things
  f10 : ls.getD 10 false = true → v12 = .int .i64 0
  f98 : ls.getD 9 false = true → ls.getD 8 false = true

variable {Wy w w2 : World} {st li jv sl : Value} {b : StateT} {ls : Array Bool} {v11 v12 u27 u28 u29 u30 u31 u32 u33 u34 : Value}

theorem BJ.mv (h : BJ Wy st li jv sl b ls w v11 v12 u27 u28 u29 u30 u31 u32 u33 u34) (k : Same w w2) : BJ Wy st li jv sl b ls w2 v11 v12 u27 u28 u29 u30 u31 u32 u33 u34 := by
  refine ⟨tra h.same k, h.f0, h.f1, h.f2, h.f3, fun e => ⟨(h.f4 e).1, fun e9 => ((h.f4 e).2 e9).same k⟩, fun e => ⟨(h.f5 e).1, fun e9 => ((h.f5 e).2 e9).same k⟩, fun e e9 => (h.f6 e e9).same k, h.f7, fun e => ?_, fun e => ?_, h.f10, h.f98⟩
  · obtain ⟨g, h1, h2, h3⟩ := h.f8 e
    exact ⟨g, h1, h2, fun e9 => blk_kept (h3 e9) k (fun f => f)⟩
  · obtain ⟨g, a5, c5, a6, c6, h1, h2, h3, h4⟩ := h.f9 e
    exact ⟨g, a5, c5, a6, c6, h1, blk_kept h2 k (fun f => f), h3.same k, h4.same k⟩

theorem BJ.s0 (h : BJ Wy st li jv sl b ls w v11 v12 u27 u28 u29 u30 u31 u32 u33 u34) {z : Value} (hz : z = st) : BJ Wy st li jv sl b (ls.setIfInBounds 0 true) w v11 v12 u27 z u29 u30 u31 u32 u33 u34 := by
  have h9i : ∀ {c : Prop}, ((ls.setIfInBounds 0 true).getD 9 false = false → c) ↔ (ls.getD 9 false = false → c) := by intro c; rw [getD_set_ne false (by decide)]
  exact ⟨h.same, fun _ => hz, fun e => h.f1 (by rwa [getD_set_ne false (by decide)] at e), fun e => h.f2 (by rwa [getD_set_ne false (by decide)] at e), fun e => h.f3 (by rwa [getD_set_ne false (by decide)] at e), fun e => ⟨(h.f4 (by rwa [getD_set_ne false (by decide)] at e)).1, h9i.2 (h.f4 (by rwa [getD_set_ne false (by decide)] at e)).2⟩, fun e => ⟨(h.f5 (by rwa [getD_set_ne false (by decide)] at e)).1, h9i.2 (h.f5 (by rwa [getD_set_ne false (by decide)] at e)).2⟩, fun e => h9i.2 (h.f6 (by rwa [getD_set_ne false (by decide)] at e)), fun e => h.f7 (by rwa [getD_set_ne false (by decide)] at e), fun e => by obtain ⟨g, h1, h2, h3⟩ := h.f8 (by rwa [getD_set_ne false (by decide)] at e); exact ⟨g, h1, h2, h9i.2 h3⟩, fun e => h.f9 (by rwa [getD_set_ne false (by decide)] at e), fun e => h.f10 (by rwa [getD_set_ne false (by decide)] at e), fun e => by rw [getD_set_ne false (by decide)] at e ⊢; exact h.f98 e⟩
theorem BJ.s1 (h : BJ Wy st li jv sl b ls w v11 v12 u27 u28 u29 u30 u31 u32 u33 u34) {z : Value} (hz : z = li) : BJ Wy st li jv sl b (ls.setIfInBounds 1 true) w v11 v12 u27 u28 z u30 u31 u32 u33 u34 := by
  have h9i : ∀ {c : Prop}, ((ls.setIfInBounds 1 true).getD 9 false = false → c) ↔ (ls.getD 9 false = false → c) := by intro c; rw [getD_set_ne false (by decide)]
  exact ⟨h.same, fun e => h.f0 (by rwa [getD_set_ne false (by decide)] at e), fun _ => hz, fun e => h.f2 (by rwa [getD_set_ne false (by decide)] at e), fun e => h.f3 (by rwa [getD_set_ne false (by decide)] at e), fun e => ⟨(h.f4 (by rwa [getD_set_ne false (by decide)] at e)).1, h9i.2 (h.f4 (by rwa [getD_set_ne false (by decide)] at e)).2⟩, fun e => ⟨(h.f5 (by rwa [getD_set_ne false (by decide)] at e)).1, h9i.2 (h.f5 (by rwa [getD_set_ne false (by decide)] at e)).2⟩, fun e => h9i.2 (h.f6 (by rwa [getD_set_ne false (by decide)] at e)), fun e => h.f7 (by rwa [getD_set_ne false (by decide)] at e), fun e => by obtain ⟨g, h1, h2, h3⟩ := h.f8 (by rwa [getD_set_ne false (by decide)] at e); exact ⟨g, h1, h2, h9i.2 h3⟩, fun e => h.f9 (by rwa [getD_set_ne false (by decide)] at e), fun e => h.f10 (by rwa [getD_set_ne false (by decide)] at e), fun e => by rw [getD_set_ne false (by decide)] at e ⊢; exact h.f98 e⟩
theorem BJ.s2 (h : BJ Wy st li jv sl b ls w v11 v12 u27 u28 u29 u30 u31 u32 u33 u34) {z : Value} (hz : z = jv) : BJ Wy st li jv sl b (ls.setIfInBounds 2 true) w v11 v12 u27 u28 u29 z u31 u32 u33 u34 := by
  have h9i : ∀ {c : Prop}, ((ls.setIfInBounds 2 true).getD 9 false = false → c) ↔ (ls.getD 9 false = false → c) := by intro c; rw [getD_set_ne false (by decide)]
  exact ⟨h.same, fun e => h.f0 (by rwa [getD_set_ne false (by decide)] at e), fun e => h.f1 (by rwa [getD_set_ne false (by decide)] at e), fun _ => hz, fun e => h.f3 (by rwa [getD_set_ne false (by decide)] at e), fun e => ⟨(h.f4 (by rwa [getD_set_ne false (by decide)] at e)).1, h9i.2 (h.f4 (by rwa [getD_set_ne false (by decide)] at e)).2⟩, fun e => ⟨(h.f5 (by rwa [getD_set_ne false (by decide)] at e)).1, h9i.2 (h.f5 (by rwa [getD_set_ne false (by decide)] at e)).2⟩, fun e => h9i.2 (h.f6 (by rwa [getD_set_ne false (by decide)] at e)), fun e => h.f7 (by rwa [getD_set_ne false (by decide)] at e), fun e => by obtain ⟨g, h1, h2, h3⟩ := h.f8 (by rwa [getD_set_ne false (by decide)] at e); exact ⟨g, h1, h2, h9i.2 h3⟩, fun e => h.f9 (by rwa [getD_set_ne false (by decide)] at e), fun e => h.f10 (by rwa [getD_set_ne false (by decide)] at e), fun e => by rw [getD_set_ne false (by decide)] at e ⊢; exact h.f98 e⟩
theorem BJ.s3 (h : BJ Wy st li jv sl b ls w v11 v12 u27 u28 u29 u30 u31 u32 u33 u34) {z : Value} (hz : z = sl) : BJ Wy st li jv sl b (ls.setIfInBounds 3 true) w v11 v12 u27 u28 u29 u30 z u32 u33 u34 := by
  have h9i : ∀ {c : Prop}, ((ls.setIfInBounds 3 true).getD 9 false = false → c) ↔ (ls.getD 9 false = false → c) := by intro c; rw [getD_set_ne false (by decide)]
  exact ⟨h.same, fun e => h.f0 (by rwa [getD_set_ne false (by decide)] at e), fun e => h.f1 (by rwa [getD_set_ne false (by decide)] at e), fun e => h.f2 (by rwa [getD_set_ne false (by decide)] at e), fun _ => hz, fun e => ⟨(h.f4 (by rwa [getD_set_ne false (by decide)] at e)).1, h9i.2 (h.f4 (by rwa [getD_set_ne false (by decide)] at e)).2⟩, fun e => ⟨(h.f5 (by rwa [getD_set_ne false (by decide)] at e)).1, h9i.2 (h.f5 (by rwa [getD_set_ne false (by decide)] at e)).2⟩, fun e => h9i.2 (h.f6 (by rwa [getD_set_ne false (by decide)] at e)), fun e => h.f7 (by rwa [getD_set_ne false (by decide)] at e), fun e => by obtain ⟨g, h1, h2, h3⟩ := h.f8 (by rwa [getD_set_ne false (by decide)] at e); exact ⟨g, h1, h2, h9i.2 h3⟩, fun e => h.f9 (by rwa [getD_set_ne false (by decide)] at e), fun e => h.f10 (by rwa [getD_set_ne false (by decide)] at e), fun e => by rw [getD_set_ne false (by decide)] at e ⊢; exact h.f98 e⟩
theorem BJ.s4 (h : BJ Wy st li jv sl b ls w v11 v12 u27 u28 u29 u30 u31 u32 u33 u34) {z : Value} (hz : SVt b w z) : BJ Wy st li jv sl b (ls.setIfInBounds 4 true) w v11 v12 u27 u28 u29 u30 u31 z u33 u34 := by
  have h9i : ∀ {c : Prop}, ((ls.setIfInBounds 4 true).getD 9 false = false → c) ↔ (ls.getD 9 false = false → c) := by intro c; rw [getD_set_ne false (by decide)]
  exact ⟨h.same, fun e => h.f0 (by rwa [getD_set_ne false (by decide)] at e), fun e => h.f1 (by rwa [getD_set_ne false (by decide)] at e), fun e => h.f2 (by rwa [getD_set_ne false (by decide)] at e), fun e => h.f3 (by rwa [getD_set_ne false (by decide)] at e), fun _ => ⟨by obtain ⟨y, e, _⟩ := hz; exact ⟨y, e⟩, fun _ => hz⟩, fun e => ⟨(h.f5 (by rwa [getD_set_ne false (by decide)] at e)).1, h9i.2 (h.f5 (by rwa [getD_set_ne false (by decide)] at e)).2⟩, fun e => h9i.2 (h.f6 (by rwa [getD_set_ne false (by decide)] at e)), fun e => h.f7 (by rwa [getD_set_ne false (by decide)] at e), fun e => by obtain ⟨g, h1, h2, h3⟩ := h.f8 (by rwa [getD_set_ne false (by decide)] at e); exact ⟨g, h1, h2, h9i.2 h3⟩, fun e => h.f9 (by rwa [getD_set_ne false (by decide)] at e), fun e => h.f10 (by rwa [getD_set_ne false (by decide)] at e), fun e => by rw [getD_set_ne false (by decide)] at e ⊢; exact h.f98 e⟩
theorem BJ.s5 (h : BJ Wy st li jv sl b ls w v11 v12 u27 u28 u29 u30 u31 u32 u33 u34) {z : Value} (hz : (∃ y, z = .tuple #[y, .int .i64 0]) ∧ (ls.getD 9 false = false → SVt b w z)) : BJ Wy st li jv sl b (ls.setIfInBounds 5 true) w v11 v12 z u28 u29 u30 u31 u32 u33 u34 := by
  have h9i : ∀ {c : Prop}, ((ls.setIfInBounds 5 true).getD 9 false = false → c) ↔ (ls.getD 9 false = false → c) := by intro c; rw [getD_set_ne false (by decide)]
  exact ⟨h.same, fun e => h.f0 (by rwa [getD_set_ne false (by decide)] at e), fun e => h.f1 (by rwa [getD_set_ne false (by decide)] at e), fun e => h.f2 (by rwa [getD_set_ne false (by decide)] at e), fun e => h.f3 (by rwa [getD_set_ne false (by decide)] at e), fun e => ⟨(h.f4 (by rwa [getD_set_ne false (by decide)] at e)).1, h9i.2 (h.f4 (by rwa [getD_set_ne false (by decide)] at e)).2⟩, fun _ => ⟨hz.1, h9i.2 hz.2⟩, fun e => h9i.2 (h.f6 (by rwa [getD_set_ne false (by decide)] at e)), fun e => h.f7 (by rwa [getD_set_ne false (by decide)] at e), fun e => by obtain ⟨g, h1, h2, h3⟩ := h.f8 (by rwa [getD_set_ne false (by decide)] at e); exact ⟨g, h1, h2, h9i.2 h3⟩, fun e => h.f9 (by rwa [getD_set_ne false (by decide)] at e), fun e => h.f10 (by rwa [getD_set_ne false (by decide)] at e), fun e => by rw [getD_set_ne false (by decide)] at e ⊢; exact h.f98 e⟩
theorem BJ.s6 (h : BJ Wy st li jv sl b ls w v11 v12 u27 u28 u29 u30 u31 u32 u33 u34) {z : Value} (hz : ls.getD 9 false = false → SVs b w z) : BJ Wy st li jv sl b (ls.setIfInBounds 6 true) w v11 v12 u27 u28 u29 u30 u31 u32 z u34 := by
  have h9i : ∀ {c : Prop}, ((ls.setIfInBounds 6 true).getD 9 false = false → c) ↔ (ls.getD 9 false = false → c) := by intro c; rw [getD_set_ne false (by decide)]
  exact ⟨h.same, fun e => h.f0 (by rwa [getD_set_ne false (by decide)] at e), fun e => h.f1 (by rwa [getD_set_ne false (by decide)] at e), fun e => h.f2 (by rwa [getD_set_ne false (by decide)] at e), fun e => h.f3 (by rwa [getD_set_ne false (by decide)] at e), fun e => ⟨(h.f4 (by rwa [getD_set_ne false (by decide)] at e)).1, h9i.2 (h.f4 (by rwa [getD_set_ne false (by decide)] at e)).2⟩, fun e => ⟨(h.f5 (by rwa [getD_set_ne false (by decide)] at e)).1, h9i.2 (h.f5 (by rwa [getD_set_ne false (by decide)] at e)).2⟩, fun _ => h9i.2 hz, fun e => h.f7 (by rwa [getD_set_ne false (by decide)] at e), fun e => by obtain ⟨g, h1, h2, h3⟩ := h.f8 (by rwa [getD_set_ne false (by decide)] at e); exact ⟨g, h1, h2, h9i.2 h3⟩, fun e => h.f9 (by rwa [getD_set_ne false (by decide)] at e), fun e => h.f10 (by rwa [getD_set_ne false (by decide)] at e), fun e => by rw [getD_set_ne false (by decide)] at e ⊢; exact h.f98 e⟩
theorem BJ.s7 (h : BJ Wy st li jv sl b ls w v11 v12 u27 u28 u29 u30 u31 u32 u33 u34) {z : Value} (hz : z = .int .i64 0) : BJ Wy st li jv sl b (ls.setIfInBounds 7 true) w v11 v12 u27 u28 u29 u30 u31 u32 u33 z := by
  have h9i : ∀ {c : Prop}, ((ls.setIfInBounds 7 true).getD 9 false = false → c) ↔ (ls.getD 9 false = false → c) := by intro c; rw [getD_set_ne false (by decide)]
  exact ⟨h.same, fun e => h.f0 (by rwa [getD_set_ne false (by decide)] at e), fun e => h.f1 (by rwa [getD_set_ne false (by decide)] at e), fun e => h.f2 (by rwa [getD_set_ne false (by decide)] at e), fun e => h.f3 (by rwa [getD_set_ne false (by decide)] at e), fun e => ⟨(h.f4 (by rwa [getD_set_ne false (by decide)] at e)).1, h9i.2 (h.f4 (by rwa [getD_set_ne false (by decide)] at e)).2⟩, fun e => ⟨(h.f5 (by rwa [getD_set_ne false (by decide)] at e)).1, h9i.2 (h.f5 (by rwa [getD_set_ne false (by decide)] at e)).2⟩, fun e => h9i.2 (h.f6 (by rwa [getD_set_ne false (by decide)] at e)), fun _ => hz, fun e => by obtain ⟨g, h1, h2, h3⟩ := h.f8 (by rwa [getD_set_ne false (by decide)] at e); exact ⟨g, h1, h2, h9i.2 h3⟩, fun e => h.f9 (by rwa [getD_set_ne false (by decide)] at e), fun e => h.f10 (by rwa [getD_set_ne false (by decide)] at e), fun e => by rw [getD_set_ne false (by decide)] at e ⊢; exact h.f98 e⟩
theorem BJ.s8 (h : BJ Wy st li jv sl b ls w v11 v12 u27 u28 u29 u30 u31 u32 u33 u34) {z : Value} (h9 : ls.getD 9 false = false) (hz : ∃ g, z = .pointer (some ⟨g, 0, none⟩) ∧ Wy.heap.size ≤ g ∧ w.heap[g]? = some (.cells #[.slice none 0 0, .slice none 0 0] 25 (0, 0))) : BJ Wy st li jv sl b (ls.setIfInBounds 8 true) w z v12 u27 u28 u29 u30 u31 u32 u33 u34 := by
  have h9i : ∀ {c : Prop}, ((ls.setIfInBounds 8 true).getD 9 false = false → c) ↔ (ls.getD 9 false = false → c) := by intro c; rw [getD_set_ne false (by decide)]
  exact ⟨h.same, fun e => h.f0 (by rwa [getD_set_ne false (by decide)] at e), fun e => h.f1 (by rwa [getD_set_ne false (by decide)] at e), fun e => h.f2 (by rwa [getD_set_ne false (by decide)] at e), fun e => h.f3 (by rwa [getD_set_ne false (by decide)] at e), fun e => ⟨(h.f4 (by rwa [getD_set_ne false (by decide)] at e)).1, h9i.2 (h.f4 (by rwa [getD_set_ne false (by decide)] at e)).2⟩, fun e => ⟨(h.f5 (by rwa [getD_set_ne false (by decide)] at e)).1, h9i.2 (h.f5 (by rwa [getD_set_ne false (by decide)] at e)).2⟩, fun e => h9i.2 (h.f6 (by rwa [getD_set_ne false (by decide)] at e)), fun e => h.f7 (by rwa [getD_set_ne false (by decide)] at e), fun _ => by obtain ⟨g, h1, h2, h3⟩ := hz; exact ⟨g, h1, h2, fun _ => h3⟩, fun e => absurd (by rwa [getD_set_ne false (by decide)] at e) (by rw [h9]; decide), fun e => h.f10 (by rwa [getD_set_ne false (by decide)] at e), fun e => absurd (by rwa [getD_set_ne false (by decide)] at e) (by rw [h9]; decide)⟩
theorem BJ.s10 (h : BJ Wy st li jv sl b ls w v11 v12 u27 u28 u29 u30 u31 u32 u33 u34) {z : Value} (hz : z = .int .i64 0) : BJ Wy st li jv sl b (ls.setIfInBounds 10 true) w v11 z u27 u28 u29 u30 u31 u32 u33 u34 := by
  have h9i : ∀ {c : Prop}, ((ls.setIfInBounds 10 true).getD 9 false = false → c) ↔ (ls.getD 9 false = false → c) := by intro c; rw [getD_set_ne false (by decide)]
  exact ⟨h.same, fun e => h.f0 (by rwa [getD_set_ne false (by decide)] at e), fun e => h.f1 (by rwa [getD_set_ne false (by decide)] at e), fun e => h.f2 (by rwa [getD_set_ne false (by decide)] at e), fun e => h.f3 (by rwa [getD_set_ne false (by decide)] at e), fun e => ⟨(h.f4 (by rwa [getD_set_ne false (by decide)] at e)).1, h9i.2 (h.f4 (by rwa [getD_set_ne false (by decide)] at e)).2⟩, fun e => ⟨(h.f5 (by rwa [getD_set_ne false (by decide)] at e)).1, h9i.2 (h.f5 (by rwa [getD_set_ne false (by decide)] at e)).2⟩, fun e => h9i.2 (h.f6 (by rwa [getD_set_ne false (by decide)] at e)), fun e => h.f7 (by rwa [getD_set_ne false (by decide)] at e), fun e => by obtain ⟨g, h1, h2, h3⟩ := h.f8 (by rwa [getD_set_ne false (by decide)] at e); exact ⟨g, h1, h2, h9i.2 h3⟩, fun e => h.f9 (by rwa [getD_set_ne false (by decide)] at e), fun _ => hz, fun e => by rw [getD_set_ne false (by decide)] at e ⊢; exact h.f98 e⟩
theorem BJ.s9 (h : BJ Wy st li jv sl b ls w v11 v12 u27 u28 u29 u30 u31 u32 u33 u34) {g : Nat} {a5 a6 : Option Addr} {c5 c6 : Nat} (h9 : ls.size = 11) (h8 : ls.getD 8 false = true) (hv : v11 = .pointer (some ⟨g, 0, none⟩)) (hg : Wy.heap.size ≤ g) (hb : w.heap[g]? = some (.cells #[.slice none 0 0, .slice none 0 0] 25 (0, 0))) (ht : TypSl anyB w (.slice a5 b.types.length c5) b.types) (hh : ThgSl anyB w (.slice a6 b.things.length c6) b.things) :
    BJ Wy st li jv sl b (ls.setIfInBounds 9 true) ((w.setCell ⟨g, 0, none⟩ (.slice a5 b.types.length c5)).setCell ⟨g, 1, none⟩ (.slice a6 b.things.length c6)) v11 v12 u27 u28 u29 u30 u31 u32 u33 u34 := by
  have hK : Kept (· = g) w ((w.setCell ⟨g, 0, none⟩ (.slice a5 b.types.length c5)).setCell ⟨g, 1, none⟩ (.slice a6 b.things.length c6)) := ((Kept.refl _ w).setB 0 _).setB 1 _
  have e9 : (ls.setIfInBounds 9 true).getD 9 false = true := by
    rw [Array.getD_eq_getD_getElem?, Array.getElem?_setIfInBounds_self_of_lt (by omega)]
    rfl
  have no : ∀ {c : Prop}, (ls.setIfInBounds 9 true).getD 9 false = false → c := fun e => by rw [e9] at e; cases e
  refine ⟨h.same.trans hK (fun i hi e => by omega), fun e => h.f0 (by rwa [getD_set_ne false (by decide)] at e), fun e => h.f1 (by rwa [getD_set_ne false (by decide)] at e), fun e => h.f2 (by rwa [getD_set_ne false (by decide)] at e), fun e => h.f3 (by rwa [getD_set_ne false (by decide)] at e), fun e => ⟨(h.f4 (by rwa [getD_set_ne false (by decide)] at e)).1, no⟩, fun e => ⟨(h.f5 (by rwa [getD_set_ne false (by decide)] at e)).1, no⟩, fun _ => no, fun e => h.f7 (by rwa [getD_set_ne false (by decide)] at e), fun _ => ⟨g, hv, hg, no⟩, fun _ => ⟨g, a5, c5, a6, c6, hv, set2b' hb _ _, ((ht.off hb).keep hK (fun k hk e => hk.2 e)).any, ((hh.off hb).keep hK (fun k hk e => hk.2 e)).any⟩, fun e => h.f10 (by rwa [getD_set_ne false (by decide)] at e), fun _ => by rw [getD_set_ne false (by decide)]; exact h8⟩

theorem BJ.start (Wy : World) (st li jv sl : Value) (b : StateT) (w : World) (v11 v12 u27 u28 u29 u30 u31 u32 u33 u34 : Value) (k : Same Wy w) : BJ Wy st li jv sl b (Array.replicate 11 false) w v11 v12 u27 u28 u29 u30 u31 u32 u33 u34 := by
  have no : ∀ {i : Nat} {c : Prop}, (Array.replicate 11 false).getD i false = true → c := fun {i c} e => by
    rw [Array.getD_eq_getD_getElem?, Array.getElem?_replicate] at e
    split at e <;> simp at e
  exact ⟨k, no, no, no, no, no, no, no, no, no, no, no, no⟩

end Go.Proofs.YtidodjbmlbjchaaGreat
