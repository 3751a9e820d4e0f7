import Derived.Test.YtkkjchfhgjfclaaGreatDoorQuerytellsupto23
import Derived.Test.YtkkjchfhgjfclaaGreatDoorQuerytellsupto09
/- query.readList, whatever comes. -/
namespace Go.Proofs.YtkkjchfhgjfclaaGreatDoor
open Go.RowKit

theorem pName_le {r r' : List Tok} {x : List UInt8 × List UInt8} (h : pName r = some (x, r')) : r'.length + 1 ≤ r.length := by
  have := pName_len h
  split at this <;> omega
theorem pSel1_len {f : Nat} {r r' : List Tok} {x : List UInt8 × List UInt8 × List ArgT × Sels} (h : pSel1 f r = some (x, r')) : r'.length + 1 ≤ r.length := by
  rw [pSel1] at h
  cases hn : pName r with
  | none => rw [hn] at h; cases h
  | some y =>
    obtain ⟨an, r1⟩ := y
    rw [hn] at h
    simp only at h
    have l1 := pName_le hn
    cases ho : pOpt r1 with
    | none => rw [ho] at h; cases h
    | some y =>
      obtain ⟨args, r2⟩ := y
      rw [ho] at h
      simp only at h
      have l2 := pOpt_len ho
      have l2' : r2.length ≤ r1.length := by omega
      by_cases hs : isS 123 r2 = true
      · rw [if_pos hs] at h
        have l3 := isS_len1 hs
        cases hp : pSels f r2.tail with
        | none => rw [hp] at h; cases h
        | some z =>
          obtain ⟨k, r3⟩ := z
          rw [hp] at h
          have := (pSels_len _ _ _ _ hp).2
          cases h
          simp only
          omega
      · rw [if_neg hs] at h
        cases h
        simp only
        omega

def sRel (f : Nat) (r0 : List Tok) (m : Nat) (rj : List Tok) (acc : List SelC) : Prop := pSels f r0 = (pSels m rj).map (fun x => (appS (selsOf acc) x.1, x.2))
theorem sRel.start (f : Nat) (r0 : List Tok) : sRel f r0 f r0 [] := by
  unfold sRel
  cases pSels f r0 <;> rfl
theorem sRel.bad {f m : Nat} {r0 rj : List Tok} {acc : List SelC} (h : sRel f r0 m rj acc) (hp : pSel1 (m - 1) rj = none) : pSels f r0 = none := by
  rw [h]
  cases m with
  | zero => rfl
  | succ m =>
    rw [Nat.add_sub_cancel] at hp
    rw [pSels_1, hp]; rfl
theorem sRel.last {f m : Nat} {r0 rj r1 : List Tok} {acc : List SelC} {p : SelC} (h : sRel f r0 (m + 1) rj acc) (hp : pSel1 m rj = some ((p.al, p.nm, p.args, p.k), r1)) (hs : isS 125 r1 = true) : pSels f r0 = some (selsOf (acc ++ [p]), r1.tail) := by
  rw [h, pSels_1, hp, selsOf_app]
  simp only [hs, if_true, Option.map_some]
  rfl
theorem sRel.step {f m : Nat} {r0 rj r1 : List Tok} {acc : List SelC} {p : SelC} (h : sRel f r0 (m + 1) rj acc) (hp : pSel1 m rj = some ((p.al, p.nm, p.args, p.k), r1)) (hs : isS 125 r1 = false) : sRel f r0 m r1 (acc ++ [p]) := by
  unfold sRel
  rw [h, pSels_1, hp, selsOf_app]
  simp only [hs]
  cases pSels m r1 with
  | none => rfl
  | some y =>
    obtain ⟨s, r2⟩ := y
    simp only [Bool.false_eq_true, if_false, Option.map_some]
    rw [show selsOf [p] = .cons p.al p.nm p.args p.k .nil from rfl, appS_snoc]

theorem partsOk.keep {P X Q : Nat → Prop} {w w' : World} {p : SelC} (h : partsOk P w p) (hk : Kept X w w') (hx : ∀ b, b < w.heap.size → P b → ¬ X b ∧ Q b) : partsOk Q w' p := ⟨h.1.keep hk hx, h.2.keep hk hx⟩

theorem own_sels {w : World} {base : Nat} {v : Value} {l : List SelC} (h : w.ownsRow base 28 4 v l.length (selCells l)) (hl : l.length ≤ 9000000000000) (hf : ∀ p ∈ l, partsOk (fun b => base ≤ b) w p) :
    SelSlP (fun b => base ≤ b) w v (selsOf l) := by
  have hc := fun g => World.ownsRow.cells h (g := g)
  rcases h.2 with ⟨rfl, h0⟩ | ⟨g, cap, cur, rfl, hg, hb, hc1, hc2, hc3, htk⟩
  · obtain rfl : l = [] := List.length_eq_zero_iff.1 h0
    exact SelSlP.nil _ w
  · refine ⟨_, cap, by rw [selsOf_len], ⟨by rw [selsOf_len]; unfold maxLen; omega, by rw [selsOf_len]; exact hc1⟩, .inr ⟨g, 0, rfl, hg, ?_⟩⟩
    refine selAt_cells l 0 (fun j u hj => ?_) hf
    have := hc g rfl _ _ hj
    rw [add_none] at this
    exact this

theorem infoSel : (Tryz.prog.info? 28).map (fun i => (i.zero, i.size, i.bytes)) = some (some (.agg #[.string ⟨#[]⟩, .string ⟨#[]⟩, .slice none 0 0, .slice none 0 0]), 4, 80) := by kernel_rfl

set_option maxRecDepth 20000 in
set_option maxHeartbeats 3200000 in
theorem readList_step (f : Nat) (IH : ∀ f', f' < f → ∀ (w1 : World) (q : Nat) (r2 : List Tok), LineAt w1 q r2 → r2.length ≤ f' → r2.length ≤ 300 → RL f' w1 q r2) (w : World) (q : Nat) (r : List Tok) (h : LineAt w q r) (hf : r.length ≤ f) (hlen : r.length ≤ 300) : RL f w q r := by
  unfold RL
  have hq := h.lt
  obtain ⟨i0, hi, hz0, hz1, hz2⟩ := info_parts infoSel
  have HL := hide h
  have HIH := hide IH
  clear h IH
  go_enter Tryz.func40, Tryz.ntmps40
  go_wp2_with fail
  go_loopg [3] (f + 1) (fun g v wr => ∃ (m : Nat) (rj : List Tok) (acc : List SelC), m + 1 ≤ g ∧ g ≤ m + 1 ∧ rj.length ≤ m ∧ m ≤ f ∧ acc.length + rj.length ≤ 300 ∧ LineAt wr q rj ∧ Kept (· = q) w wr ∧ wr.ownsRow w.heap.size 28 4 v acc.length (selCells acc) ∧ Hid (∀ p ∈ acc, partsOk (fun b => w.heap.size ≤ b ∧ some b ≠ v.ownBlock) wr p) ∧ Hid (sRel f r m rj acc))
  case atStart =>
    exact ⟨f, r, [], by omega, by omega, by omega, by omega, by simp; omega, HL.out, Kept.refl _ _, World.ownsRow_nil _ _ _ _, (fun p hp => by cases hp), sRel.start f r⟩
  case round =>
    obtain ⟨m, rj, acc, hg1, hg2, hrm, hmf, hacc, hLr, hKr, hown, HFS, HFR⟩ := hrel
    obtain ⟨ao, cap, hv⟩ := own_slice hown
    subst hv
    have hrj : rj.length ≤ 300 := by omega
    have HRS := hide (readSelect_any (m - 1) wr q rj hLr hrj (fun w1 r2 hL hl => HIH.out (m - 1) (by omega) w1 q r2 hL (by omega) (by omega)))
    go_wp2_with fail
    refine HRS.out.mono ?_
    rintro e w1 (⟨p, r1, aa, na, ca, ak, nk, ck, hp, ⟨hva, hvk⟩, rfl, hfs, hL1, hK1⟩ | ⟨hp, rfl, hK1⟩)
    · have hl1 := pSel1_len hp
      obtain ⟨m1, hm1⟩ : ∃ m1, m = m1 + 1 := ⟨m - 1, by omega⟩
      have HPT := hide (show pSel1 m1 rj = some ((p.al, p.nm, p.args, p.k), r1) by have := hp; rw [hm1, Nat.add_sub_cancel] at this; exact this)
      have HFR1 : Hid (sRel f r (m1 + 1) rj acc) := by rw [← hm1]; exact HFR
      have hmle : m ≤ m1 + 1 := by omega
      have hmge : m1 + 1 ≤ m := by omega
      have hown1 := own_kept hown hK1 (fun g hg e => by omega)
      have HKA := hide (kq hKr hK1)
      have hws : w.heap.size ≤ w1.heap.size := HKA.out.size
      have HF1 := hide hfs
      have HL1 := hide hL1
      have HWR := hide hKr.size
      have HF0 := hide (show ∀ p ∈ acc, partsOk (fun b => w.heap.size ≤ b ∧ some b ≠ (Value.slice ao acc.length cap).ownBlock) w1 p from fun p hp => (HFS.out p hp).keep hK1 (fun b _ hb => ⟨fun e => by have := hb.1; omega, hb⟩))
      have HOW := hide hown
      have HSC := hide (show selC p = [.string ⟨p.al.toArray⟩, .string ⟨p.nm.toArray⟩, .slice aa na ca, .slice ak nk ck] by rw [selC, hva, hvk])
      clear HFR hm1 hp HFS hLr hKr hfs hL1 hK1 hown hva hvk HRS
      go_wp2_with (at_builtin; refine wpList_append_own_at _ rfl _ _ 22 rfl w.heap.size 28 i0 _ 4 80 Tryz.underlying22 hi hz0 hz1 hz2 rfl (by decide) _ _ _ rfl (hown1.alloc _) ⟨w1.heap.size, 0, none⟩ 1 1 (selC p) rfl rfl ?a1 ?a2 ?a3 ?a4 ?a5 ?_)
      case a1 => rw [HSC.out]; exact new_c4 w1 _ _ _ _ _
      case a2 => intro u hu; rw [HSC.out] at hu; simp at hu; rcases hu with rfl | rfl | rfl | rfl <;> rfl
      case a3 => unfold maxLen; omega
      case a4 => omega
      case a5 => simp; omega
      intro v2 w2 hown2 hgr2 _ hat2
      obtain ⟨g2, cap2, hv2⟩ := own_form hown2 (by omega)
      subst hv2
      have hKb : Kept (fun k => some k = (Value.slice ao acc.length cap).ownBlock) w1 w2 := ((Kept.refl _ w1).alloc _).trans (grown_kept hgr2) (fun _ _ e => e)
      have hXb : ∀ k, some k = (Value.slice ao acc.length cap).ownBlock → w.heap.size ≤ k ∧ k < wr.heap.size := fun k e => own_up HOW.out k e.symm
      have hLb := HL1.out.after hKb (fun k e => by have := (hXb k e).1; omega)
      have HKC := hide (show Kept (· = q) w w2 from HKA.out.trans hKb (fun k hk e => by have := (hXb k e).1; omega))
      have hat3 : some g2 = (Value.slice ao acc.length cap).ownBlock ∨ w1.heap.size ≤ g2 := by
        rcases hat2 with e | e
        · exact .inl e
        · right
          have e2 : g2 = _ := Option.some.inj e
          rw [e2]; simp
      have HFA := hide (show ∀ x ∈ acc ++ [p], partsOk (fun b => w.heap.size ≤ b ∧ some b ≠ (Value.slice (some ⟨g2, 0, none⟩) (acc.length + 1) cap2).ownBlock) w2 x from fun x hx => by
        rcases List.mem_append.1 hx with hx | hx
        · refine (HF0.out x hx).keep hKb (fun b hb hh => ⟨hh.2, hh.1, fun e => ?_⟩)
          have e2 : b = g2 := Option.some.inj e
          rcases hat3 with e3 | e3
          · exact hh.2 (by rw [e2]; exact e3)
          · omega
        · simp only [List.mem_singleton] at hx
          subst hx
          refine HF1.out.keep hKb (fun b hb hh => ⟨fun e => by have := (hXb b e).2; omega, by have := HWR.out; omega, fun e => ?_⟩)
          have e2 : b = g2 := Option.some.inj e
          rcases hat3 with e3 | e3
          · have := (hXb g2 e3).2; omega
          · omega)
      have HOW2 := hide (show w2.ownsRow w.heap.size 28 4 (.slice (some ⟨g2, 0, none⟩) (acc.length + 1) cap2) (acc ++ [p]).length (selCells (acc ++ [p])) by rw [selCells_app, List.length_append, show selCells [p] = selC p from by simp [selCells]]; exact hown2)
      clear hgr2 hown2 hat2 hat3 hKb hXb hown1
      go_wp2_with fail
      refine (skip_any _ q r1 125 hLb).mono ?_
      rintro e w3 (⟨y, r2, hr2, hs2, rfl, hL3, hK3⟩ | ⟨hs2, rfl, rfl⟩)
      · have HE := hide (show pSels f r = some (selsOf (acc ++ [p]), r2) by rw [HFR1.out.last HPT.out hs2, hr2]; rfl)
        have HAS := hide ((own_sels HOW2.out (by simp; omega) (fun x hx => (HFA.out x hx).keep (Kept.refl (fun _ => False) _) (fun b _ hb => ⟨fun f => f, hb.1⟩))).keep hK3 (Q := fun b => w.heap.size ≤ b) (fun b _ hb => ⟨by omega, hb⟩))
        have HKE := hide (kq HKC.out hK3)
        have HL3 := hide hL3
        clear hr2 hs2 hL3 hK3 hLb
        go_wp2_with fail
        go_ret
        exact .inl ⟨_, r2, _, HE.out, rfl, HAS.out, HL3.out, HKE.out⟩
      · have HST := hide (HFR1.out.step HPT.out hs2)
        have HLB := hide hLb
        clear hs2 hLb
        go_wp2_with fail
        go_roundg (gk - 1)
        case measure => omega
        case rel => exact ⟨m1, r1, acc ++ [p], by omega, by omega, by omega, by omega, by simp; omega, HLB.out, HKC.out, HOW2.out, HFA, HST⟩
    · have HE := hide (show pSels f r = none from HFR.out.bad hp)
      clear hp
      go_wp2_with fail
      exact ⟨rfl, .inr ⟨HE.out, rfl, kq hKr hK1⟩⟩

theorem readList_any (f : Nat) : ∀ (w : World) (q : Nat) (r : List Tok), LineAt w q r → r.length ≤ f → r.length ≤ 300 → RL f w q r := by
  induction f using Nat.strongRecOn with
  | ind f ih => exact fun w q r h hf hl => readList_step f ih w q r h hf hl

end Go.Proofs.YtkkjchfhgjfclaaGreatDoor

/- parse.Caught of a function literal that captures two variables. -/
namespace Go.Proofs.YtkkjchfhgjfclaaGreatDoor
open Go.RowKit

/-- Caught, of a function literal: what it gave up with, or 0. -/
theorem caught_closure (f : FuncId) (x y : Value) (w : World) (X : Nat → Prop) (hX : ∀ i, X i → i < w.heap.size) (R : World → Prop) (S : Int → World → Prop)
    (hcf : ∀ (args : Array Value) (w : World), (callFunc f args).run Tryz.prog w = .ok (.enter f args) w)
    (hW : Hid (Calls Tryz.prog f #[x, y] (w.alloc (.cells #[.int .i64 0] 24)) fun e w' =>
      (e = .returned (.tuple #[]) ∧ R w' ∧ Kept X (w.alloc (.cells #[.int .i64 0] 24)) w') ∨ (∃ n, e = fault n ∧ S n w' ∧ Kept X (w.alloc (.cells #[.int .i64 0] 24)) w'))) :
    Calls Tryz.prog 18 #[.func (.func f) #[] #[x, y]] w fun e w' =>
      (∃ w1, e = .returned (.int .i64 0) ∧ R w1 ∧ Kept X (w.alloc (.cells #[.int .i64 0] 24)) w1 ∧ w' = w1.setCell ⟨w.heap.size, 0, none⟩ (.int .i64 0))
      ∨ (∃ n w1, e = .returned (.int .i64 n) ∧ S n w1 ∧ Kept X (w.alloc (.cells #[.int .i64 0] 24)) w1 ∧ w' = w1.setCell ⟨w.heap.size, 0, none⟩ (.int .i64 n)) := by
  have hmf : ∀ (fn : Fn) (first cap : Array Value) (w : World), (Instr.makeFunc fn first cap).run Tryz.prog w = .ok (.func fn first cap) w := fun _ _ _ _ => rfl
  go_enter_defers Tryz.func18, Tryz.ntmps18
  go_wp2_with fail
  refine hW.out.mono ?_
  rintro e w1 (⟨rfl, hR, hK⟩ | ⟨n, rfl, hS, hK⟩)
  · have hg := new_kept (w := w) hK (fun h => Nat.lt_irrefl _ (hX _ h))
    have c0 : w1.cell? ⟨w.heap.size, 0, none⟩ = some (.int .i64 0) := by simp [World.cell?, hg]
    have f0 : w1.frozen? ⟨w.heap.size, 0, none⟩ = false := by simp [World.frozen?, hg]
    go_wp2_with fail
    refine leaves_cons (f := 38) (args := #[.pointer (some ⟨w.heap.size, 0, none⟩)]) (by simp) (by simp [go_sem]) ?_
    refine (catch_idle ⟨w.heap.size, 0, none⟩ _).mono ?_
    rintro e u' w'' ⟨rfl, rfl, rfl⟩
    have c1 := World.cell?_setCell_same w1 ⟨w.heap.size, 0, none⟩ (.int .i64 0) c0
    simp only [Leaves, settle, results, Tryz.results18]
    exact ⟨.int .i64 0, by simp [go_sem, c1], .inl ⟨w1, rfl, hR, hK, rfl⟩⟩
  · have hg := new_kept (w := w) hK (fun h => Nat.lt_irrefl _ (hX _ h))
    have c0 : w1.cell? ⟨w.heap.size, 0, none⟩ = some (.int .i64 0) := by simp [World.cell?, hg]
    have f0 : w1.frozen? ⟨w.heap.size, 0, none⟩ = false := by simp [World.frozen?, hg]
    go_wp2_with fail
    refine leaves_cons (f := 38) (args := #[.pointer (some ⟨w.heap.size, 0, none⟩)]) (by simp) (by simp [go_sem]) ?_
    refine (catch_fault ⟨w.heap.size, 0, none⟩ 0 n [] _ c0 f0).mono ?_
    rintro e u' w'' ⟨rfl, rfl, rfl⟩
    have c1 := World.cell?_setCell_same w1 ⟨w.heap.size, 0, none⟩ (.int .i64 n) c0
    simp only []
    rw [show settle (FrameMode.panicking [{ v := Value.iface 72 (.int .i64 n), recovered := true }]) = FrameMode.returning from rfl]
    simp only [Leaves, results, Tryz.results18]
    exact ⟨.int .i64 n, by simp [go_sem, c1], .inr ⟨n, w1, rfl, hS, hK, rfl⟩⟩

end Go.Proofs.YtkkjchfhgjfclaaGreatDoor
