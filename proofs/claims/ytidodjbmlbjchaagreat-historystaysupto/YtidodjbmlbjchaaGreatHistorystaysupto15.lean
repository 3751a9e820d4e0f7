/- schema.Check, whatever it is handed. -/
import Derived.Test.YtidodjbmlbjchaaGreatHistorystaysupto12
import Derived.Test.YtidodjbmlbjchaaGreatHistorystaysupto14
namespace Go.Proofs.YtidodjbmlbjchaaGreat
open Go.RowKit

theorem tySame_is (w : World) (g : Nat) (nm nm0 : List UInt8) (af : Option Addr) (nf cf : Nat) (hc : w.cell? ⟨g, 0, none⟩ = some (.string ⟨nm0.toArray⟩)) (q : Bool) (hq : decide (nm = nm0) = q) :
    Calls Tryz.prog 96 #[.agg #[.string ⟨nm.toArray⟩, .slice af nf cf], .pointer (some ⟨g, 0, none⟩)] w fun e w' => e = .returned (.bool q) ∧ Same w w' := by
  have hg := World.block_lt_of_cell? w _ hc
  have hc2 : ∀ ob, (w.alloc ob).cell? ⟨g, 0, none⟩ = some (.string ⟨nm0.toArray⟩) := fun ob => ((Kept.refl (fun _ => False) w).alloc ob).cell hc (fun f => f)
  have HQ := hide hq
  clear hq
  go_enter Tryz.func96, Tryz.ntmps96
  go_wp2_with fail
  go_ret
  exact ⟨ret_bool (by rw [← HQ.out, Bool.eq_iff_iff]; simp), (by repeat' (first | assumption | exact Kept.refl _ _ | refine Kept.drewN ?_ _ | refine Kept.drew ?_ | refine Kept.alloc ?_ _ | refine Kept.setB ?_ _ _))⟩

set_option maxRecDepth 20000 in
set_option maxHeartbeats 1600000 in
theorem indexTypes_any (w : World) (v : Value) (l : List TypeT) (g : Nat) (nm0 : List UInt8) (P : Nat → Prop) (h : TypSl P w v l) (hc : w.cell? ⟨g, 0, none⟩ = some (.string ⟨nm0.toArray⟩)) :
    Calls Tryz.prog 95 #[v, .func (.func 96) #[] #[.pointer (some ⟨g, 0, none⟩)]] w fun e w' =>
      (∃ j : Nat, e = .returned (.int .i64 j) ∧ hasT l nm0 = true ∧ (j = typeIx l nm0 ∧ j < l.length) ∧ Same w w') ∨ (e = .returned (.int .i64 (-1)) ∧ hasT l nm0 = false ∧ Same w w') := by
  obtain ⟨ao, cap, rfl, ⟨hmax, _⟩, _⟩ := id h
  unfold maxLen at hmax
  have hcf : ∀ (args : Array Value) (w : World), (callFunc 96 args).run Tryz.prog w = .ok (.enter 96 args) w := by intro args w; kernel_rfl
  go_enter Tryz.func95, Tryz.ntmps95
  go_wp2_with fail
  go_loopg [8] l.length (fun gg i wr => ∃ j : Nat, j + gg = l.length ∧ i = .int .i64 j ∧ Same w wr ∧ Hid (∀ k t, k < j → l[k]? = some t → t.name ≠ nm0))
  case atStart => exact ⟨0, by omega, rfl, Kept.refl _ _, fun k t hk => absurd hk (by omega)⟩
  case round =>
    obtain ⟨j, hj, rfl, hK, HN⟩ := hrel
    by_cases hlt : j < l.length
    · obtain ⟨b, off, af, nf, cf, rfl, c0, c1, hnf, hfs⟩ := (h.same hK).at j hlt
      clear hnf hfs
      have hcr := hK.cell hc (fun f => f)
      have HG := hide (show l[j]? = some l[j] from List.getElem?_eq_getElem hlt)
      obtain ⟨a, ha⟩ : ∃ a, a = l[j] := ⟨_, rfl⟩
      rw [← ha] at c0 HG
      clear ha
      obtain ⟨q, hq⟩ : ∃ q, decide (a.name = nm0) = q := ⟨_, rfl⟩
      have HS := hide (fun w hc => tySame_is w g a.name nm0 af nf cf hc q hq)
      have HQ := hide hq
      clear hq
      go_wp2_with fail
      refine (HS.out _ (by exact hcr)).mono ?_
      rintro e w1 ⟨rfl, hK1⟩
      cases q
      · go_wp2_with fail
        go_roundg (gk - 1)
        case measure => omega
        case rel =>
          refine ⟨j + 1, by omega, by go_num, hK.trans hK1 (fun _ _ f => f.elim), fun k t hk ht => ?_⟩
          by_cases e : k = j
          · subst e
            rw [HG.out] at ht
            cases ht
            exact of_decide_eq_false HQ.out
          · exact HN.out k t (by omega) ht
      · go_wp2_with fail
        go_ret
        have hn : a.name = nm0 := of_decide_eq_true HQ.out
        refine .inl ⟨j, rfl, List.any_eq_true.2 ⟨a, List.mem_of_getElem? HG.out, HQ.out⟩, ⟨?_, hlt⟩, hK.trans hK1 (fun _ _ f => f.elim)⟩
        unfold typeIx
        refine (List.findIdx_eq hlt |>.2 ⟨?_, fun k hk => ?_⟩).symm
        · have : l[j] = a := by have := HG.out; rw [List.getElem?_eq_getElem hlt] at this; exact Option.some.inj this
          rw [this]; exact HQ.out
        · exact decide_eq_false (HN.out k _ hk (List.getElem?_eq_getElem (by omega)))
    · go_wp2_with fail
      go_ret
      refine .inr ⟨rfl, ?_, hK⟩
      cases hh : hasT l nm0 with
      | false => rfl
      | true =>
        obtain ⟨t, ht, e⟩ := List.any_eq_true.1 hh
        obtain ⟨k, hk, rfl⟩ := List.getElem_of_mem ht
        exact absurd (of_decide_eq_true e) (HN.out k _ (by omega) (List.getElem?_eq_getElem hk))

/-- the number of a type, or -1 -/
def typeN (l : List TypeT) (nm : List UInt8) : Int := if hasT l nm then (typeIx l nm : Int) else -1

theorem typeNamed_any (w : World) (v : Value) (l : List TypeT) (nm : List UInt8) (P : Nat → Prop) (h : TypSl P w v l) :
    Calls Tryz.prog 67 #[v, .string ⟨nm.toArray⟩] w fun e w' =>
      (∃ j : Nat, e = .returned (.int .i64 j) ∧ hasT l nm = true ∧ (j = typeIx l nm ∧ j < l.length) ∧ Same w w') ∨ (e = .returned (.int .i64 (-1)) ∧ hasT l nm = false ∧ Same w w') := by
  obtain ⟨ao, cap, rfl, _, _⟩ := id h
  have hmf : ∀ (fn : Fn) (first cap : Array Value) (w : World), (Instr.makeFunc fn first cap).run Tryz.prog w = .ok (.func fn first cap) w := fun _ _ _ _ => rfl
  have kA : ∀ o, Same w (w.alloc o) := fun o => (Kept.refl _ w).alloc o
  have HI := hide (indexTypes_any (w.alloc (.cells #[.string ⟨nm.toArray⟩] 9)) _ l w.heap.size nm P (h.same (kA _)) (by simp))
  clear h
  go_enter Tryz.func67, Tryz.ntmps67
  go_wp2_with fail
  refine HI.out.mono ?_
  rintro e w1 (⟨j, rfl, ha, hj, hK⟩ | ⟨rfl, ha, hK⟩)
  · have HA := hide ha
    have HJ := hide hj
    clear ha hj
    go_wp2_with fail
    go_ret
    exact .inl ⟨j, rfl, HA.out, HJ.out, (kA _).trans hK (fun _ _ f => f.elim)⟩
  · have HA := hide ha
    clear ha
    go_wp2_with fail
    go_ret
    exact .inr ⟨rfl, HA.out, (kA _).trans hK (fun _ _ f => f.elim)⟩

theorem wrongKind_any (w : World) (v : Value) (l : List TypeT) (f : FieldT) (P : Nat → Prop) (h : TypSl P w v l) :
    Calls Tryz.prog 106 #[v, .agg #[.string ⟨f.name.toArray⟩, .int .i64 f.kind, .string ⟨f.of.toArray⟩]] w fun e w' => e = .returned (.int .i64 (wrongKd l f)) ∧ Same w w' := by
  obtain ⟨ao, cap, rfl, _, _⟩ := id h
  have kA : ∀ o, Same w (w.alloc o) := fun o => (Kept.refl _ w).alloc o
  have HT := hide (fun o => typeNamed_any (w.alloc o) _ l f.of P (h.same (kA o)))
  clear h
  obtain ⟨nm, kd, of⟩ := f
  simp only at HT ⊢
  by_cases k1 : kd = 1 ∨ kd = 2
  · cases he : of.isEmpty with
    | true =>
      have HF := hide (show wrongKd l ⟨nm, kd, of⟩ = 0 by unfold wrongKd; rw [if_pos k1, if_neg (by simpa using he)])
      rcases k1 with rfl | rfl
      · go_enter Tryz.func106, Tryz.ntmps106
        go_wp2_with fail
        go_ret
        exact ⟨ret_int HF.out.symm, kA _⟩
      · go_enter Tryz.func106, Tryz.ntmps106
        go_wp2_with fail
        go_ret
        exact ⟨ret_int HF.out.symm, kA _⟩
    | false =>
      have HF := hide (show wrongKd l ⟨nm, kd, of⟩ = 1 by unfold wrongKd; rw [if_pos k1, if_pos (by simpa using he)])
      rcases k1 with rfl | rfl
      · go_enter Tryz.func106, Tryz.ntmps106
        go_wp2_with fail
        go_ret
        exact ⟨ret_int HF.out.symm, kA _⟩
      · go_enter Tryz.func106, Tryz.ntmps106
        go_wp2_with fail
        go_ret
        exact ⟨ret_int HF.out.symm, kA _⟩
  · by_cases k3 : kd = 3 ∨ kd = 4
    · have HF := hide (show wrongKd l ⟨nm, kd, of⟩ = if hasT l of then 0 else 5 by unfold wrongKd; rw [if_neg k1, if_pos k3])
      clear k1
      rcases k3 with rfl | rfl
      all_goals
        go_enter Tryz.func106, Tryz.ntmps106
        go_wp2_with fail
        refine (HT.out _).mono ?_
        rintro e w1 (⟨j, rfl, ha, hj, hK⟩ | ⟨rfl, ha, hK⟩)
        · have HA := hide ha
          clear ha hj
          go_wp2_with fail
          go_ret
          exact ⟨ret_int (by rw [HF.out, HA.out]; rfl), tra (kA _) hK⟩
        · have HA := hide ha
          clear ha
          go_wp2_with fail
          go_ret
          exact ⟨ret_int (by rw [HF.out, HA.out]; rfl), tra (kA _) hK⟩
    · have HF := hide (show wrongKd l ⟨nm, kd, of⟩ = 7 by unfold wrongKd; rw [if_neg k1, if_neg k3])
      have e1 : (kd == 1) = false := by simp; omega
      have e2 : (kd == 2) = false := by simp; omega
      have e3 : (kd == 3) = false := by simp; omega
      have e4 : (kd == 4) = false := by simp; omega
      clear k1 k3
      go_enter Tryz.func106, Tryz.ntmps106
      go_wp2_with fail
      go_ret
      exact ⟨ret_int HF.out.symm, kA _⟩

theorem fdSame_is (w : World) (g : Nat) (f : FieldT) (nm0 : List UInt8) (hc : w.cell? ⟨g, 0, none⟩ = some (.string ⟨nm0.toArray⟩)) (q : Bool) (hq : decide (f.name = nm0) = q) :
    Calls Tryz.prog 113 #[.agg #[.string ⟨f.name.toArray⟩, .int .i64 f.kind, .string ⟨f.of.toArray⟩], .pointer (some ⟨g, 0, none⟩)] w fun e w' => e = .returned (.bool q) ∧ Same w w' := by
  have hg := World.block_lt_of_cell? w _ hc
  have hc2 : ∀ ob, (w.alloc ob).cell? ⟨g, 0, none⟩ = some (.string ⟨nm0.toArray⟩) := fun ob => ((Kept.refl (fun _ => False) w).alloc ob).cell hc (fun f => f)
  have HQ := hide hq
  clear hq
  go_enter Tryz.func113, Tryz.ntmps113
  go_wp2_with fail
  go_ret
  exact ⟨ret_bool (by rw [← HQ.out, Bool.eq_iff_iff]; simp), (by repeat' (first | assumption | exact Kept.refl _ _ | refine Kept.drewN ?_ _ | refine Kept.drew ?_ | refine Kept.alloc ?_ _ | refine Kept.setB ?_ _ _))⟩

/-- is there a field of a name, and where is the first one -/
def hasF (l : List FieldT) (nm : List UInt8) : Bool := l.any fun a => decide (a.name = nm)
def fieldIx (l : List FieldT) (nm : List UInt8) : Nat := l.findIdx fun a => decide (a.name = nm)

set_option maxRecDepth 20000 in
set_option maxHeartbeats 1600000 in
theorem indexFields_any (w : World) (v : Value) (l : List FieldT) (g : Nat) (nm0 : List UInt8) (P : Nat → Prop) (h : FldSl P w v l) (hc : w.cell? ⟨g, 0, none⟩ = some (.string ⟨nm0.toArray⟩)) :
    Calls Tryz.prog 112 #[v, .func (.func 113) #[] #[.pointer (some ⟨g, 0, none⟩)]] w fun e w' =>
      (∃ j : Nat, e = .returned (.int .i64 j) ∧ hasF l nm0 = true ∧ (j = fieldIx l nm0 ∧ j < l.length) ∧ Same w w') ∨ (e = .returned (.int .i64 (-1)) ∧ hasF l nm0 = false ∧ Same w w') := by
  obtain ⟨ao, cap, rfl, ⟨hmax, _⟩, _⟩ := id h
  unfold maxLen at hmax
  have hcf : ∀ (args : Array Value) (w : World), (callFunc 113 args).run Tryz.prog w = .ok (.enter 113 args) w := by intro args w; kernel_rfl
  go_enter Tryz.func112, Tryz.ntmps112
  go_wp2_with fail
  go_loopg [8] l.length (fun gg i wr => ∃ j : Nat, j + gg = l.length ∧ i = .int .i64 j ∧ Same w wr ∧ Hid (∀ k t, k < j → l[k]? = some t → t.name ≠ nm0))
  case atStart => exact ⟨0, by omega, rfl, Kept.refl _ _, fun k t hk => absurd hk (by omega)⟩
  case round =>
    obtain ⟨j, hj, rfl, hK, HN⟩ := hrel
    by_cases hlt : j < l.length
    · obtain ⟨b, off, rfl, c0, c1, c2⟩ := (h.same hK).at j hlt
      have hcr := hK.cell hc (fun f => f)
      have HG := hide (show l[j]? = some l[j] from List.getElem?_eq_getElem hlt)
      obtain ⟨a, ha⟩ : ∃ a, a = l[j] := ⟨_, rfl⟩
      rw [← ha] at c0 c1 c2 HG
      clear ha
      obtain ⟨q, hq⟩ : ∃ q, decide (a.name = nm0) = q := ⟨_, rfl⟩
      have HS := hide (fun w hc => fdSame_is w g a nm0 hc q hq)
      have HQ := hide hq
      clear hq
      go_wp2_with fail
      refine (HS.out _ (by exact hcr)).mono ?_
      rintro e w1 ⟨rfl, hK1⟩
      cases q
      · go_wp2_with fail
        go_roundg (gk - 1)
        case measure => omega
        case rel =>
          refine ⟨j + 1, by omega, by go_num, hK.trans hK1 (fun _ _ f => f.elim), fun k t hk ht => ?_⟩
          by_cases e : k = j
          · subst e
            rw [HG.out] at ht
            cases ht
            exact of_decide_eq_false HQ.out
          · exact HN.out k t (by omega) ht
      · go_wp2_with fail
        go_ret
        refine .inl ⟨j, rfl, List.any_eq_true.2 ⟨a, List.mem_of_getElem? HG.out, HQ.out⟩, ⟨?_, hlt⟩, hK.trans hK1 (fun _ _ f => f.elim)⟩
        unfold fieldIx
        refine (List.findIdx_eq hlt |>.2 ⟨?_, fun k hk => ?_⟩).symm
        · have : l[j] = a := by have := HG.out; rw [List.getElem?_eq_getElem hlt] at this; exact Option.some.inj this
          rw [this]; exact HQ.out
        · exact decide_eq_false (HN.out k _ hk (List.getElem?_eq_getElem (by omega)))
    · go_wp2_with fail
      go_ret
      refine .inr ⟨rfl, ?_, hK⟩
      cases hh : hasF l nm0 with
      | false => rfl
      | true =>
        obtain ⟨t, ht, e⟩ := List.any_eq_true.1 hh
        obtain ⟨k, hk, rfl⟩ := List.getElem_of_mem ht
        exact absurd (of_decide_eq_true e) (HN.out k _ (by omega) (List.getElem?_eq_getElem hk))

theorem fieldNamed_any (w : World) (v : Value) (l : List FieldT) (nm : List UInt8) (P : Nat → Prop) (h : FldSl P w v l) :
    Calls Tryz.prog 105 #[v, .string ⟨nm.toArray⟩] w fun e w' =>
      (∃ j : Nat, e = .returned (.int .i64 j) ∧ hasF l nm = true ∧ (j = fieldIx l nm ∧ j < l.length) ∧ Same w w') ∨ (e = .returned (.int .i64 (-1)) ∧ hasF l nm = false ∧ Same w w') := by
  obtain ⟨ao, cap, rfl, _, _⟩ := id h
  have hmf : ∀ (fn : Fn) (first cap : Array Value) (w : World), (Instr.makeFunc fn first cap).run Tryz.prog w = .ok (.func fn first cap) w := fun _ _ _ _ => rfl
  have kA : ∀ o, Same w (w.alloc o) := fun o => (Kept.refl _ w).alloc o
  have HI := hide (indexFields_any (w.alloc (.cells #[.string ⟨nm.toArray⟩] 9)) _ l w.heap.size nm P (h.same (kA _)) (by simp))
  clear h
  go_enter Tryz.func105, Tryz.ntmps105
  go_wp2_with fail
  refine HI.out.mono ?_
  rintro e w1 (⟨j, rfl, ha, hj, hK⟩ | ⟨rfl, ha, hK⟩)
  · have HA := hide ha
    have HJ := hide hj
    clear ha hj
    go_wp2_with fail
    go_ret
    exact .inl ⟨j, rfl, HA.out, HJ.out, (kA _).trans hK (fun _ _ f => f.elim)⟩
  · have HA := hide ha
    clear ha
    go_wp2_with fail
    go_ret
    exact .inr ⟨rfl, HA.out, (kA _).trans hK (fun _ _ f => f.elim)⟩

theorem fieldNamed_not (w : World) (v : Value) (l : List FieldT) (nm : List UInt8) (P : Nat → Prop) (h : FldSl P w v l) (hn : hasF l nm = false) :
    Calls Tryz.prog 105 #[v, .string ⟨nm.toArray⟩] w fun e w' => e = .returned (.int .i64 (-1)) ∧ Same w w' := by
  refine (fieldNamed_any w v l nm P h).mono ?_
  rintro e w' (⟨j, _, ha, _⟩ | ⟨rfl, _, hK⟩)
  · rw [hn] at ha; cases ha
  · exact ⟨rfl, hK⟩

theorem fieldNamed_has (w : World) (v : Value) (l : List FieldT) (nm : List UInt8) (P : Nat → Prop) (h : FldSl P w v l) (hn : hasF l nm = true) :
    Calls Tryz.prog 105 #[v, .string ⟨nm.toArray⟩] w fun e w' => ∃ j : Nat, e = .returned (.int .i64 j) ∧ (j = fieldIx l nm ∧ j < l.length) ∧ Same w w' := by
  refine (fieldNamed_any w v l nm P h).mono ?_
  rintro e w' (⟨j, rfl, _, hj, hK⟩ | ⟨_, ha, _⟩)
  · exact ⟨j, rfl, hj, hK⟩
  · rw [hn] at ha; cases ha

theorem blk3 {w : World} {g : Nat} {x y z : Value} {t : TypeId} (h : w.heap[g]? = some (.cells #[x, y, z] t (0, 0))) :
    w.cell? ⟨g, 0, none⟩ = some x ∧ w.cell? ⟨g, 1, none⟩ = some y ∧ w.cell? ⟨g, 2, none⟩ = some z := by simp [World.cell?, h]
theorem blk2 {w : World} {g : Nat} {x y : Value} {t : TypeId} (h : w.heap[g]? = some (.cells #[x, y] t (0, 0))) :
    w.cell? ⟨g, 0, none⟩ = some x ∧ w.cell? ⟨g, 1, none⟩ = some y := by simp [World.cell?, h]

theorem wrongFd_of (l : List TypeT) (seen : List FieldT) (f : FieldT) (m : Int) (hm : wrongT (nameT f.name) = m) (q : Bool) (hq : hasF seen f.name = q) :
    wrongFd l seen f = if m ≠ 0 then m else if f.name = bId then 4 else if q then 6 else wrongKd l f := by rw [wrongFd, hm, show (seen.any fun g => decide (g.name = f.name)) = q from hq]

set_option maxRecDepth 20000 in
set_option maxHeartbeats 1600000 in
theorem wrongField_any (w : World) (vt vf : Value) (l : List TypeT) (fs : List FieldT) (j : Nat) (hj : j < fs.length) (P Q : Nat → Prop) (ht : TypSl P w vt l) (hf : FldSl Q w vf fs) :
    Calls Tryz.prog 90 #[vt, vf, .int .i64 j] w fun e w' => e = .returned (.int .i64 (wrongFd l (fs.take j) fs[j])) ∧ Same w w' := by
  obtain ⟨at', ct, rfl, _, _⟩ := id ht
  obtain ⟨af, cf, rfl, ⟨hmax, hcap⟩, _⟩ := id hf
  unfold maxLen at hmax
  obtain ⟨b, off, rfl, c0, c1, c2⟩ := hf.at j hj
  obtain ⟨f, hfe⟩ : ∃ f, f = fs[j] := ⟨_, rfl⟩
  rw [← hfe] at c0 c1 c2 ⊢
  clear hfe
  obtain ⟨m, hm⟩ : ∃ m, wrongT (nameT f.name) = m := ⟨_, rfl⟩
  obtain ⟨q, hq⟩ : ∃ q, hasF (fs.take j) f.name = q := ⟨_, rfl⟩
  have HQ := hide hq
  have HW := hide (wrongFd_of l (fs.take j) f m hm q hq)
  have HNM := hide (fun w => wrongName_is w f.name m hm)
  have HTK := hide (fun w1 (hK : Same w w1) => (hf.same hK).take j (by omega))
  have HKD := hide (fun w1 (hK : Same w w1) => wrongKind_any w1 _ l f P (ht.same hK))
  clear hm ht hf hq
  have kA : ∀ o, Same w (w.alloc o) := fun o => (Kept.refl _ w).alloc o
  go_enter Tryz.func90, Tryz.ntmps90
  go_wp2_with fail
  refine (HNM.out _).mono ?_
  rintro e w1 ⟨rfl, hK1⟩
  have hb1 := new_kept hK1 (fun f => f)
  have hKa : Same w w1 := tra (kA _) hK1
  have hw1 : w.heap.size < w1.heap.size := (Array.getElem?_eq_some_iff.1 hb1).1
  clear kA c0 c1 c2 hK1
  by_cases hm0 : m = 0
  · subst hm0
    obtain ⟨g0, g1, g2⟩ := blk3 hb1
    by_cases hid : f.name = bId
    · have HF := hide (show wrongFd l (fs.take j) f = 4 by rw [HW.out, if_neg (by simp), if_pos hid])
      rw [hid] at g0
      clear hid
      go_wp2_with fail
      go_ret
      exact ⟨ret_int HF.out.symm, hKa⟩
    · have hid' : (f.name == [105, 100]) = false := by simpa using hid
      have HF := hide (show wrongFd l (fs.take j) f = if q then 6 else wrongKd l f by rw [HW.out, if_neg (by simp), if_neg hid])
      clear hid HW
      cases q
      · have HC1 := hide (fun w2 (hK2 : Same w w2) => fieldNamed_not w2 _ (fs.take j) f.name Q (HTK.out w2 hK2) HQ.out)
        have HKN := hide (fun n => hKa.drewN n)
        go_wp2_with fail
        go_region_with ((go_at_call 105; refine (HC1.out _ (by first | exact hKa | exact HKN.out _)).mono ?_; rintro e w2 ⟨rfl, hK2⟩))
        all_goals
          have hKb : Same w w2 := tra hKa (by first | exact hK2.unD | exact hK2.unN | exact hK2)
          have HK1 := hide (HKD.out w2 hKb)
          have hb2 : w2.heap[w.heap.size]? = _ := (hK2.block w.heap.size hw1 (fun f => f)).trans hb1
          obtain ⟨p0, p1, p2⟩ := blk3 hb2
          clear g0 g1 g2 hb1 hb2 HC1 HKN hK2
          go_wp2_with fail
          refine HK1.out.mono ?_
          rintro e w3 ⟨rfl, hK3⟩
          go_wp2_with fail
          go_ret
          exact ⟨ret_int (by rw [HF.out]; rfl), tra hKb hK3⟩
      · have HC1 := hide (fun w2 (hK2 : Same w w2) => fieldNamed_has w2 _ (fs.take j) f.name Q (HTK.out w2 hK2) HQ.out)
        have HKN := hide (fun n => hKa.drewN n)
        go_wp2_with fail
        go_region_with ((go_at_call 105; refine (HC1.out _ (by first | exact hKa | exact HKN.out _)).mono ?_; rintro e w2 ⟨jj, rfl, _, hK2⟩))
        all_goals
          have hKb : Same w w2 := tra hKa (by first | exact hK2.unD | exact hK2.unN | exact hK2)
          go_wp2_with fail
          go_ret
          exact ⟨ret_int (by rw [HF.out]; rfl), hKb⟩
  · have hm1 : (m != 0) = true := by simp [hm0]
    have HF := hide (show wrongFd l (fs.take j) f = m by rw [HW.out, if_pos hm0])
    clear hm0
    go_wp2_with fail
    go_ret
    exact ⟨ret_int HF.out.symm, hKa⟩

end Go.Proofs.YtidodjbmlbjchaaGreat
