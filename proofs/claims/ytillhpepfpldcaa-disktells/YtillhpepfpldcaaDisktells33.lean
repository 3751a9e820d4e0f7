/- DiskTells: the walk of the law's function. (Written by tool/gendtells.py.) -/
import Derived.Test.YtillhpepfpldcaaDisktells30
import Derived.Test.YtillhpepfpldcaaDisktells32
import Derived.Deep.DeepCutAuto
import Derived.Deep.RegionHeld3
namespace Go.Proofs.Ytillhpepfpldcaa
open Go.RowKit

/-- the law's four later boxes -/
structure DLV (wx : World) (b1 b2 b3 b4 : Nat) (x1 x2 x3 x4 : DiskT) : Prop where
  lt : b1 < b2 ∧ b2 < b3 ∧ b3 < b4
  x1 : BX wx b1 x1
  x2 : BX wx b2 x2
  x3 : BX wx b3 x3
  x4 : BX wx b4 x4
section
variable {wx wy : World} {b1 b2 b3 b4 : Nat} {x1 x2 x3 x4 y : DiskT}
theorem DLV.to (h : DLV wx b1 b2 b3 b4 x1 x2 x3 x4) (k : Same wx wy) : DLV wy b1 b2 b3 b4 x1 x2 x3 x4 := ⟨h.lt, h.x1.same k, h.x2.same k, h.x3.same k, h.x4.same k⟩
theorem DLV.set1 (h : DLV wx b1 b2 b3 b4 x1 x2 x3 x4) (hk : Kept (· = b1) wx wy) (hy : BX wy b1 y) : DLV wy b1 b2 b3 b4 y x2 x3 x4 := by
  obtain ⟨l1, l2, l3⟩ := h.lt
  exact ⟨h.lt, hy, h.x2.box h.x1 hk (by omega), h.x3.box h.x1 hk (by omega), h.x4.box h.x1 hk (by omega)⟩
theorem DLV.set2 (h : DLV wx b1 b2 b3 b4 x1 x2 x3 x4) (hk : Kept (· = b2) wx wy) (hy : BX wy b2 y) : DLV wy b1 b2 b3 b4 x1 y x3 x4 := by
  obtain ⟨l1, l2, l3⟩ := h.lt
  exact ⟨h.lt, h.x1.box h.x2 hk (by omega), hy, h.x3.box h.x2 hk (by omega), h.x4.box h.x2 hk (by omega)⟩
theorem DLV.set3 (h : DLV wx b1 b2 b3 b4 x1 x2 x3 x4) (hk : Kept (· = b3) wx wy) (hy : BX wy b3 y) : DLV wy b1 b2 b3 b4 x1 x2 y x4 := by
  obtain ⟨l1, l2, l3⟩ := h.lt
  exact ⟨h.lt, h.x1.box h.x3 hk (by omega), h.x2.box h.x3 hk (by omega), hy, h.x4.box h.x3 hk (by omega)⟩
theorem DLV.set4 (h : DLV wx b1 b2 b3 b4 x1 x2 x3 x4) (hk : Kept (· = b4) wx wy) (hy : BX wy b4 y) : DLV wy b1 b2 b3 b4 x1 x2 x3 y := by
  obtain ⟨l1, l2, l3⟩ := h.lt
  exact ⟨h.lt, h.x1.box h.x4 hk (by omega), h.x2.box h.x4 hk (by omega), h.x3.box h.x4 hk (by omega), hy⟩
end

def v1D (d : DiskT) (b : BatchT) : Int := if checkD d = 0 then checkBa b else checkD d
def x1D (d : DiskT) (keep : Int) : Int := if checkD d = 0 ∧ keep < 0 then 3 else checkD d
def wXD (d : DiskT) : Int := if checkD d = 0 then (if tornD d then 4 else 0) else checkD d
def yDD (d : DiskT) : DiskT := if checkD d = 0 then ⟨d.segs, (lastS d.segs).length⟩ else disk0
def vXD (d : DiskT) (b : BatchT) : Int := if v1D d b = 0 then (ansD (appendD d b)).2 else v1D d b
def mDD (d : DiskT) (b : BatchT) : DiskT := if v1D d b = 0 then (ansD (appendD d b)).1 else disk0
def kDD (d : DiskT) (keep : Int) : DiskT := if x1D d keep = 0 then (ansD (crashD d keep)).1 else disk0

theorem putD_no {d : DiskT} {x : List UInt8} {e : Int} (h : putD d x = .error e) : e ≠ 0 := by
  unfold putD at h
  split at h
  · cases h
  · split at h
    · cases h; decide
    · cases h
theorem dt_open (d : DiskT) : (opnA d).2.2 = checkD d ∧ (opnA d).2.1 = if checkD d ≠ 0 then disk0 else (opnA d).2.1 := by
  unfold opnA
  by_cases h : checkD d = 0
  · simp [h]
  · simp [h]
theorem dt_app (d : DiskT) (b : BatchT) : (ansD (appendD d b)).2 = vXD d b ∧ (ansD (appendD d b)).1 = if vXD d b ≠ 0 then disk0 else mDD d b := by
  unfold vXD mDD v1D
  by_cases h : checkD d = 0
  · rw [if_pos h]
    by_cases h2 : checkBa b = 0
    · rw [if_pos h2, if_pos h2, app_ok h h2]
      cases ht : tornD d with
      | true => exact ⟨rfl, rfl⟩
      | false =>
        rw [if_neg (by decide)]
        cases hp : putD d (bytesB b) with
        | ok x => exact ⟨rfl, rfl⟩
        | error e => exact ⟨rfl, by rw [if_pos (by exact putD_no hp)]; rfl⟩
    · have e : appendD d b = .error (checkBa b) := by unfold appendD; rw [if_neg (by simp [h]), if_pos h2]
      rw [if_neg h2, if_neg h2, e]
      exact ⟨rfl, by rw [if_pos h2]; rfl⟩
  · have e : appendD d b = .error (checkD d) := by unfold appendD; rw [if_pos h]
    rw [if_neg h, if_neg h, if_neg h, e]
    exact ⟨rfl, by rw [if_pos h]; rfl⟩
theorem dt_sync (d : DiskT) : (ansD (syncD d)).2 = wXD d ∧ (ansD (syncD d)).1 = if wXD d ≠ 0 then disk0 else yDD d := by
  unfold wXD yDD syncD
  by_cases h : checkD d = 0
  · simp only [h, ne_eq, not_true_eq_false, if_false, if_true]
    cases ht : tornD d with
    | true => exact ⟨rfl, rfl⟩
    | false => exact ⟨rfl, rfl⟩
  · rw [if_pos h, if_neg h, if_neg h, if_pos h]; exact ⟨rfl, rfl⟩
theorem dt_crash (d : DiskT) (keep : Int) : (ansD (crashD d keep)).2 = x1D d keep ∧ (ansD (crashD d keep)).1 = if x1D d keep ≠ 0 then disk0 else kDD d keep := by
  unfold kDD x1D crashD
  by_cases h : checkD d = 0
  · by_cases hk : keep < 0
    · simp [h, hk, ansD]
    · simp [h, hk, ansD]
  · simp [h, ansD]

theorem dlv_new (w : World) : DLV ((((w.alloc (.cells #[.slice none 0 0, .int .i64 0] 38)).alloc (.cells #[.slice none 0 0, .int .i64 0] 38)).alloc (.cells #[.slice none 0 0, .int .i64 0] 38)).alloc (.cells #[.slice none 0 0, .int .i64 0] 38)) w.heap.size (w.heap.size + 1) (w.heap.size + 1 + 1) (w.heap.size + 1 + 1 + 1) disk0 disk0 disk0 disk0 := by
  have z : ∀ w : World, BX (w.alloc (.cells #[.slice none 0 0, .int .i64 0] 38)) w.heap.size disk0 := fun w => BX.new (d := disk0) (StSl.nil _ _)
  have al : ∀ (w : World) (o : Obj), Same w (w.alloc o) := fun w o => (Kept.refl _ w).alloc o
  have z2 := z (w.alloc (.cells #[.slice none 0 0, .int .i64 0] 38))
  have z3 := z ((w.alloc (.cells #[.slice none 0 0, .int .i64 0] 38)).alloc (.cells #[.slice none 0 0, .int .i64 0] 38))
  have z4 := z (((w.alloc (.cells #[.slice none 0 0, .int .i64 0] 38)).alloc (.cells #[.slice none 0 0, .int .i64 0] 38)).alloc (.cells #[.slice none 0 0, .int .i64 0] 38))
  simp only [World.size_alloc] at z2 z3 z4
  exact ⟨⟨by omega, by omega, by omega⟩, (((z w).same (al _ _)).same (al _ _)).same (al _ _), (z2.same (al _ _)).same (al _ _), z3.same (al _ _), z4⟩

theorem BX.zero (w : World) : BX (w.alloc (.cells #[.slice none 0 0, .int .i64 0] 38)) w.heap.size disk0 := BX.new (d := disk0) (StSl.nil _ _)

theorem rOpen_one (P : Nat → Prop) (w : World) (v : Value) (d : DiskT) (h : StSl P w v d.segs) (hc : checkD d = 0) {oB : List BatchT} {oD : DiskT} (h1 : batchesD d.segs = oB) (h2 : openD d = oD) :
    Calls Try.prog 21 #[diV v d.synced] w fun r w' => ∃ ab cb ao cap, r = .returned (.tuple #[.slice ab oB.length cb, diV (.slice ao oD.segs.length cap) oD.synced]) ∧ BaSl (fun _ => True) w' (.slice ab oB.length cb) oB ∧ StSl (fun _ => True) w' (.slice ao oD.segs.length cap) oD.segs ∧ Same w w' := by
  refine (rOpenDisk_any P w v d h hc).mono ?_
  rintro r w' ⟨bv, sv, rfl, hb, hs, hK⟩
  rw [h1] at hb
  rw [h2] at hs ⊢
  obtain ⟨ab, cb, rfl⟩ := hb.form
  obtain ⟨ao, cap, rfl⟩ := hs.form
  exact ⟨ab, cb, ao, cap, rfl, hb, hs, hK⟩
theorem rCrash_one (P : Nat → Prop) (w : World) (v : Value) (d : DiskT) (keep : Int) (h : StSl P w v d.segs) (hc : checkD d = 0) (hk0 : 0 ≤ keep) {cD : DiskT} (h1 : cutD d keep = cD) :
    Calls Try.prog 24 #[diV v d.synced, .int .i64 keep] w fun r w' => ∃ ao cap, r = .returned (diV (.slice ao cD.segs.length cap) cD.synced) ∧ StSl (fun _ => True) w' (.slice ao cD.segs.length cap) cD.segs ∧ Same w w' := by
  refine (rCrashOf_any P w v d keep h hc hk0).mono ?_
  rintro r w' ⟨sv, rfl, hs, hK⟩
  rw [h1] at hs ⊢
  obtain ⟨ao, cap, rfl⟩ := hs.form
  exact ⟨ao, cap, rfl, hs, hK⟩
theorem rApp_one (P Q : Nat → Prop) (w : World) (v vb : Value) (d : DiskT) (b : BatchT) (h : StSl P w v d.segs) (hb : EvSl Q w vb b.events) (hc : checkD d = 0) (hcb : checkBa b = 0) {aD : DiskT} {eA : Int} (h1 : ansD (appendD d b) = (aD, eA)) :
    Calls Try.prog 23 #[diV v d.synced, baV b.number vb] w fun r w' => ∃ ao cap, r = .returned (.tuple #[diV (.slice ao aD.segs.length cap) aD.synced, .int .i64 eA]) ∧ StSl (fun _ => True) w' (.slice ao aD.segs.length cap) aD.segs ∧ Same w w' := by
  refine (rAppendOf_any P Q w v vb d b h hb hc hcb).mono ?_
  rintro r w' ⟨ao, cap, rfl, hs, hK⟩
  rw [h1] at hs ⊢
  exact ⟨ao, cap, rfl, hs, hK⟩
theorem is_one (P Q : Nat → Prop) (w : World) (va vb : Value) (a b : DiskT) (e u : Int) (ha : StSl P w va a.segs) (hb : StSl Q w vb b.segs) (h : e = u ∧ a = if u ≠ 0 then disk0 else b) :
    Calls Try.prog 27 #[diV va a.synced, .int .i64 e, .int .i64 u, diV vb b.synced] w fun r w' => r = .returned (.bool true) ∧ Same w w' := by
  refine (diskIs_any P Q w va vb a b e u ha hb).mono ?_
  rintro r w' ⟨rfl, hK⟩
  exact ⟨by rw [decide_eq_true h], hK⟩
theorem sb_one (P Q : Nat → Prop) (w : World) (va vb : Value) (l : List BatchT) (ha : BaSl P w va l) (hb : BaSl Q w vb l) :
    Calls Try.prog 15 #[va, vb] w fun r w' => r = .returned (.bool true) ∧ Same w w' :=
  (sameBatches_any _ _ w _ _ l l ha hb).mono (fun e w' h => ⟨by rw [h.1, decide_eq_true rfl], by obtain ⟨n, hn⟩ := h.2; exact same_drewN hn⟩)

set_option maxRecDepth 20000 in
set_option maxHeartbeats 12800000 in
theorem diskTells_any (w : World) (d : DiskT) (b : BatchT) (vd vb : Value) (keep : Int) (hk63 : keep ≤ 9223372036854775807) (hd : StSl anyE w vd d.segs) (hb : EvSl anyE w vb b.events) :
    Calls Try.prog 4 #[diV vd d.synced, baV b.number vb, .int .i64 keep] w fun e w' => e = .returned (.bool true) ∧ Same w w' := by
  have trs : ∀ {a b c : World}, Same a b → Same b c → Same a c := fun h k => h.trans k (fun _ _ f => f)
  obtain ⟨a3, c3, rfl⟩ := hd.form
  obtain ⟨ab, cb, rfl⟩ := hb.form
  obtain ⟨W0, hW0⟩ : ∃ W0, W0 = (w.alloc (.cells #[.slice a3 d.segs.length c3, .int .i64 d.synced] 38)).alloc (.cells #[.int .i64 b.number, .slice ab b.events.length cb] 24) := ⟨_, rfl⟩
  obtain ⟨b3, hb3⟩ : ∃ b3, b3 = w.heap.size := ⟨_, rfl⟩
  obtain ⟨b4, hb4⟩ : ∃ b4, b4 = w.heap.size + 1 := ⟨_, rfl⟩
  have HKW := hide (show Same w W0 by rw [hW0]; exact ((Kept.refl _ w).alloc _).alloc _)
  have HG3 := hide (show W0.heap[b3]? = some (.cells #[.slice a3 d.segs.length c3, .int .i64 d.synced] 38 (0, 0)) by rw [hW0, hb3]; exact al_old _ _ _)
  have HG4 := hide (show W0.heap[b4]? = some (.cells #[.int .i64 b.number, .slice ab b.events.length cb] 24 (0, 0)) by rw [hW0, hb4]; exact al_new _ _ _)
  have H3 := hide (show ∀ wy, Same W0 wy → wy.cell? ⟨b3, 0, none⟩ = some (.slice a3 d.segs.length c3) ∧ wy.cell? ⟨b3, 1, none⟩ = some (.int .i64 d.synced) ∧ StSl (fun _ => True) wy (.slice a3 d.segs.length c3) d.segs from fun wy hy => ⟨hy.cell (blk2 HG3.out).1 (fun f => f), hy.cell (blk2 HG3.out).2 (fun f => f), (hd.same (trs HKW.out hy)).mono (fun _ _ _ => trivial)⟩)
  have H4 := hide (show ∀ wy, Same W0 wy → wy.cell? ⟨b4, 0, none⟩ = some (.int .i64 b.number) ∧ wy.cell? ⟨b4, 1, none⟩ = some (.slice ab b.events.length cb) ∧ EvSl (fun _ => True) wy (.slice ab b.events.length cb) b.events from fun wy hy => ⟨hy.cell (blk2 HG4.out).1 (fun f => f), hy.cell (blk2 HG4.out).2 (fun f => f), (hb.same (trs HKW.out hy)).mono (fun _ _ _ => trivial)⟩)
  have HBG := hide (fun wx => diskBegun_any wx)
  clear hd hb
  have HP1 := hide (dt_open d)
  have HP2 := hide (dt_app d b)
  have HP3 := hide (dt_sync d)
  have HP4 := hide (dt_crash d keep)
  have HQ1 := hide (show checkD d = 0 → batchesD d.segs = (opnA d).1 ∧ openD d = (opnA d).2.1 from fun h => by unfold opnA; rw [if_pos h]; exact ⟨rfl, rfl⟩)
  have HQ2 := hide (show v1D d b = 0 → checkD d = 0 ∧ checkBa b = 0 by
    unfold v1D
    by_cases h : checkD d = 0
    · rw [if_pos h]; exact fun h2 => ⟨h, h2⟩
    · rw [if_neg h]; exact fun h2 => absurd h2 h)
  have HQ3 := hide (show x1D d keep = 0 → checkD d = 0 ∧ 0 ≤ keep ∧ cutD d keep = (ansD (crashD d keep)).1 by
    unfold x1D crashD
    by_cases h : checkD d = 0
    · by_cases hk : keep < 0
      · simp [h, hk]
      · simp [h, hk, ansD]; omega
    · simp [h])
  have HQ4 := hide (show checkD d = 0 → (openD d).synced = (wholeS (lastS d.segs)).length ∧ wXD d = (if (wholeS (lastS d.segs)).length < (lastS d.segs).length then 4 else 0) ∧ yDD d = ⟨d.segs, (lastS d.segs).length⟩ from fun h => by
    unfold wXD yDD tornD openD; rw [if_pos h, if_pos h]; exact ⟨rfl, by simp only [decide_eq_true_eq], rfl⟩)
  have HQ5 := hide (show checkD d ≠ 0 → wXD d = checkD d ∧ yDD d = disk0 ∧ (opnA d).1 = [] ∧ (opnA d).2.1 = disk0 from fun h => by unfold wXD yDD opnA; simp [h])
  have HV1 := hide (show v1D d b = if checkD d = 0 then checkBa b else checkD d from rfl)
  have HX1 := hide (show x1D d keep = if checkD d = 0 ∧ keep < 0 then 3 else checkD d from rfl)
  have HVX := hide (show vXD d b = if v1D d b = 0 then (ansD (appendD d b)).2 else v1D d b from rfl)
  have HMD := hide (show mDD d b = if v1D d b = 0 then (ansD (appendD d b)).1 else disk0 from rfl)
  have HKD := hide (show kDD d keep = if x1D d keep = 0 then (ansD (crashD d keep)).1 else disk0 from rfl)
  have HC1 := hide (fun wx v (hs : StSl (fun _ => True) wx v d.segs) => (dOpen_any _ wx v d hs).mono (fun r w' h => h.one (show opnA d = ((opnA d).1, (opnA d).2.1, (opnA d).2.2) from rfl)))
  have HC2 := hide (fun wx v u (hs : StSl (fun _ => True) wx v d.segs) (he : EvSl (fun _ => True) wx u b.events) => (dAppend_any _ _ wx v u d b hs he).mono (fun r w' h => h.one (show ansD (appendD d b) = ((ansD (appendD d b)).1, (ansD (appendD d b)).2) from rfl)))
  have HC3 := hide (fun wx v (hs : StSl (fun _ => True) wx v d.segs) => (dSync_any _ wx v d hs).mono (fun r w' h => h.one (show ansD (syncD d) = ((ansD (syncD d)).1, (ansD (syncD d)).2) from rfl)))
  have HC4 := hide (fun wx v (hs : StSl (fun _ => True) wx v d.segs) => (dCrash_any _ wx v d keep hk63 hs).mono (fun r w' h => h.one (show ansD (crashD d keep) = ((ansD (crashD d keep)).1, (ansD (crashD d keep)).2) from rfl)))
  have HR2 := hide (fun wx v u (hs : StSl (fun _ => True) wx v d.segs) (he : EvSl (fun _ => True) wx u b.events) (h1 : checkD d = 0) (h2 : checkBa b = 0) => rApp_one _ _ wx v u d b hs he h1 h2 (show ansD (appendD d b) = ((ansD (appendD d b)).1, (ansD (appendD d b)).2) from rfl))
  generalize (opnA d).1 = oB at *
  generalize (opnA d).2.1 = oD at *
  generalize (opnA d).2.2 = eO at *
  generalize (ansD (appendD d b)).1 = aD at *
  generalize (ansD (appendD d b)).2 = eA at *
  generalize (ansD (syncD d)).1 = sD at *
  generalize (ansD (syncD d)).2 = eS at *
  generalize (ansD (crashD d keep)).1 = cD at *
  generalize (ansD (crashD d keep)).2 = eC at *
  generalize v1D d b = v1 at *
  generalize x1D d keep = x1 at *
  generalize wXD d = wX at *
  generalize yDD d = yD at *
  generalize vXD d b = vX at *
  generalize mDD d b = mD at *
  generalize kDD d keep = kD at *
  have HCD := hide (fun wx v (hs : StSl (fun _ => True) wx v d.segs) => rCheckDisk_any _ wx v d hs)
  have HCB := hide (fun wx v (hs : EvSl (fun _ => True) wx v b.events) => rCheckBatch_any _ b v wx hs)
  have HCK := hide (fun wx v (hs : StSl (fun _ => True) wx v d.segs) => dCheck_any _ wx v d hs)
  have HZ := hide (show b3 < W0.heap.size ∧ b4 < W0.heap.size ∧ w.heap.size ≤ b3 ∧ b3 < b4 by rw [hW0, hb3, hb4]; simp; omega)
  go_enter Try.func4, Try.ntmps4
  clear HG3 HG4
  obtain ⟨c0, c1, hs⟩ := H3.out _ (Kept.refl _ W0)
  have HC := hide (HC1.out W0 _ hs)
  clear hs HC1
  go_wp2_with fail
  rw [← hW0, ← hb4, ← hb3]
  clear hW0 hb4 hb3
  refine HC.out.mono ?_
  rintro r w1 ⟨ab8, cb8, a8, c8, rfl, hB, hS, hK⟩
  clear c0 c1 HC
  obtain ⟨W1, hW1⟩ : ∃ W1, W1 = w1.alloc (.cells #[.slice a8 oD.segs.length c8, .int .i64 oD.synced] 38) := ⟨_, rfl⟩
  obtain ⟨b8, hb8⟩ : ∃ b8, b8 = w1.heap.size := ⟨_, rfl⟩
  have HX8 := hide (show BX W1 b8 oD by rw [hW1, hb8]; exact BX.new hS)
  have HBA := hide (show BaSl (fun _ => True) W1 (.slice ab8 oB.length cb8) oB by rw [hW1]; exact hB.same ((Kept.refl _ w1).alloc _))
  have HK1 := hide (show Same W0 W1 by rw [hW1]; exact hK.alloc _)
  clear hB hS hK
  obtain ⟨c0, c1, hs⟩ := H3.out _ HK1.out
  obtain ⟨d0, d1, he⟩ := H4.out _ HK1.out
  have HC := hide (HC2.out _ _ _ hs he)
  clear hs he HC2
  rw [hW1] at c0 c1 d0 d1
  go_wp2_with fail
  rw [← hW1, ← hb8]
  clear hW1 hb8
  refine HC.out.mono ?_
  rintro r w2 ⟨a10, c10, rfl, hS, hK⟩
  clear c0 c1 d0 d1 HC
  obtain ⟨W2, hW2⟩ : ∃ W2, W2 = w2.alloc (.cells #[.slice a10 aD.segs.length c10, .int .i64 aD.synced] 38) := ⟨_, rfl⟩
  obtain ⟨b10, hb10⟩ : ∃ b10, b10 = w2.heap.size := ⟨_, rfl⟩
  have HX10 := hide (show BX W2 b10 aD by rw [hW2, hb10]; exact BX.new hS)
  have hKK : Same W1 W2 := by rw [hW2]; exact hK.alloc _
  have HX8 := hide (HX8.out.same hKK)
  have HBA := hide (HBA.out.same hKK)
  have HK2 := hide (trs HK1.out hKK)
  clear hS hK hKK HK1
  obtain ⟨c0, c1, hs⟩ := H3.out _ HK2.out
  have HC := hide (HC3.out _ _ hs)
  clear hs HC3
  rw [hW2] at c0 c1
  go_wp2_with fail
  rw [← hW2, ← hb10]
  clear hW2 hb10
  refine HC.out.mono ?_
  rintro r w3 ⟨a12, c12, rfl, hS, hK⟩
  clear c0 c1 HC
  obtain ⟨W3, hW3⟩ : ∃ W3, W3 = w3.alloc (.cells #[.slice a12 sD.segs.length c12, .int .i64 sD.synced] 38) := ⟨_, rfl⟩
  obtain ⟨b12, hb12⟩ : ∃ b12, b12 = w3.heap.size := ⟨_, rfl⟩
  have HX12 := hide (show BX W3 b12 sD by rw [hW3, hb12]; exact BX.new hS)
  have hKK : Same W2 W3 := by rw [hW3]; exact hK.alloc _
  have HX8 := hide (HX8.out.same hKK)
  have HX10 := hide (HX10.out.same hKK)
  have HBA := hide (HBA.out.same hKK)
  have HK3 := hide (trs HK2.out hKK)
  clear hS hK hKK HK2
  obtain ⟨c0, c1, hs⟩ := H3.out _ HK3.out
  have HC := hide (HC4.out _ _ hs)
  clear hs HC4
  rw [hW3] at c0 c1
  go_wp2_with fail
  rw [← hW3, ← hb12]
  clear hW3 hb12
  refine HC.out.mono ?_
  rintro r w4 ⟨a14, c14, rfl, hS, hK⟩
  clear c0 c1 HC
  obtain ⟨W4, hW4⟩ : ∃ W4, W4 = w4.alloc (.cells #[.slice a14 cD.segs.length c14, .int .i64 cD.synced] 38) := ⟨_, rfl⟩
  obtain ⟨b14, hb14⟩ : ∃ b14, b14 = w4.heap.size := ⟨_, rfl⟩
  have HX14 := hide (show BX W4 b14 cD by rw [hW4, hb14]; exact BX.new hS)
  have hKK : Same W3 W4 := by rw [hW4]; exact hK.alloc _
  have HX8 := hide (HX8.out.same hKK)
  have HX10 := hide (HX10.out.same hKK)
  have HX12 := hide (HX12.out.same hKK)
  have HBA := hide (HBA.out.same hKK)
  have HK4 := hide (trs HK3.out hKK)
  clear hS hK hKK HK3
  obtain ⟨c0, c1, hs⟩ := H3.out _ HK4.out
  have HC := hide (HCD.out _ _ hs)
  clear hs HCD
  rw [hW4] at c0 c1
  go_wp2_with fail
  rw [← hW4, ← hb14]
  clear hW4 hb14
  refine HC.out.mono ?_
  rintro r w5 ⟨rfl, hK⟩
  clear c0 c1 HC
  have HX8 := hide (HX8.out.same hK)
  have HX10 := hide (HX10.out.same hK)
  have HX12 := hide (HX12.out.same hK)
  have HX14 := hide (HX14.out.same hK)
  have HBA := hide (HBA.out.same hK)
  have HK5 := hide (trs HK4.out hK)
  clear hK HK4
  obtain ⟨u, hu⟩ : ∃ u, checkD d = u := ⟨_, rfl⟩
  rw [hu] at HP1 HQ1 HQ2 HQ3 HQ4 HQ5 HV1 HX1 HCK HR2
  rw [hu]
  have HU := hide hu
  clear hu
  go_upto_if 54 with fail
  go_cut [17] (fun vv wx => vv = .int .i64 v1 ∧ Hid (Same w5 wx))
  case first =>
    by_cases h0 : u = 0
    · have hu' : (u == 0) = true := by simp [h0]
      have HE := hide (show v1 = checkBa b by rw [HV1.out, if_pos h0])
      obtain ⟨d0, d1, he⟩ := H4.out _ HK5.out
      have HC := hide (HCB.out _ _ he)
      clear h0 he
      go_wp2_with fail
      refine HC.out.mono ?_
      rintro r w6 ⟨rfl, hK⟩
      go_wp2_with fail
      go_meet
      case rel => exact ⟨by rw [HE.out], hK⟩
    · have hu' : (u == 0) = false := by simp [h0]
      have HE := hide (show v1 = u by rw [HV1.out, if_neg h0])
      clear h0
      go_wp2_with fail
      go_meet
      case rel => exact ⟨by rw [HE.out], Kept.refl _ _⟩
  case rest =>
  obtain ⟨rfl, hK⟩ := hcut
  have HX8 := hide (HX8.out.same hK)
  have HX10 := hide (HX10.out.same hK)
  have HX12 := hide (HX12.out.same hK)
  have HX14 := hide (HX14.out.same hK)
  have HBA := hide (HBA.out.same hK)
  have HK6 := hide (trs HK5.out hK)
  clear hK HK5 HCB
  go_upto_region 9 with fail
  go_cut [62] (fun v wx => v = .bool (decide (u = 0 ∧ keep < 0)) ∧ wx = wc)
  case first =>
    by_cases h0 : u = 0
    · subst h0
      by_cases h1 : keep < 0
      · go_wp2_with fail
        go_meet
        case rel => exact ⟨by simp [h1], rfl⟩
      · go_wp2_with fail
        go_meet
        case rel => exact ⟨by simp [h1], rfl⟩
    · have hu' : (u == 0) = false := by simp [h0]
      have HE := hide (show decide (u = 0 ∧ keep < 0) = false by simp [h0])
      clear h0
      go_wp2_with fail
      go_meet
      case rel => exact ⟨by rw [HE.out], rfl⟩
  case rest =>
  obtain ⟨hv62, rfl⟩ := hcut
  subst hv62
  obtain ⟨q62, hq62⟩ : ∃ q, decide (u = 0 ∧ keep < 0) = q := ⟨_, rfl⟩
  rw [hq62]
  have HXE := hide (show x1 = if q62 = true then 3 else u by rw [HX1.out, ← hq62]; simp)
  clear hq62
  go_upto_if 62 with fail
  go_cut [19] (fun v wx => v = .int .i64 x1 ∧ wx = wc)
  case first =>
    cases q62
    · have HE := hide (show x1 = u by rw [HXE.out]; rfl)
      go_wp2_with fail
      go_meet
      case rel => exact ⟨by rw [HE.out], rfl⟩
    · have HE := hide (show x1 = 3 by rw [HXE.out]; rfl)
      go_wp2_with fail
      go_meet
      case rel => exact ⟨by rw [HE.out], rfl⟩
  case rest =>
  obtain ⟨hv19, rfl⟩ := hcut
  subst hv19
  clear HXE
  obtain ⟨WJ, hWJ⟩ : ∃ WJ, WJ = wc := ⟨_, rfl⟩
  subst hWJ
  obtain ⟨W7, hW7⟩ : ∃ W7, W7 = (((WJ.alloc (.cells #[.slice none 0 0, .int .i64 0] 38)).alloc (.cells #[.slice none 0 0, .int .i64 0] 38)).alloc (.cells #[.slice none 0 0, .int .i64 0] 38)).alloc (.cells #[.slice none 0 0, .int .i64 0] 38) := ⟨_, rfl⟩
  obtain ⟨b21, hb21⟩ : ∃ x, x = WJ.heap.size := ⟨_, rfl⟩
  obtain ⟨b22, hb22⟩ : ∃ x, x = WJ.heap.size + 1 := ⟨_, rfl⟩
  obtain ⟨b23, hb23⟩ : ∃ x, x = WJ.heap.size + 1 + 1 := ⟨_, rfl⟩
  obtain ⟨b24, hb24⟩ : ∃ x, x = WJ.heap.size + 1 + 1 + 1 := ⟨_, rfl⟩
  have HDV := hide (show DLV W7 b21 b22 b23 b24 disk0 disk0 disk0 disk0 by
    rw [hW7, hb21, hb22, hb23, hb24]
    exact dlv_new WJ)
  have hK7 : Same WJ W7 := by rw [hW7]; exact ((((Kept.refl _ WJ).alloc _).alloc _).alloc _).alloc _
  have HXX8 := HX8
  have HXX10 := HX10
  have HXX12 := HX12
  have HXX14 := HX14
  have HBB := HBA
  have HBA := hide (HBA.out.same hK7)
  have HK7 := hide (trs HK6.out hK7)
  have HBS := hide (show WJ.heap.size ≤ b21 ∧ b21 < b22 ∧ b22 < b23 ∧ b23 < b24 ∧ W0.heap.size ≤ b21 ∧ w.heap.size ≤ b21 by
    have h1 := HK6.out.size
    have h2 := HKW.out.size
    rw [hb21, hb22, hb23, hb24]; omega)
  have HJ8 := hide (show ∀ wy, Same WJ wy → BX wy b8 oD ∧ BX wy b10 aD ∧ BX wy b12 sD ∧ BX wy b14 cD ∧ BaSl (fun _ => True) wy (.slice ab8 oB.length cb8) oB ∧ Same W0 wy from fun wy hy => ⟨HXX8.out.same hy, HXX10.out.same hy, HXX12.out.same hy, HXX14.out.same hy, HBB.out.same hy, trs HK6.out hy⟩)
  have HS7 := hide hK7
  clear hK7 HX8 HX10 HX12 HX14 HBA HK7 HXX8 HXX10 HXX12 HXX14 HBB
  go_upto_if 64 with fail
  rw [← hW7, ← hb24, ← hb23, ← hb22, ← hb21]
  clear hW7 hb21 hb22 hb23 hb24
  have HLO := hide (fun wy (hy : Same W0 wy) => lastOf_any _ wy _ d.synced d.segs (H3.out wy hy).2.2)
  go_cut [18, 20] (fun wv bv wx => ∃ ab cb, wv = .int .i64 wX ∧ bv = .slice ab oB.length cb ∧ Hid (Same WJ wx) ∧ Hid (DLV wx b21 b22 b23 b24 oD disk0 yD disk0) ∧ Hid (BaSl (fun _ => True) wx (.slice ab oB.length cb) oB))
  case first =>
    by_cases h0 : u = 0
    · have hu' : (u == 0) = true := by simp [h0]
      have hcd : checkD d = 0 := by rw [HU.out, h0]
      obtain ⟨q1, q2⟩ := HQ1.out h0
      obtain ⟨q3, q4, q5⟩ := HQ4.out h0
      have HU0 := hide h0
      have HQW := hide q4
      have HQY := hide q5
      have HQO := hide (show oD.synced = (wholeS (lastS d.segs)).length by rw [← q2]; exact q3)
      obtain ⟨c0, c1, hs⟩ := H3.out _ (HJ8.out _ HS7.out).2.2.2.2.2
      have HC := hide (rOpen_one _ W7 _ d hs hcd q1 q2)
      clear h0 hs hcd q1 q2 q3 q4 q5
      go_wp2_with fail
      refine HC.out.mono ?_
      clear HC
      rintro r w8 ⟨abx, cbx, ax, cx, rfl, hB, hS, hK⟩
      have HV8 := hide (HDV.out.to hK)
      obtain ⟨_, _, y0, y1, _⟩ := HV8.out.x1.cells
      have y2 := HV8.out.x1.fro
      obtain ⟨hX9, hK9⟩ := BX.set HV8.out.x1 hS
      obtain ⟨w9, hw9⟩ : ∃ w9, w9 = (w8.setCell ⟨b21, 0, none⟩ (.slice ax oD.segs.length cx)).setCell ⟨b21, 1, none⟩ (.int .i64 oD.synced) := ⟨_, rfl⟩
      rw [← hw9] at hX9 hK9
      have HV9 := hide (HV8.out.set1 hK9 hX9)
      have HB9 := hide (hB.bx HV8.out.x1 hK9)
      have HS9 := hide (show Same WJ w9 from (trs HS7.out hK).trans hK9 (fun i hi e => by have := HBS.out; omega))
      have HK9 := hide (HJ8.out _ HS9.out).2.2.2.2.2
      obtain ⟨c0', c1', _⟩ := H3.out _ HK9.out
      obtain ⟨_, _, e0, e1, _⟩ := HV9.out.x3.cells
      have e2 := HV9.out.x3.fro
      clear hB hS hK hX9 hK9
      go_upto_region 15 with fail
      rw [← hw9]
      clear hw9 y0 y1 y2 c0 c1
      have HC3' := hide (fun wy (hy : Same w9 wy) => (⟨hy.cell c0' (fun f => f), hy.cell c1' (fun f => f)⟩ : wy.cell? ⟨b3, 0, none⟩ = some (.slice a3 d.segs.length c3) ∧ wy.cell? ⟨b3, 1, none⟩ = some (.int .i64 d.synced)))
      have hne23 : b23 ≠ b3 := by have := HBS.out; have := HZ.out; omega
      have hne23' : b3 ≠ b23 := fun e => hne23 e.symm
      have hzl := bsize (lastS d.segs)
      have hKc : Same w9 w9 := Kept.refl _ _
      go_region_held3 (fun w' => w'.cell? ⟨b3, 0, none⟩ = some (.slice a3 d.segs.length c3) ∧ w'.cell? ⟨b3, 1, none⟩ = some (.int .i64 d.synced)) (go_keep)
        ((go_at_call 22; refine (HLO.out _ (trs HK9.out (by first | exact hKc.drewN _ | exact hKc.drew | exact hKc))).mono ?_; rintro e wq ⟨rfl, hKq⟩; have hKc := trs (by first | exact hKc.drewN _ | exact hKc.drew | exact hKc) hKq; obtain ⟨c0', c1'⟩ := HC3'.out _ hKc; obtain ⟨_, _, e0, e1, _⟩ := (HV9.out.to hKc).x3.cells; have e2 := (HV9.out.to hKc).x3.fro))
      obtain ⟨hX10, hK10⟩ := BX.set (d := ⟨d.segs, (lastS d.segs).length⟩) (HV9.out.to hKc).x3 (H3.out _ (trs HK9.out hKc)).2.2
      obtain ⟨w10, hw10⟩ : ∃ w10, w10 = (wq.setCell ⟨b23, 0, none⟩ (.slice a3 d.segs.length c3)).setCell ⟨b23, 1, none⟩ (.int .i64 (lastS d.segs).length) := ⟨_, rfl⟩
      simp only [← hw10] at hX10 hK10
      have HVA := hide (show DLV w10 b21 b22 b23 b24 oD disk0 yD disk0 by rw [HQY.out]; exact (HV9.out.to hKc).set3 hK10 hX10)
      have HBA := hide ((HB9.out.same hKc).bx (HV9.out.to hKc).x3 hK10)
      have HSA := hide (show Same WJ w10 from (trs HS9.out hKc).trans hK10 (fun i hi e => by have := HBS.out; omega))
      have hnl : (oD.synced < ((lastS d.segs).length : Int)) ↔ (wholeS (lastS d.segs)).length < (lastS d.segs).length := by rw [HQO.out]; omega
      rw [← hw10]
      clear e0 e1 e2 hX10 hK10 hKq hw10 c0' c1'
      obtain ⟨_, _, _, e1, _⟩ := HVA.out.x1.cells
      have e3 : w10.cell? ⟨b23, 1, none⟩ = some (.int .i64 (lastS d.segs).length) := by obtain ⟨_, _, _, e3, _⟩ := HVA.out.x3.cells; rw [HQY.out] at e3; exact e3
      by_cases hlt : oD.synced < ((lastS d.segs).length : Int)
      · have HE := hide (show wX = 4 by rw [HQW.out, if_pos (hnl.1 hlt)])
        clear hnl
        go_wp2_with fail
        go_meet
        case rel => exact ⟨abx, cbx, by rw [HE.out], rfl, HSA.out, HVA.out, HBA.out⟩
      · have HE := hide (show wX = u by rw [HQW.out, if_neg (fun h => hlt (hnl.2 h)), HU0.out])
        clear hnl
        go_wp2_with fail
        go_meet
        case rel => exact ⟨abx, cbx, by rw [HE.out], rfl, HSA.out, HVA.out, HBA.out⟩
    · have hu' : (u == 0) = false := by simp [h0]
      obtain ⟨q1, q2, q3, q4⟩ := HQ5.out h0
      have HE := hide q1
      have HREL := hide (show ∃ ab cb, Value.slice none 0 0 = Value.slice ab oB.length cb ∧ DLV W7 b21 b22 b23 b24 oD disk0 yD disk0 ∧ BaSl (fun _ => True) W7 (.slice ab oB.length cb) oB by
        rw [q2, q3, q4]
        exact ⟨none, 0, rfl, HDV.out, BaSl.nil _ _⟩)
      clear h0 q1 q2 q3 q4
      go_wp2_with fail
      go_meet
      case rel =>
        obtain ⟨ab, cb, r1, r2, r3⟩ := HREL.out
        exact ⟨ab, cb, by rw [HE.out], r1, HS7.out, r2, r3⟩
  case rest =>
  obtain ⟨abx, cbx, rfl, rfl, HS8, HV8, HB8⟩ := hcut
  go_upto_if 82 with fail
  go_cut [17] (fun vv wx => vv = .int .i64 vX ∧ Hid (Same WJ wx) ∧ Hid (DLV wx b21 b22 b23 b24 oD mD yD disk0) ∧ Hid (BaSl (fun _ => True) wx (.slice abx oB.length cbx) oB))
  case first =>
    by_cases h0 : v1 = 0
    · have hu' : (v1 == 0) = true := by simp [h0]
      obtain ⟨q1, q2⟩ := HQ2.out h0
      have HE := hide (show vX = eA by rw [HVX.out, if_pos h0])
      have HM := hide (show mD = aD by rw [HMD.out, if_pos h0])
      have hSx := (HJ8.out _ HS8.out).2.2.2.2.2
      obtain ⟨c0, c1, hs⟩ := H3.out _ hSx
      obtain ⟨d0, d1, he⟩ := H4.out _ hSx
      have HC := hide (HR2.out _ _ _ hs he q1 q2)
      clear h0 q1 q2 hs he hSx
      go_wp2_with fail
      refine HC.out.mono ?_
      clear HC
      rintro r w9 ⟨ax, cx, rfl, hS, hK⟩
      have HV9 := hide (HV8.out.to hK)
      obtain ⟨_, _, y0, y1, _⟩ := HV9.out.x2.cells
      have y2 := HV9.out.x2.fro
      obtain ⟨hX9, hK9⟩ := BX.set HV9.out.x2 hS
      have HRE := hide (show Same WJ ((w9.setCell ⟨b22, 0, none⟩ (.slice ax aD.segs.length cx)).setCell ⟨b22, 1, none⟩ (.int .i64 aD.synced)) ∧ DLV ((w9.setCell ⟨b22, 0, none⟩ (.slice ax aD.segs.length cx)).setCell ⟨b22, 1, none⟩ (.int .i64 aD.synced)) b21 b22 b23 b24 oD mD yD disk0 ∧ BaSl (fun _ => True) ((w9.setCell ⟨b22, 0, none⟩ (.slice ax aD.segs.length cx)).setCell ⟨b22, 1, none⟩ (.int .i64 aD.synced)) (.slice abx oB.length cbx) oB from
        ⟨(trs HS8.out hK).trans hK9 (fun i hi e => by have := HBS.out; omega), by rw [HM.out]; exact HV9.out.set2 hK9 hX9, (HB8.out.same hK).bx HV9.out.x2 hK9⟩)
      clear hX9 hK9 hK hS c0 c1 d0 d1
      go_wp2_with fail
      go_meet
      case rel => exact ⟨by rw [HE.out], HRE.out⟩
    · have hu' : (v1 == 0) = false := by simp [h0]
      have HE := hide (show vX = v1 by rw [HVX.out, if_neg h0])
      have HM := hide (show mD = disk0 by rw [HMD.out, if_neg h0])
      clear h0
      go_wp2_with fail
      go_meet
      case rel => exact ⟨by rw [HE.out], HS8.out, by rw [HM.out]; exact HV8.out, HB8.out⟩
  case rest =>
  clear HS8 HV8 HB8
  obtain ⟨rfl, HS8, HV8, HB8⟩ := hcut
  go_upto_if 90 with fail
  go_cut [] (fun wx => Hid (Same WJ wx) ∧ Hid (DLV wx b21 b22 b23 b24 oD mD yD kD) ∧ Hid (BaSl (fun _ => True) wx (.slice abx oB.length cbx) oB))
  case first =>
    by_cases h0 : x1 = 0
    · have hu' : (x1 == 0) = true := by simp [h0]
      obtain ⟨q1, q2, q3⟩ := HQ3.out h0
      have HM := hide (show kD = cD by rw [HKD.out, if_pos h0])
      have hSx := (HJ8.out _ HS8.out).2.2.2.2.2
      obtain ⟨c0, c1, hs⟩ := H3.out _ hSx
      have HC := hide (rCrash_one _ _ _ d keep hs (by rw [HU.out]; exact q1) q2 q3)
      clear h0 q1 q2 q3 hs hSx
      go_wp2_with fail
      refine HC.out.mono ?_
      clear HC
      rintro r w9 ⟨ax, cx, rfl, hS, hK⟩
      have HV9 := hide (HV8.out.to hK)
      obtain ⟨_, _, y0, y1, _⟩ := HV9.out.x4.cells
      have y2 := HV9.out.x4.fro
      obtain ⟨hX9, hK9⟩ := BX.set HV9.out.x4 hS
      have HRE := hide (show Same WJ ((w9.setCell ⟨b24, 0, none⟩ (.slice ax cD.segs.length cx)).setCell ⟨b24, 1, none⟩ (.int .i64 cD.synced)) ∧ DLV ((w9.setCell ⟨b24, 0, none⟩ (.slice ax cD.segs.length cx)).setCell ⟨b24, 1, none⟩ (.int .i64 cD.synced)) b21 b22 b23 b24 oD mD yD kD ∧ BaSl (fun _ => True) ((w9.setCell ⟨b24, 0, none⟩ (.slice ax cD.segs.length cx)).setCell ⟨b24, 1, none⟩ (.int .i64 cD.synced)) (.slice abx oB.length cbx) oB from
        ⟨(trs HS8.out hK).trans hK9 (fun i hi e => by have := HBS.out; omega), by rw [HM.out]; exact HV9.out.set4 hK9 hX9, (HB8.out.same hK).bx HV9.out.x4 hK9⟩)
      clear hX9 hK9 hK hS c0 c1
      go_wp2_with fail
      go_meet
      case rel => exact HRE.out
    · have hu' : (x1 == 0) = false := by simp [h0]
      have HM := hide (show kD = disk0 by rw [HKD.out, if_neg h0])
      clear h0
      go_wp2_with fail
      go_meet
      case rel => exact ⟨HS8.out, by rw [HM.out]; exact HV8.out, HB8.out⟩
  case rest =>
  clear HS8 HV8 HB8
  obtain ⟨HS8, HV8, HB8⟩ := hcut
  go_wp2_with fail
  refine (HBG.out _).mono ?_
  rintro r w11 ⟨rfl, hK⟩
  have HS11 := hide (trs HS8.out hK)
  have HV11 := hide (HV8.out.to hK)
  have HB11 := hide (HB8.out.same hK)
  clear hK HS8 HV8 HB8
  obtain ⟨c0, c1, hs⟩ := H3.out _ (HJ8.out _ HS11.out).2.2.2.2.2
  have HC := hide (HCK.out _ _ hs)
  clear hs
  go_wp2_with fail
  refine HC.out.mono ?_
  clear HC c0 c1
  rintro r w12 ⟨rfl, hK⟩
  have HS12 := hide (trs HS11.out hK)
  have HV12 := hide (HV11.out.to hK)
  have HB12 := hide (HB11.out.same hK)
  clear hK HS11 HV11 HB11
  have hEO : eO = u := HP1.out.1
  subst hEO
  have HC := hide (sb_one _ _ w12 _ _ oB (HJ8.out _ HS12.out).2.2.2.2.1 HB12.out)
  go_wp2_with fail
  refine HC.out.mono ?_
  clear HC
  rintro r w13 ⟨rfl, hK⟩
  have HS13 := hide (trs HS12.out hK)
  have HV13 := hide (HV12.out.to hK)
  clear hK HS12 HV12 HB12
  obtain ⟨g0, gc0, u0, u1, hsa⟩ := (HJ8.out _ HS13.out).1.cells
  obtain ⟨g1, gc1, u2, u3, hsb⟩ := HV13.out.x1.cells
  have HC := hide (is_one _ _ w13 _ _ oD oD eO eO (hsa _ (Kept.refl _ _)).1 (hsb _ (Kept.refl _ _)).1 ⟨rfl, HP1.out.2⟩)
  clear hsa hsb
  go_wp2_with fail
  refine HC.out.mono ?_
  clear HC u0 u1 u2 u3
  rintro r w14 ⟨rfl, hK⟩
  have HS14 := hide (trs HS13.out hK)
  have HV14 := hide (HV13.out.to hK)
  clear hK HS13 HV13
  obtain ⟨g0, gc0, u0, u1, hsa⟩ := (HJ8.out _ HS14.out).2.1.cells
  obtain ⟨g1, gc1, u2, u3, hsb⟩ := HV14.out.x2.cells
  have HC := hide (is_one _ _ w14 _ _ aD mD eA vX (hsa _ (Kept.refl _ _)).1 (hsb _ (Kept.refl _ _)).1 HP2.out)
  clear hsa hsb
  go_wp2_with fail
  refine HC.out.mono ?_
  clear HC u0 u1 u2 u3
  rintro r w15 ⟨rfl, hK⟩
  have HS15 := hide (trs HS14.out hK)
  have HV15 := hide (HV14.out.to hK)
  clear hK HS14 HV14
  obtain ⟨g0, gc0, u0, u1, hsa⟩ := (HJ8.out _ HS15.out).2.2.1.cells
  obtain ⟨g1, gc1, u2, u3, hsb⟩ := HV15.out.x3.cells
  have HC := hide (is_one _ _ w15 _ _ sD yD eS wX (hsa _ (Kept.refl _ _)).1 (hsb _ (Kept.refl _ _)).1 HP3.out)
  clear hsa hsb
  go_wp2_with fail
  refine HC.out.mono ?_
  clear HC u0 u1 u2 u3
  rintro r w16 ⟨rfl, hK⟩
  have HS16 := hide (trs HS15.out hK)
  have HV16 := hide (HV15.out.to hK)
  clear hK HS15 HV15
  obtain ⟨g0, gc0, u0, u1, hsa⟩ := (HJ8.out _ HS16.out).2.2.2.1.cells
  obtain ⟨g1, gc1, u2, u3, hsb⟩ := HV16.out.x4.cells
  have HC := hide (is_one _ _ w16 _ _ cD kD eC x1 (hsa _ (Kept.refl _ _)).1 (hsb _ (Kept.refl _ _)).1 HP4.out)
  clear hsa hsb
  go_wp2_with fail
  refine HC.out.mono ?_
  clear HC u0 u1 u2 u3
  rintro r w17 ⟨rfl, hK⟩
  have HS17 := hide (trs HS16.out hK)
  have HV17 := hide (HV16.out.to hK)
  clear hK HS16 HV16
  go_wp2_with fail
  go_ret
  exact ⟨rfl, trs HKW.out (HJ8.out _ HS17.out).2.2.2.2.2⟩

end Go.Proofs.Ytillhpepfpldcaa
