/- valid's offers: wrongArg, hasThings, taken. -/
import Derived.Test.YtkkjchfhgjfclacValidtellsupto07
import Derived.Test.YtkkjchfhgjfclacValidtellsupto11
import Derived.Test.YtkkjchfhgjfclacValidtellsupto13
import Derived.Test.YtkkjchfhgjfclacValidtellsupto14
import Derived.Deep.RegionHeld3
namespace Go.Proofs.Ytkkjchfhgjfclac
open Go.RowKit

/-- a field, an offer, an argument as values -/
abbrev fdV (f : FieldT) : Value := .agg #[.string ⟨f.name.toArray⟩, .int .i64 f.kind, .string ⟨f.of.toArray⟩]
abbrev ofV (af : Option Addr) (nf cf : Nat) (o : OfferT) : Value := .agg #[.slice af nf cf, .string ⟨o.arg.toArray⟩, .int .i64 o.low, .int .i64 o.high]
abbrev agV (a : ArgT) : Value := .agg #[.string ⟨a.name.toArray⟩, .bool a.isText, .string ⟨a.text.toArray⟩, .int .i64 a.n]

set_option maxHeartbeats 1600000 in
theorem wrongArg_is (w : World) (o : OfferT) (af : Option Addr) (nf cf : Nat) (f : FieldT) (a : ArgT) (m : Int) (hm : wrongAg o f a = m) :
    Calls Try.prog 62 #[ofV af nf cf o, fdV f, agV a] w fun e w' => e = .returned (.int .i64 m) ∧ Same w w' := by
  obtain ⟨fl, oa, lo, hi⟩ := o
  obtain ⟨fn, fk, fo⟩ := f
  obtain ⟨an, at', ax, n⟩ := a
  simp only [wrongAg] at hm
  by_cases h1 : an = oa
  · subst h1
    by_cases h2 : fk = 4
    · subst h2
      cases at'
      · by_cases h3 : n < lo
        · have HF := hide (show 3 = m by rw [← hm, if_neg (by simp), if_neg (by simp), if_pos (.inl h3)])
          clear hm
          go_enter Try.func62, Try.ntmps62
          go_wp2_with fail
          go_ret
          exact ⟨ret_int HF.out, (by repeat' (first | assumption | exact Kept.refl _ _ | refine Kept.drewN ?_ _ | refine Kept.drew ?_ | refine Kept.alloc ?_ _ | refine Kept.setB ?_ _ _))⟩
        · by_cases h4 : hi < n
          · have HF := hide (show 3 = m by rw [← hm, if_neg (by simp), if_neg (by simp), if_pos (.inr h4)])
            clear hm
            go_enter Try.func62, Try.ntmps62
            go_wp2_with fail
            go_ret
            exact ⟨ret_int HF.out, (by repeat' (first | assumption | exact Kept.refl _ _ | refine Kept.drewN ?_ _ | refine Kept.drew ?_ | refine Kept.alloc ?_ _ | refine Kept.setB ?_ _ _))⟩
          · have HF := hide (show 0 = m by rw [← hm, if_neg (by simp), if_neg (by simp), if_neg (by omega)])
            clear hm
            go_enter Try.func62, Try.ntmps62
            go_wp2_with fail
            go_ret
            exact ⟨ret_int HF.out, (by repeat' (first | assumption | exact Kept.refl _ _ | refine Kept.drewN ?_ _ | refine Kept.drew ?_ | refine Kept.alloc ?_ _ | refine Kept.setB ?_ _ _))⟩
      · have HF := hide (show 7 = m by rw [← hm, if_neg (by simp), if_pos rfl])
        clear hm
        go_enter Try.func62, Try.ntmps62
        go_wp2_with fail
        go_ret
        exact ⟨ret_int HF.out, (by repeat' (first | assumption | exact Kept.refl _ _ | refine Kept.drewN ?_ _ | refine Kept.drew ?_ | refine Kept.alloc ?_ _ | refine Kept.setB ?_ _ _))⟩
    · have HF := hide (show 5 = m by rw [← hm, if_pos (.inr h2)])
      have h2b : (fk != 4) = true := by simp [h2]
      clear hm h2
      go_enter Try.func62, Try.ntmps62
      go_wp2_with fail
      go_ret
      exact ⟨ret_int HF.out, (by repeat' (first | assumption | exact Kept.refl _ _ | refine Kept.drewN ?_ _ | refine Kept.drew ?_ | refine Kept.alloc ?_ _ | refine Kept.setB ?_ _ _))⟩
  · have HF := hide (show 5 = m by rw [← hm, if_pos (.inl h1)])
    have h1b : (an == oa) = false := by simp [h1]
    clear hm h1
    go_enter Try.func62, Try.ntmps62
    go_wp2_with fail
    go_ret
    exact ⟨ret_int HF.out, (by repeat' (first | assumption | exact Kept.refl _ _ | refine Kept.drewN ?_ _ | refine Kept.drew ?_ | refine Kept.alloc ?_ _ | refine Kept.setB ?_ _ _))⟩

theorem hasThings_is (w : World) (f : FieldT) (q : Bool) (hq : hasThg f = q) :
    Calls Try.prog 63 #[fdV f] w fun e w' => e = .returned (.bool q) ∧ Same w w' := by
  obtain ⟨fn, fk, fo⟩ := f
  simp only [hasThg] at hq
  by_cases h3 : fk = 3
  · subst h3
    have HF := hide (show true = q by rw [← hq]; rfl)
    clear hq
    go_enter Try.func63, Try.ntmps63
    go_wp2_with fail
    go_ret
    exact ⟨ret_bool HF.out, (by repeat' (first | assumption | exact Kept.refl _ _ | refine Kept.drewN ?_ _ | refine Kept.drew ?_ | refine Kept.alloc ?_ _ | refine Kept.setB ?_ _ _))⟩
  · by_cases h4 : fk = 4
    · subst h4
      have HF := hide (show true = q by rw [← hq]; rfl)
      clear hq h3
      go_enter Try.func63, Try.ntmps63
      go_wp2_with fail
      go_ret
      exact ⟨ret_bool HF.out, (by repeat' (first | assumption | exact Kept.refl _ _ | refine Kept.drewN ?_ _ | refine Kept.drew ?_ | refine Kept.alloc ?_ _ | refine Kept.setB ?_ _ _))⟩
    · have HF := hide (show false = q by rw [← hq, decide_eq_false h3, decide_eq_false h4]; rfl)
      have h3b : (fk == 3) = false := by simp [h3]
      have h4b : (fk == 4) = false := by simp [h4]
      clear hq h3 h4
      go_enter Try.func63, Try.ntmps63
      go_wp2_with fail
      go_ret
      exact ⟨ret_bool HF.out, (by repeat' (first | assumption | exact Kept.refl _ _ | refine Kept.drewN ?_ _ | refine Kept.drew ?_ | refine Kept.alloc ?_ _ | refine Kept.setB ?_ _ _))⟩

theorem hasFd_eq (l : List FieldT) (nm : List UInt8) : hasFd l nm = hasF l nm := rfl
theorem find_idx {α : Type} (p : α → Bool) (d : α) (l : List α) : ∀ (h : l.findIdx p < l.length), (l.find? p).getD d = l[l.findIdx p] := by
  induction l with
  | nil => intro h; simp at h
  | cons a l ih =>
    intro h
    by_cases hp : p a = true
    · simp [List.findIdx_cons, hp]
    · simp only [Bool.not_eq_true] at hp
      have h2 : l.findIdx p < l.length := by simpa [List.findIdx_cons, hp] using h
      simp [List.findIdx_cons, hp, ih h2]
theorem fieldOf_at (l : List FieldT) (nm : List UInt8) (h : fieldIx l nm < l.length) : fieldOf l nm = l[fieldIx l nm] := find_idx _ _ l h
theorem typeOf_at (l : List TypeT) (nm : List UInt8) (h : typeIx l nm < l.length) : typeOf l nm = l[typeIx l nm] := find_idx _ _ l h

theorem wrongAgs_step (o : OfferT) (f : FieldT) (args : List ArgT) (j : Nat) (h : j < args.length) : wrongAgs o f (args.drop j) = if wrongAg o f args[j] ≠ 0 then wrongAg o f args[j] else wrongAgs o f (args.drop (j + 1)) := by
  rw [List.drop_eq_getElem_cons h, wrongAgs]

/-- the field that comes -/
def takenF (o : OfferT) (nm : List UInt8) (args : List ArgT) (kl : Nat) : FieldT := if takenE o nm args kl = 0 then fieldOf o.fields nm else ⟨[], 0, []⟩

theorem taken_e5 {o : OfferT} {nm : List UInt8} {args : List ArgT} {kl : Nat} (h : hasF o.fields nm = false) : takenE o nm args kl = 5 ∧ takenF o nm args kl = ⟨[], 0, []⟩ := by
  have e : takenE o nm args kl = 5 := by rw [takenE, if_pos (by rw [hasFd_eq]; exact h)]
  exact ⟨e, by rw [takenF, if_neg (by rw [e]; decide)]⟩
theorem taken_ea {o : OfferT} {nm : List UInt8} {args : List ArgT} {kl : Nat} {m : Int} (h : hasF o.fields nm = true) (hm : wrongAgs o (fieldOf o.fields nm) args = m) (h0 : m ≠ 0) : takenE o nm args kl = m ∧ takenF o nm args kl = ⟨[], 0, []⟩ := by
  have e : takenE o nm args kl = m := by rw [takenE, if_neg (by rw [hasFd_eq, h]; simp), if_pos (by rw [hm]; exact h0), hm]
  exact ⟨e, by rw [takenF, if_neg (by rw [e]; exact h0)]⟩
theorem taken_e4 {o : OfferT} {nm : List UInt8} {args : List ArgT} {kl : Nat} (h : hasF o.fields nm = true) (hm : wrongAgs o (fieldOf o.fields nm) args = 0) (hk : hasThg (fieldOf o.fields nm) ≠ decide (0 < kl)) : takenE o nm args kl = 4 ∧ takenF o nm args kl = ⟨[], 0, []⟩ := by
  have e : takenE o nm args kl = 4 := by rw [takenE, if_neg (by rw [hasFd_eq, h]; simp), if_neg (by simp [hm]), if_pos hk]
  exact ⟨e, by rw [takenF, if_neg (by rw [e]; decide)]⟩
theorem taken_ok {o : OfferT} {nm : List UInt8} {args : List ArgT} {kl : Nat} (h : hasF o.fields nm = true) (hm : wrongAgs o (fieldOf o.fields nm) args = 0) (hk : hasThg (fieldOf o.fields nm) = decide (0 < kl)) : takenE o nm args kl = 0 ∧ takenF o nm args kl = fieldOf o.fields nm := by
  have e : takenE o nm args kl = 0 := by rw [takenE, if_neg (by rw [hasFd_eq, h]; simp), if_neg (by simp [hm]), if_neg (by simp [hk])]
  exact ⟨e, by rw [takenF, if_pos e]⟩

set_option maxRecDepth 20000 in
set_option maxHeartbeats 3200000 in
theorem taken_any (w : World) (o : OfferT) (af : Option Addr) (cf : Nat) (P : Nat → Prop) (ho : FldSl P w (.slice af o.fields.length cf) o.fields) (al nm : List UInt8) (args : List ArgT) (aa ak : Option Addr) (ca nk ck : Nat)
    (ha : ArgSl w (.slice aa args.length ca) args) (hal : args.length ≤ 9223372036854775807) (hnk : nk ≤ 9223372036854775807) :
    Calls Try.prog 34 #[ofV af o.fields.length cf o, .agg #[.string ⟨al.toArray⟩, .string ⟨nm.toArray⟩, .slice aa args.length ca, .slice ak nk ck]] w fun e w' =>
      e = .returned (.tuple #[fdV (takenF o nm args nk), .int .i64 (takenE o nm args nk)]) ∧ Same w w' := by
  have HO := hide ho
  have HA := hide ha
  clear ho ha
  have hfl : o.fields.length ≤ 9223372036854775807 := by obtain ⟨_, _, e, ⟨h1, _⟩, _⟩ := HO.out; exact h1
  obtain ⟨w0, hw0⟩ : ∃ w0, w0 = ((w.alloc (.cells #[.slice af o.fields.length cf, .string ⟨o.arg.toArray⟩, .int .i64 o.low, .int .i64 o.high] 72)).alloc (.cells #[.string ⟨al.toArray⟩, .string ⟨nm.toArray⟩, .slice aa args.length ca, .slice ak nk ck] 62)).alloc (.cells #[.string ⟨#[]⟩, .int .i64 0, .string ⟨#[]⟩] 74) := ⟨_, rfl⟩
  have HK0 := hide (show Same w w0 by rw [hw0]; exact (((Kept.refl _ w).alloc _).alloc _).alloc _)
  obtain ⟨g, hgg⟩ : ∃ g, g = w.heap.size := ⟨_, rfl⟩
  obtain ⟨gs, hgs⟩ : ∃ gs, gs = w.heap.size + 1 := ⟨_, rfl⟩
  obtain ⟨gf, hgf⟩ : ∃ gf, gf = w.heap.size + 1 + 1 := ⟨_, rfl⟩
  have HB := hide (show w0.heap[g]? = some (.cells #[.slice af o.fields.length cf, .string ⟨o.arg.toArray⟩, .int .i64 o.low, .int .i64 o.high] 72 (0, 0)) ∧ w0.heap[gs]? = some (.cells #[.string ⟨al.toArray⟩, .string ⟨nm.toArray⟩, .slice aa args.length ca, .slice ak nk ck] 62 (0, 0)) ∧ w0.heap[gf]? = some (.cells #[.string ⟨#[]⟩, .int .i64 0, .string ⟨#[]⟩] 74 (0, 0)) by
    rw [hw0, hgg, hgs, hgf]
    refine ⟨?_, ?_, ?_⟩
    · rw [Below.heap_alloc _ _ _ (by simp; omega), Below.heap_alloc _ _ _ (by simp)]; exact heap_alloc_new w _
    · rw [Below.heap_alloc _ _ _ (by simp)]
      have := heap_alloc_new (w.alloc (.cells #[.slice af o.fields.length cf, .string ⟨o.arg.toArray⟩, .int .i64 o.low, .int .i64 o.high] 72)) (.cells #[.string ⟨al.toArray⟩, .string ⟨nm.toArray⟩, .slice aa args.length ca, .slice ak nk ck] 62)
      simpa using this
    · have := heap_alloc_new ((w.alloc (.cells #[.slice af o.fields.length cf, .string ⟨o.arg.toArray⟩, .int .i64 o.low, .int .i64 o.high] 72)).alloc (.cells #[.string ⟨al.toArray⟩, .string ⟨nm.toArray⟩, .slice aa args.length ca, .slice ak nk ck] 62)) (.cells #[.string ⟨#[]⟩, .int .i64 0, .string ⟨#[]⟩] 74)
      simpa using this)
  have hgw : w.heap.size ≤ gf := by omega
  have HGW := hide hgw
  have HX := hide (show ∀ w1, Same w0 w1 → w1.heap[gf]? = some (.cells #[.string ⟨#[]⟩, .int .i64 0, .string ⟨#[]⟩] 74 (0, 0)) ∧ ∀ x y z, Same w (((w1.setCell ⟨gf, 0, none⟩ x).setCell ⟨gf, 1, none⟩ y).setCell ⟨gf, 2, none⟩ z) from fun w1 hK1 => ⟨blk_kept HB.out.2.2 hK1 (fun f => f), fun x y z => (((tra HK0.out hK1).setCell (p := ⟨gf, 0, none⟩) (fun hh => by have h1 : gf < w.heap.size := hh; omega) _).setCell (p := ⟨gf, 1, none⟩) (fun hh => by have h1 : gf < w.heap.size := hh; omega) _).setCell (p := ⟨gf, 2, none⟩) (fun hh => by have h1 : gf < w.heap.size := hh; omega) _⟩)
  clear hgw
  cases hh : hasF o.fields nm with
  | false =>
    have HE := hide (taken_e5 (o := o) (nm := nm) (args := args) (kl := nk) hh)
    have HFN := hide (fieldNamed_not w0 _ o.fields nm P (HO.out.same HK0.out) hh)
    clear hh
    go_enter Try.func34, Try.ntmps34
    go_wp2_with fail
    rw [← hw0, ← hgf, ← hgs, ← hgg]
    clear hw0 hgg hgs hgf
    refine HFN.out.mono ?_
    rintro e w1 ⟨rfl, hK1⟩
    obtain ⟨hB2, HKF⟩ := HX.out w1 hK1
    obtain ⟨z0, z1, z2⟩ := blk3 hB2
    have zf := fun o => (show w1.frozen? ⟨gf, o, none⟩ = false by simp [World.frozen?, hB2])
    have HK := hide HKF
    clear hB2 hK1 HKF
    go_wp2_with fail
    refine bodyPost_ret (v := .tuple #[.agg #[.string ⟨#[]⟩, .int .i64 0, .string ⟨#[]⟩], .int .i64 5]) (by simp [results, Try.results34, go_sem, z0, z1, z2]) rfl ?_
    exact ⟨by rw [HE.out.1, HE.out.2], HK.out _ _ _⟩
  | true =>
    obtain ⟨f, hf⟩ : ∃ f, fieldOf o.fields nm = f := ⟨_, rfl⟩
    have HF := hide hf
    have HH := hide hh
    have HFN := hide (fieldNamed_has w0 _ o.fields nm P (HO.out.same HK0.out) hh)
    clear hh hf
    go_enter Try.func34, Try.ntmps34
    go_wp2_with fail
    rw [← hw0, ← hgf, ← hgs, ← hgg]
    clear hw0 hgg hgs hgf
    refine HFN.out.mono ?_
    rintro e w1 ⟨j, rfl, ⟨hj1, hj2⟩, hK1⟩
    have HFJ := hide (show o.fields[j] = f by rw [← HF.out, fieldOf_at _ _ (by rw [← hj1]; exact hj2)]; simp only [hj1])
    obtain ⟨b, off, hba, r0, r1, r2⟩ := (HO.out.same (tra HK0.out hK1)).at j hj2
    subst hba
    rw [HFJ.out] at r0 r1 r2
    have hBg := blk_kept HB.out.1 hK1 (fun f => f)
    obtain ⟨p0, p1, p2, p3⟩ := cells4 hBg
    have hBs := blk_kept HB.out.2.1 hK1 (fun f => f)
    obtain ⟨q0, q1, q2, q3⟩ := cells4 hBs
    have hgs1 : gs < w1.heap.size := (Array.getElem?_eq_some_iff.1 hBs).1
    have hgg1 : g < w1.heap.size := (Array.getElem?_eq_some_iff.1 hBg).1
    obtain ⟨w2, hw2⟩ : ∃ w2, w2 = w1.alloc (.cells #[.string ⟨f.name.toArray⟩, .int .i64 f.kind, .string ⟨f.of.toArray⟩] 74) := ⟨_, rfl⟩
    obtain ⟨gt, hgt⟩ : ∃ gt, gt = w1.heap.size := ⟨_, rfl⟩
    have HK2 := hide (show Same w0 w2 by rw [hw2]; exact hK1.alloc _)
    have HBT := hide (show w2.heap[gt]? = some (.cells #[.string ⟨f.name.toArray⟩, .int .i64 f.kind, .string ⟨f.of.toArray⟩] 74 (0, 0)) by rw [hw2, hgt]; exact heap_alloc_new w1 _)
    have HJ1 := hide hj1
    clear hj1 hBg hBs
    go_wp2_with fail
    rw [← hw2, ← hgt]
    clear hw2 hgt r0 r1 r2 p0 p1 p2 p3 q0 q1 q2 q3 hgs1 hgg1
    go_loopg [27] args.length (fun gg i wr => ∃ k : Nat, k + gg = args.length ∧ i = .int .i64 k ∧ Hid (Same w2 wr) ∧ Hid (wrongAgs o f args = wrongAgs o f (args.drop k)))
    case atStart => exact ⟨0, by omega, rfl, Kept.refl _ _, rfl⟩
    case round =>
      obtain ⟨k, hk, rfl, HKr, HWA⟩ := hrel
      have hK0r := tra HK2.out HKr.out
      obtain ⟨p0, p1, p2, p3⟩ := cells4 (blk_kept HB.out.1 hK0r (fun f => f))
      obtain ⟨q0, q1, q2, q3⟩ := cells4 (blk_kept HB.out.2.1 hK0r (fun f => f))
      obtain ⟨t0, t1, t2⟩ := blk3 (blk_kept HBT.out HKr.out (fun f => f))
      have hg1 : g < wr.heap.size := (Array.getElem?_eq_some_iff.1 (blk_kept HB.out.1 hK0r (fun f => f))).1
      have hgs1 : gs < wr.heap.size := (Array.getElem?_eq_some_iff.1 (blk_kept HB.out.2.1 hK0r (fun f => f))).1
      have hgt1 : gt < wr.heap.size := (Array.getElem?_eq_some_iff.1 (blk_kept HBT.out HKr.out (fun f => f))).1
      have HK0R := hide hK0r
      clear hK0r
      by_cases hlt : k < args.length
      · obtain ⟨ba, oa, hba, c0, c1, c2, c3⟩ := (HA.out.same (tra HK0.out HK0R.out)).at k hlt
        subst hba
        have HST := hide (wrongAgs_step o f args k hlt)
        obtain ⟨a, hae⟩ : ∃ a, a = args[k] := ⟨_, rfl⟩
        rw [← hae] at HST c0 c1 c2 c3
        clear hae
        obtain ⟨m, hm⟩ : ∃ m, wrongAg o f a = m := ⟨_, rfl⟩
        rw [hm] at HST
        have HWG := hide (fun w => wrongArg_is w o (some ⟨b, off, none⟩) o.fields.length cf f a m hm)
        clear hm
        go_wp2_with fail
        refine (HWG.out _).mono ?_
        rintro e w3 ⟨rfl, hK3⟩
        have HK3 := hide (show Same w2 w3 from tra (HKr.out.alloc _) hK3)
        by_cases hm0 : m = 0
        · subst hm0
          have HN := hide (show wrongAgs o f args = wrongAgs o f (args.drop (k + 1)) by rw [HWA.out, HST.out]; rfl)
          clear hK3
          go_wp2_with fail
          go_roundg (gk - 1)
          case measure => omega
          case rel => exact ⟨k + 1, by omega, by go_num, HK3.out, HN.out⟩
        · have HE := hide (taken_ea (o := o) (nm := nm) (args := args) (kl := nk) (m := m) HH.out (by rw [HF.out, HWA.out, HST.out, if_pos hm0]) hm0)
          have hmb : (m != 0) = true := by simp [hm0]
          obtain ⟨hB2, HKF⟩ := HX.out w3 (tra HK2.out HK3.out)
          obtain ⟨z0, z1, z2⟩ := blk3 hB2
          have zf := fun o => (show w3.frozen? ⟨gf, o, none⟩ = false by simp [World.frozen?, hB2])
          have HK := hide HKF
          clear hB2 hK3 HKF hm0
          go_wp2_with fail
          refine bodyPost_ret (v := .tuple #[.agg #[.string ⟨#[]⟩, .int .i64 0, .string ⟨#[]⟩], .int .i64 m]) (by simp [results, Try.results34, go_sem, z0, z1, z2]) rfl ?_
          exact ⟨by rw [HE.out.1, HE.out.2], HK.out _ _ _⟩
      · have HW0 := hide (show wrongAgs o (fieldOf o.fields nm) args = 0 by rw [HF.out, HWA.out, List.drop_eq_nil_of_le (by omega)]; rfl)
        obtain ⟨q, hq⟩ : ∃ q, hasThg f = q := ⟨_, rfl⟩
        have HQ := hide hq
        clear hq
        by_cases hk0 : 0 < nk
        · have hk0i : (0 : Int) < (nk : Int) := by omega
          cases q
          · have HE := hide (taken_e4 (o := o) (nm := nm) (args := args) (kl := nk) HH.out HW0.out (by rw [HF.out, HQ.out]; simp; omega))
            go_wp2_with fail
            go_region_held3 (fun w' => w'.cell? ⟨gt, 0, none⟩ = some (.string ⟨f.name.toArray⟩) ∧ w'.cell? ⟨gt, 1, none⟩ = some (.int .i64 f.kind) ∧ w'.cell? ⟨gt, 2, none⟩ = some (.string ⟨f.of.toArray⟩) ∧ w'.cell? ⟨gs, 3, none⟩ = some (.slice ak nk ck)) (go_keep) ((go_at_call 63; refine (hasThings_is _ f _ HQ.out).mono ?_; rintro e w9 ⟨rfl, hK9⟩; have u0 := hK9.cell (p := ⟨gt, 0, none⟩) (by exact t0) (fun f => f); have u1 := hK9.cell (p := ⟨gt, 1, none⟩) (by exact t1) (fun f => f); have u2 := hK9.cell (p := ⟨gt, 2, none⟩) (by exact t2) (fun f => f); have u3 := hK9.cell (p := ⟨gs, 3, none⟩) (by exact q3) (fun f => f)))
            all_goals
              obtain ⟨hB2, HKF⟩ := HX.out w9 (tra HK0R.out hK9.unD)
              obtain ⟨z0, z1, z2⟩ := blk3 hB2
              have zf := fun o => (show w9.frozen? ⟨gf, o, none⟩ = false by simp [World.frozen?, hB2])
              have HK := hide HKF
              clear hB2 hK9 HKF
              go_wp2_with fail
              refine bodyPost_ret (v := .tuple #[.agg #[.string ⟨#[]⟩, .int .i64 0, .string ⟨#[]⟩], .int .i64 4]) (by simp [results, Try.results34, go_sem, z0, z1, z2]) rfl ?_
              exact ⟨by rw [HE.out.1, HE.out.2], HK.out _ _ _⟩
          · have HE := hide (taken_ok (o := o) (nm := nm) (args := args) (kl := nk) HH.out HW0.out (by rw [HF.out, HQ.out]; simp; omega))
            go_wp2_with fail
            go_region_held3 (fun w' => w'.cell? ⟨gt, 0, none⟩ = some (.string ⟨f.name.toArray⟩) ∧ w'.cell? ⟨gt, 1, none⟩ = some (.int .i64 f.kind) ∧ w'.cell? ⟨gt, 2, none⟩ = some (.string ⟨f.of.toArray⟩) ∧ w'.cell? ⟨gs, 3, none⟩ = some (.slice ak nk ck)) (go_keep) ((go_at_call 63; refine (hasThings_is _ f _ HQ.out).mono ?_; rintro e w9 ⟨rfl, hK9⟩; have u0 := hK9.cell (p := ⟨gt, 0, none⟩) (by exact t0) (fun f => f); have u1 := hK9.cell (p := ⟨gt, 1, none⟩) (by exact t1) (fun f => f); have u2 := hK9.cell (p := ⟨gt, 2, none⟩) (by exact t2) (fun f => f); have u3 := hK9.cell (p := ⟨gs, 3, none⟩) (by exact q3) (fun f => f)))
            all_goals
              obtain ⟨hB2, HKF⟩ := HX.out w9 (tra HK0R.out hK9.unD)
              obtain ⟨z0, z1, z2⟩ := blk3 hB2
              have zf := fun o => (show w9.frozen? ⟨gf, o, none⟩ = false by simp [World.frozen?, hB2])
              have HK := hide HKF
              clear hB2 hK9 HKF
              go_wp2_with fail
              refine bodyPost_ret (v := .tuple #[.agg #[.string ⟨f.name.toArray⟩, .int .i64 f.kind, .string ⟨f.of.toArray⟩], .int .i64 0]) (by simp [results, Try.results34, go_sem, z0, z1, z2]) rfl ?_
              exact ⟨by rw [HE.out.1, HE.out.2, HF.out], HK.out _ _ _⟩
        · have hk0i : ¬ (0 : Int) < (nk : Int) := by omega
          cases q
          · have HE := hide (taken_ok (o := o) (nm := nm) (args := args) (kl := nk) HH.out HW0.out (by rw [HF.out, HQ.out]; simp; omega))
            go_wp2_with fail
            go_region_held3 (fun w' => w'.cell? ⟨gt, 0, none⟩ = some (.string ⟨f.name.toArray⟩) ∧ w'.cell? ⟨gt, 1, none⟩ = some (.int .i64 f.kind) ∧ w'.cell? ⟨gt, 2, none⟩ = some (.string ⟨f.of.toArray⟩) ∧ w'.cell? ⟨gs, 3, none⟩ = some (.slice ak nk ck)) (go_keep) ((go_at_call 63; refine (hasThings_is _ f _ HQ.out).mono ?_; rintro e w9 ⟨rfl, hK9⟩; have u0 := hK9.cell (p := ⟨gt, 0, none⟩) (by exact t0) (fun f => f); have u1 := hK9.cell (p := ⟨gt, 1, none⟩) (by exact t1) (fun f => f); have u2 := hK9.cell (p := ⟨gt, 2, none⟩) (by exact t2) (fun f => f); have u3 := hK9.cell (p := ⟨gs, 3, none⟩) (by exact q3) (fun f => f)))
            all_goals
              obtain ⟨hB2, HKF⟩ := HX.out w9 (tra HK0R.out hK9.unD)
              obtain ⟨z0, z1, z2⟩ := blk3 hB2
              have zf := fun o => (show w9.frozen? ⟨gf, o, none⟩ = false by simp [World.frozen?, hB2])
              have HK := hide HKF
              clear hB2 hK9 HKF
              go_wp2_with fail
              refine bodyPost_ret (v := .tuple #[.agg #[.string ⟨f.name.toArray⟩, .int .i64 f.kind, .string ⟨f.of.toArray⟩], .int .i64 0]) (by simp [results, Try.results34, go_sem, z0, z1, z2]) rfl ?_
              exact ⟨by rw [HE.out.1, HE.out.2, HF.out], HK.out _ _ _⟩
          · have HE := hide (taken_e4 (o := o) (nm := nm) (args := args) (kl := nk) HH.out HW0.out (by rw [HF.out, HQ.out]; simp; omega))
            go_wp2_with fail
            go_region_held3 (fun w' => w'.cell? ⟨gt, 0, none⟩ = some (.string ⟨f.name.toArray⟩) ∧ w'.cell? ⟨gt, 1, none⟩ = some (.int .i64 f.kind) ∧ w'.cell? ⟨gt, 2, none⟩ = some (.string ⟨f.of.toArray⟩) ∧ w'.cell? ⟨gs, 3, none⟩ = some (.slice ak nk ck)) (go_keep) ((go_at_call 63; refine (hasThings_is _ f _ HQ.out).mono ?_; rintro e w9 ⟨rfl, hK9⟩; have u0 := hK9.cell (p := ⟨gt, 0, none⟩) (by exact t0) (fun f => f); have u1 := hK9.cell (p := ⟨gt, 1, none⟩) (by exact t1) (fun f => f); have u2 := hK9.cell (p := ⟨gt, 2, none⟩) (by exact t2) (fun f => f); have u3 := hK9.cell (p := ⟨gs, 3, none⟩) (by exact q3) (fun f => f)))
            all_goals
              obtain ⟨hB2, HKF⟩ := HX.out w9 (tra HK0R.out hK9.unD)
              obtain ⟨z0, z1, z2⟩ := blk3 hB2
              have zf := fun o => (show w9.frozen? ⟨gf, o, none⟩ = false by simp [World.frozen?, hB2])
              have HK := hide HKF
              clear hB2 hK9 HKF
              go_wp2_with fail
              refine bodyPost_ret (v := .tuple #[.agg #[.string ⟨#[]⟩, .int .i64 0, .string ⟨#[]⟩], .int .i64 4]) (by simp [results, Try.results34, go_sem, z0, z1, z2]) rfl ?_
              exact ⟨by rw [HE.out.1, HE.out.2], HK.out _ _ _⟩

end Go.Proofs.Ytkkjchfhgjfclac
