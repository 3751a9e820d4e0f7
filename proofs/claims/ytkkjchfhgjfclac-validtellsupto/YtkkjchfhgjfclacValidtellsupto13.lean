import Derived.Test.YtkkjchfhgjfclacValidtellsupto12
import Derived.Test.YtkkjchfhgjfclacValidtellsupto11
import Derived.Test.YtkkjchfhgjfclacValidtellsupto07
import Derived.Deep.DeepCutAuto
/- query.wrongSelect, whatever it is handed. -/
namespace Go.Proofs.Ytkkjchfhgjfclac
open Go.RowKit

theorem wrongS_of (al nm : List UInt8) (args : List ArgT) : wrongS al nm args = if wrongT (nameT nm) ≠ 0 then wrongT (nameT nm) else if al ≠ [] ∧ wrongT (nameT al) ≠ 0 then wrongT (nameT al) else argsE args := rfl

set_option maxRecDepth 20000 in
set_option maxHeartbeats 1600000 in
theorem wrongSelect_any (w : World) (al nm : List UInt8) (args : List ArgT) (va : Value) (ak : Option Addr) (nk ck : Nat) (ha : ArgSl w va args) :
    Calls Try.prog 93 #[.agg #[.string ⟨al.toArray⟩, .string ⟨nm.toArray⟩, va, .slice ak nk ck]] w fun e w' => e = .returned (.int .i64 (wrongS al nm args)) ∧ Same w w' := by
  obtain ⟨aoa, capa, rfl, _, _⟩ := id ha
  obtain ⟨m, hm⟩ : ∃ m, wrongT (nameT nm) = m := ⟨_, rfl⟩
  obtain ⟨m2, hm2⟩ : ∃ m2, wrongT (nameT al) = m2 := ⟨_, rfl⟩
  have HW := hide (wrongS_of al nm args)
  have HM := hide hm
  have HM2 := hide hm2
  clear hm hm2
  go_enter Try.func93, Try.ntmps93
  go_wp2_with fail
  refine (wrongName_is _ nm m HM.out).mono ?_
  rintro e w2 ⟨rfl, hK1⟩
  have hb2 := new_kept hK1 (fun f => f)
  have hKb : Same w w2 := tra ((Kept.refl _ w).alloc _) hK1
  clear hK1
  by_cases hm0 : m = 0
  · subst hm0
    obtain ⟨g0, g1, g2, g3⟩ := cells4 hb2
    cases he : al.isEmpty with
    | true =>
      have HE := hide (show al = [] from List.isEmpty_iff.1 he)
      have HA := hide (wrongArgs_any w2 _ args (ha.same hKb))
      go_wp2_with fail
      refine HA.out.mono ?_
      rintro e w3 ⟨rfl, hK3⟩
      go_wp2_with fail
      go_ret
      exact ⟨ret_int (by rw [HW.out, HM.out, HE.out]; simp), tra hKb hK3⟩
    | false =>
      have HE := hide (show al ≠ [] by intro e; subst e; cases he)
      have hwz2 : w.heap.size < w2.heap.size := World.block_lt_of_cell? w2 _ g0
      go_wp2_with fail
      refine (wrongName_is _ al m2 HM2.out).mono ?_
      rintro e w4 ⟨rfl, hK3⟩
      have hKd : Same w w4 := tra hKb hK3
      have hb4 := (hK3.block w.heap.size hwz2 (fun f => f)).trans hb2
      clear g0 g1 g2 g3
      by_cases hm20 : m2 = 0
      · subst hm20
        obtain ⟨p0, p1, p2, p3⟩ := cells4 hb4
        have HA := hide (wrongArgs_any w4 _ args (ha.same hKd))
        go_wp2_with fail
        refine HA.out.mono ?_
        rintro e w5 ⟨rfl, hK5⟩
        go_wp2_with fail
        go_ret
        exact ⟨ret_int (by rw [HW.out, HM.out, HM2.out]; simp), tra hKd hK5⟩
      · have hm21 : (m2 != 0) = true := by simp [hm20]
        have HN := hide hm20
        clear hm20
        go_wp2_with fail
        go_ret
        exact ⟨ret_int (by rw [HW.out, HM.out, HM2.out, if_neg (by simp), if_pos ⟨HE.out, HN.out⟩]), hKd⟩
  · have hm1 : (m != 0) = true := by simp [hm0]
    have HN := hide hm0
    clear hm0
    go_wp2_with fail
    go_ret
    exact ⟨ret_int (by rw [HW.out, HM.out, if_pos HN.out]), hKb⟩

end Go.Proofs.Ytkkjchfhgjfclac

/- A row's argument that is a slice of selects. -/
namespace Go.Proofs.Ytkkjchfhgjfclac
open Go.ChangeShapes Go.WideShapes Go.RowKit

def mkS (T : Nat → List UInt8 × List UInt8 × List ArgT × Sels) : Nat → Nat → Sels
  | 0, _ => .nil
  | n + 1, i => .cons (T i).1 (T i).2.1 (T i).2.2.1 (T i).2.2.2 (mkS T n (i + 1))

theorem mkS_len (T : Nat → List UInt8 × List UInt8 × List ArgT × Sels) (n : Nat) : ∀ i, (mkS T n i).len = n := by
  induction n with
  | zero => intro i; rfl
  | succ n ih => intro i; rw [mkS, Sels.len, ih]

/-- one select at a place -/
def OneAt (w : World) (a : Addr) (t : List UInt8 × List UInt8 × List ArgT × Sels) : Prop :=
  w.cell? a = some (.string ⟨t.1.toArray⟩) ∧ w.cell? (a.add 1) = some (.string ⟨t.2.1.toArray⟩) ∧ (∃ va, w.cell? (a.add 2) = some va ∧ ArgSl w va t.2.2.1) ∧ (∃ vk, w.cell? (a.add 3) = some vk ∧ SelSl w vk t.2.2.2)

theorem mkS_at {w : World} {b off len : Nat} {T : Nat → List UInt8 × List UInt8 × List ArgT × Sels} (h : ∀ i, i < len → OneAt w ⟨b, off + i * 4, none⟩ (T i)) (n : Nat) : ∀ i, i + n = len → SelAt w (mkS T n i) b (off + i * 4) := by
  induction n with
  | zero => intro i _; trivial
  | succ n ih =>
    intro i hi
    obtain ⟨h0, h1, ⟨va, h2, ha⟩, ⟨vk, h3, ao, cap, rfl, hl, hs⟩⟩ := h i (by omega)
    rw [add_none] at h1 h2 h3
    refine ⟨h0, h1, ⟨va, h2, ha⟩, ⟨ao, cap, h3, hl, hs⟩, ?_⟩
    have := ih (i + 1) (by omega)
    rw [show off + i * 4 + 4 = off + (i + 1) * 4 from by omega]
    exact this

set_option maxRecDepth 20000 in
theorem sels_trod {H : Type} {enc : TypeId × Value → H} {W : World} {sp : Nat → Bool} {held : Bool} (fuel : Nat) : ∀ (cs : List Value) (x : DataW H × List MemPlace),
    DataW.trod enc Try.prog W 0 sp held fuel 38 cs = some x → ∃ v f, cs = [v] ∧ SelSl W v f := by
  induction fuel using Nat.strongRecOn with
  | _ fuel ih =>
    intro cs x hf
    have hcells : Try.prog.cellsOf 62 = 4 := by kernel_rfl
    have hstr : Try.prog.cellsOf 9 = 1 := by kernel_rfl
    have harg : Try.prog.cellsOf 60 = 1 := by kernel_rfl
    have hsel : Try.prog.cellsOf 38 = 1 := by kernel_rfl
    rcases DataW.trod_slice Try.underlying38 hf with ⟨rfl, _⟩ | ⟨a, len, cap, elems, rest, n, hfn, rfl, _, hb, hl, hm, hlen, hel, _, _⟩
    · exact ⟨_, .nil, rfl, SelSl.nil W⟩
    · rw [hcells] at hel
      have each : ∀ i, i < len → ∃ t : List UInt8 × List UInt8 × List ArgT × Sels, OneAt W (a.add (i * 4)) t := by
        intro i hi
        have key := hel i hi
        rw [List.getElem?_eq_getElem (by omega)] at key
        obtain ⟨cs', h1, h2⟩ := Option.bind_eq_some_iff.1 key
        obtain ⟨_, hcl, hcell⟩ := World.cells?_some h1
        obtain ⟨xs, q, hq, _, _, hxl, hfd⟩ := DataW.trod_struct Try.underlying62 h2
        match xs, hxl, cs', hcl with
        | [y0, y1, y2, y3], _, [v0, v1, v2, v3], _ =>
          have g0 := hfd 0 _ rfl
          have g1 := hfd 1 _ rfl
          have g2 := hfd 2 _ rfl
          have g3 := hfd 3 _ rfl
          simp [hstr, harg, hsel] at g0 g1 g2 g3
          obtain ⟨z0, e0, _, _⟩ := DataW.trod_string Try.underlying9 g0
          obtain ⟨z1, e1, _, _⟩ := DataW.trod_string Try.underlying9 g1
          obtain ⟨u2, l2, e2, s2⟩ := args_of g2
          obtain ⟨u3, f3, e3, s3⟩ := ih q (by omega) _ _ g3
          simp only [List.cons.injEq, and_true] at e0 e1 e2 e3
          subst e0 e1 e2 e3
          have c0 := hcell 0 (by omega)
          have c1 := hcell 1 (by omega)
          have c2 := hcell 2 (by omega)
          have c3 := hcell 3 (by omega)
          refine ⟨⟨z0.data.toList, z1.data.toList, l2, f3⟩, ?_, by simpa using c1, ⟨v2, by simpa using c2, s2⟩, ⟨v3, by simpa using c3, s3⟩⟩
          rw [Deep.add_add] at c0
          simpa using c0
      have : Inhabited (List UInt8 × List UInt8 × List ArgT × Sels) := ⟨[], [], [], .nil⟩
      obtain ⟨T, hT⟩ := Deep.choose_lt each
      refine ⟨_, mkS T len 0, rfl, some a, cap, by rw [mkS_len], by rw [mkS_len]; exact ⟨by omega, hl⟩, ?_⟩
      by_cases h0 : len = 0
      · subst h0; exact .inl rfl
      · obtain ⟨b, off, spot⟩ := a
        have hspot : spot = none := by
          have := World.cell?_spot (hT 0 (by omega)).1
          simpa [Addr.add] using this
        subst hspot
        refine .inr ⟨b, off, rfl, ?_⟩
        have := mkS_at (w := W) (b := b) (off := off) (len := len) (T := T) (fun i hi => by
          have h := hT i hi
          rw [add_none] at h
          exact h) len 0 (by omega)
        simpa using this

set_option maxRecDepth 20000 in
/-- an argument's slice of selects -/
theorem sels_of {H : Type} {enc : TypeId × Value → H} {W : World} {r : Reach} {b0 : Nat} {v : Value} {d : DataW H} {ps : List MemPlace} {sp : Nat → Bool} {held : Bool}
    (hval : Value.okWide Try.prog W r b0 38 v) (h : DataW.Trod enc Try.prog W 0 sp held 38 v d ps) : ∃ f, SelSl W v f := by
  obtain ⟨ao, len, cap, rfl⟩ := okWide_slice Try.underlying38 hval
  obtain ⟨fuel, hf⟩ := h
  obtain ⟨v, f, e, hs⟩ := sels_trod fuel _ _ hf
  simp only [Value.cells, List.cons.injEq, and_true] at e
  subst e
  exact ⟨f, hs⟩

end Go.Proofs.Ytkkjchfhgjfclac

/- query.wrongList, query.Check, whatever they are handed. -/
namespace Go.Proofs.Ytkkjchfhgjfclac
open Go.RowKit

theorem called_is (w : World) (al nm : List UInt8) (a1 a2 : Option Addr) (n1 n2 c1 c2 : Nat) :
    Calls Try.prog 24 #[.agg #[.string ⟨al.toArray⟩, .string ⟨nm.toArray⟩, .slice a1 n1 c1, .slice a2 n2 c2]] w fun e w' => e = .returned (.string ⟨(calledQ al nm).toArray⟩) ∧ Same w w' := by
  refine (called_any w ⟨al.toArray⟩ ⟨nm.toArray⟩ _ _ a1 a2 n1 n2 c1 c2 rfl rfl).mono ?_
  rintro e w' ⟨b, rfl, hb, hK⟩
  refine ⟨?_, hK⟩
  obtain ⟨d⟩ := b
  simp at hb
  rw [← hb]

theorem selAt_app {w : World} {b : Nat} (p : Sels) : ∀ (s : Sels) (o : Nat), SelAt w (appS p s) b o → SelAt w p b o ∧ SelAt w s b (o + p.len * 4) := by
  induction p with
  | nil => intro s o h; exact ⟨trivial, by simpa [Sels.len, appS] using h⟩
  | cons al nm args k r _ ih =>
    rintro s o ⟨h0, h1, h2, h3, h4⟩
    obtain ⟨g1, g2⟩ := ih s (o + 4) h4
    refine ⟨⟨h0, h1, h2, h3, g1⟩, ?_⟩
    rw [Sels.len, show o + (r.len + 1) * 4 = o + 4 + r.len * 4 from by omega]
    exact g2

set_option maxRecDepth 20000 in
set_option maxHeartbeats 1600000 in
theorem selSame_is (w : World) (g : Nat) (al nm al0 nm0 : List UInt8) (a1 a2 a3 a4 : Option Addr) (n1 n2 n3 n4 c1 c2 c3 c4 : Nat)
    (hc : w.heap[g]? = some (.cells #[.string ⟨al0.toArray⟩, .string ⟨nm0.toArray⟩, .slice a3 n3 c3, .slice a4 n4 c4] 62 (0, 0))) (q : Bool) (hq : decide (calledQ al nm = calledQ al0 nm0) = q) :
    Calls Try.prog 94 #[.agg #[.string ⟨al.toArray⟩, .string ⟨nm.toArray⟩, .slice a1 n1 c1, .slice a2 n2 c2], .pointer (some ⟨g, 0, none⟩)] w fun e w' => e = .returned (.bool q) ∧ Same w w' := by
  have HQ := hide hq
  have kA : ∀ o, Same w (w.alloc o) := fun o => (Kept.refl _ w).alloc o
  obtain ⟨w0, hw0⟩ : ∃ w0, w0 = w.alloc (.cells #[.string ⟨al.toArray⟩, .string ⟨nm.toArray⟩, .slice a1 n1 c1, .slice a2 n2 c2] 62) := ⟨_, rfl⟩
  have HK0 := hide (show Same w w0 by rw [hw0]; exact kA _)
  have HB0 := hide (show w0.heap[w.heap.size]? = some (.cells #[.string ⟨al.toArray⟩, .string ⟨nm.toArray⟩, .slice a1 n1 c1, .slice a2 n2 c2] 62 (0, 0)) by rw [hw0]; exact heap_alloc_new w _)
  have HB1 := hide ((HK0.out.block g (Array.getElem?_eq_some_iff.1 hc).1 (fun f => f)).trans hc)
  obtain ⟨x0, x1, x2, x3⟩ := cells4 HB0.out
  obtain ⟨y0, y1, y2, y3⟩ := cells4 HB1.out
  have hKc : Same w0 w0.drew := (Kept.refl _ _).drew
  have hws : w.heap.size < w0.heap.size := by rw [hw0]; simp
  clear hq hc
  go_enter Try.func94, Try.ntmps94
  go_upto_region 1 with fail
  rw [← hw0]
  clear hw0 kA
  go_region_with ((go_at_call 24; refine (called_is _ _ _ _ _ _ _ _ _).mono ?_; rintro e wn ⟨rfl, hKn⟩; have hKc := tra (by exact hKc) hKn; obtain ⟨x0, x1, x2, x3⟩ := cells4 ((hKc.block _ (Array.getElem?_eq_some_iff.1 HB0.out).1 (fun f => f)).trans HB0.out); obtain ⟨y0, y1, y2, y3⟩ := cells4 ((hKc.block _ (Array.getElem?_eq_some_iff.1 HB1.out).1 (fun f => f)).trans HB1.out); clear hKn))
  all_goals
    go_wp2_with fail
    go_ret
    exact ⟨ret_bool (by rw [← HQ.out, Bool.eq_iff_iff]; simp), tra HK0.out (by assumption)⟩

/-- is one called so? -/
def seenC (l : List (List UInt8)) (x : List UInt8) : Bool := l.contains x

set_option maxRecDepth 20000 in
set_option maxHeartbeats 1600000 in
theorem indexSels_any (w : World) (v : Value) (f : Sels) (g : Nat) (al0 nm0 : List UInt8) (a3 a4 : Option Addr) (n3 n4 c3 c4 : Nat) (h : SelSl w v f) (hl : f.len ≤ 1000)
    (hc : w.heap[g]? = some (.cells #[.string ⟨al0.toArray⟩, .string ⟨nm0.toArray⟩, .slice a3 n3 c3, .slice a4 n4 c4] 62 (0, 0))) :
    Calls Try.prog 113 #[v, .func (.func 94) #[] #[.pointer (some ⟨g, 0, none⟩)]] w fun e w' =>
      (∃ j : Nat, e = .returned (.int .i64 j) ∧ seenC (callsQ f) (calledQ al0 nm0) = true ∧ Same w w') ∨ (e = .returned (.int .i64 (-1)) ∧ seenC (callsQ f) (calledQ al0 nm0) = false ∧ Same w w') := by
  obtain ⟨ao, cap, rfl, _, hs⟩ := h
  have HS0 := hide hs
  have HC := hide hc
  clear hs hc
  have hcf : ∀ (args : Array Value) (w : World), (callFunc 94 args).run Try.prog w = .ok (.enter 94 args) w := by intro args w; kernel_rfl
  go_enter Try.func113, Try.ntmps113
  go_wp2_with fail
  go_loopg [8] f.len (fun gg i wr => ∃ (j : Nat) (s : Sels), s.len ≤ gg ∧ gg ≤ s.len ∧ j + s.len ≤ f.len ∧ f.len ≤ j + s.len ∧ i = .int .i64 j ∧ Hid (Same w wr) ∧ Hid (seenC (callsQ f) (calledQ al0 nm0) = seenC (callsQ s) (calledQ al0 nm0)) ∧ Hid (s = .nil ∨ ∃ b o, ao = some ⟨b, o, none⟩ ∧ SelAt w s b (o + j * 4)))
  case atStart =>
    refine ⟨0, f, Nat.le_refl _, Nat.le_refl _, by omega, by omega, rfl, Kept.refl _ _, rfl, ?_⟩
    rcases HS0.out with h | ⟨b, o, e, h⟩
    · exact .inl h
    · exact .inr ⟨b, o, e, by simpa using h⟩
  case round =>
    obtain ⟨j, s, hg1, hg2, hj1, hj2, rfl, HK, HE, HS⟩ := hrel
    cases s with
    | nil =>
      simp only [Sels.len] at hg1 hg2 hj1 hj2
      go_wp2_with fail
      go_ret
      exact .inr ⟨rfl, by rw [HE.out]; rfl, HK.out⟩
    | cons al nm args k r =>
      simp only [Sels.len] at hg1 hg2 hj1 hj2
      obtain ⟨b, o, rfl, h0, h1, ⟨va, h2, ha⟩, ⟨ao', cap', h3, hl3, hs3⟩, hr⟩ : ∃ b o, ao = some ⟨b, o, none⟩ ∧ SelAt w (.cons al nm args k r) b (o + j * 4) := by
        rcases HS.out with h | h
        · cases h
        · exact h
      obtain ⟨aoa, capa, rfl, _, _⟩ := id ha
      have d0 := HK.out.cell h0 (fun f => f)
      have d1 := HK.out.cell h1 (fun f => f)
      have d2 := HK.out.cell h2 (fun f => f)
      have d3 := HK.out.cell h3 (fun f => f)
      have HR := hide hr
      obtain ⟨q, hq⟩ : ∃ q, decide (calledQ al nm = calledQ al0 nm0) = q := ⟨_, rfl⟩
      have HSS := hide (fun wn (hk : Same wr wn) => selSame_is wn g al nm al0 nm0 aoa ao' a3 a4 args.length k.len n3 n4 capa cap' c3 c4 ((hk.block g (Array.getElem?_eq_some_iff.1 ((HK.out.block g (Array.getElem?_eq_some_iff.1 HC.out).1 (fun f => f)).trans HC.out)).1 (fun f => f)).trans ((HK.out.block g (Array.getElem?_eq_some_iff.1 HC.out).1 (fun f => f)).trans HC.out)) q hq)
      have HQ := hide hq
      clear h0 h1 h2 h3 hr ha hs3 hl3 HS hq
      go_wp2_with fail
      refine (HSS.out _ (Kept.refl _ _)).mono ?_
      rintro e w1 ⟨rfl, hK1⟩
      cases q
      · have HE2 := hide (show seenC (callsQ f) (calledQ al0 nm0) = seenC (callsQ r) (calledQ al0 nm0) by
          have h1 := of_decide_eq_false HQ.out
          rw [HE.out, callsQ, seenC, seenC, List.contains_cons]
          simp [Ne.symm h1])
        go_wp2_with fail
        go_roundg (gk - 1)
        case measure => omega
        case rel => exact ⟨j + 1, r, by omega, by omega, by omega, by omega, by go_num, tra HK.out hK1, HE2, .inr ⟨b, o, rfl, by rw [show o + (j + 1) * 4 = o + j * 4 + 4 from by omega]; exact HR.out⟩⟩
      · have HE2 := hide (show seenC (callsQ f) (calledQ al0 nm0) = true by
          have h1 := of_decide_eq_true HQ.out
          rw [HE.out, callsQ, seenC, List.contains_cons, h1]
          simp)
        go_wp2_with fail
        go_ret
        exact .inl ⟨j, rfl, HE2.out, tra HK.out hK1⟩

theorem containsSels_is (w : World) (v : Value) (f : Sels) (g : Nat) (al0 nm0 : List UInt8) (a3 a4 : Option Addr) (n3 n4 c3 c4 : Nat) (h : SelSl w v f) (hl : f.len ≤ 1000)
    (hc : w.heap[g]? = some (.cells #[.string ⟨al0.toArray⟩, .string ⟨nm0.toArray⟩, .slice a3 n3 c3, .slice a4 n4 c4] 62 (0, 0))) (q : Bool) (hq : seenC (callsQ f) (calledQ al0 nm0) = q) :
    Calls Try.prog 95 #[v, .func (.func 94) #[] #[.pointer (some ⟨g, 0, none⟩)]] w fun e w' => e = .returned (.bool q) ∧ Same w w' := by
  have HI := hide (indexSels_any w v f g al0 nm0 a3 a4 n3 n4 c3 c4 h hl hc)
  have HQ := hide hq
  clear h hc hq
  go_enter Try.func95, Try.ntmps95
  go_wp2_with fail
  refine HI.out.mono ?_
  rintro e w1 (⟨j, rfl, ha, hK⟩ | ⟨rfl, ha, hK⟩)
  · have HA := hide ha
    clear ha
    go_wp2_with fail
    go_ret
    exact ⟨ret_bool (by rw [← HQ.out, HA.out]), hK⟩
  · have HA := hide ha
    clear ha
    go_wp2_with fail
    go_ret
    exact ⟨ret_bool (by rw [← HQ.out, HA.out]), hK⟩

end Go.Proofs.Ytkkjchfhgjfclac

/- A select, an argument of a slice, as it lies. -/
namespace Go.Proofs.Ytkkjchfhgjfclac
open Go.RowKit

theorem ArgSl.at4 {w : World} {ao : Option Addr} {n cap : Nat} {l : List ArgT} (h : ArgSl w (.slice ao n cap) l) (j : Nat) (hj : j < l.length) :
    ∃ b off, ao = some ⟨b, off, none⟩ ∧ w.cell? ⟨b, off + j * 4, none⟩ = some (.string ⟨l[j].name.toArray⟩) ∧ w.cell? ⟨b, off + j * 4 + 1, none⟩ = some (.bool l[j].isText) ∧ w.cell? ⟨b, off + j * 4 + 2, none⟩ = some (.string ⟨l[j].text.toArray⟩) ∧ w.cell? ⟨b, off + j * 4 + 3, none⟩ = some (.int .i64 l[j].n) := by
  obtain ⟨ao', cap', hv, _, hc⟩ := h
  cases hv
  exact hc j l[j] (List.getElem?_eq_getElem hj)

/-- the select behind p, as it lies -/
theorem selSl_nth {w : World} {ao : Option Addr} {n cap : Nat} {f p r k : Sels} {al nm : List UInt8} {args : List ArgT} (h : SelSl w (.slice ao n cap) f) (hf : f = appS p (.cons al nm args k r)) (j : Nat) (hp : p.len = j) :
    ∃ b o aa ca ak ck, ao = some ⟨b, o, none⟩ ∧ w.cell? ⟨b, o + j * 4, none⟩ = some (.string ⟨al.toArray⟩) ∧ w.cell? ⟨b, o + j * 4 + 1, none⟩ = some (.string ⟨nm.toArray⟩) ∧ w.cell? ⟨b, o + j * 4 + 2, none⟩ = some (.slice aa args.length ca) ∧ w.cell? ⟨b, o + j * 4 + 3, none⟩ = some (.slice ak k.len ck) ∧ ArgSl w (.slice aa args.length ca) args ∧ SelSl w (.slice ak k.len ck) k ∧ args.length ≤ 9223372036854775807 := by
  obtain ⟨ao', cap', e, _, hs⟩ := h
  cases e
  rcases hs with hs | ⟨b, o, rfl, hat⟩
  · exfalso
    have := congrArg Sels.len (hs.symm.trans hf)
    rw [appS_len] at this
    simp [Sels.len] at this
  · rw [hf] at hat
    obtain ⟨_, h0, h1, ⟨va, h2, ha⟩, ⟨ak, ck, h3, hl3, hs3⟩, _⟩ := selAt_app p _ _ hat
    rw [hp] at h0 h1 h2 h3
    obtain ⟨aa, ca, rfl, hla, _⟩ := id ha
    exact ⟨b, o, aa, ca, ak, ck, rfl, h0, h1, h2, h3, ha, ⟨ak, ck, rfl, hl3, hs3⟩, hla.1⟩

end Go.Proofs.Ytkkjchfhgjfclac
