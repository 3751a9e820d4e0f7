/- valid.Paths. -/
import Derived.Test.YtkkjchfhgjfclacValidtellsupto18
import Derived.Test.YtkkjchfhgjfclacValidtellsupto19
namespace Go.Proofs.Ytkkjchfhgjfclac
open Go.RowKit

/-- v is a slice of the texts l, in w, in a block of which P holds -/
def StrSl (P : Nat → Prop) (w : World) (v : Value) (l : List (List UInt8)) : Prop :=
  ∃ ao cap, v = .slice ao l.length cap ∧ (l.length ≤ maxLen ∧ l.length ≤ cap) ∧ ∀ i s, l[i]? = some s → ∃ b off, ao = some ⟨b, off, none⟩ ∧ P b ∧ w.cell? ⟨b, off + i, none⟩ = some (.string ⟨s.toArray⟩)
def strCells (l : List (List UInt8)) : List Value := l.map (fun s => .string ⟨s.toArray⟩)
theorem strCells_app (a b : List (List UInt8)) : strCells (a ++ b) = strCells a ++ strCells b := by simp [strCells]
theorem strCells_len (l : List (List UInt8)) : (strCells l).length = l.length * 1 := by simp [strCells]
theorem strCells_one (l : List (List UInt8)) : ∀ u ∈ strCells l, u.oneCell' = true := by
  intro u hu
  obtain ⟨s, _, rfl⟩ := List.mem_map.1 hu
  rfl
theorem infoStr : (Try.prog.info? 9).map (fun i => (i.zero, i.size, i.bytes)) = some (some (.string ⟨#[]⟩), 1, 16) := by kernel_rfl

theorem StrSl.keep {P X Q : Nat → Prop} {w w' : World} {v : Value} {l : List (List UInt8)} (h : StrSl P w v l) (hk : Kept X w w') (hx : ∀ b, b < w.heap.size → P b → ¬ X b ∧ Q b) : StrSl Q w' v l := by
  obtain ⟨ao, cap, hv, hl, hc⟩ := h
  refine ⟨ao, cap, hv, hl, fun i t ht => ?_⟩
  obtain ⟨b, off, ha, hp, h0⟩ := hc i t ht
  obtain ⟨x, q⟩ := hx b (World.block_lt_of_cell? w _ h0) hp
  exact ⟨b, off, ha, q, hk.cell h0 x⟩
theorem StrSl.same {P : Nat → Prop} {w w' : World} {v : Value} {l : List (List UInt8)} (h : StrSl P w v l) (hk : Same w w') : StrSl P w' v l := h.keep hk (fun _ _ hp => ⟨fun f => f, hp⟩)
theorem StrSl.nil (P : Nat → Prop) (w : World) : StrSl P w (.slice none 0 0) [] := ⟨none, 0, rfl, ⟨Nat.zero_le _, Nat.le_refl _⟩, fun i a h => by simp at h⟩
theorem own_strs {w : World} {base : Nat} {v : Value} {l : List (List UInt8)} (h : w.ownsRow base 9 1 v l.length (strCells l)) (hl : l.length ≤ 9000000000000) : StrSl (fun b => base ≤ b) w v l := by
  have hc := fun g => World.ownsRow.cells h (g := g)
  rcases h.2 with ⟨rfl, h0⟩ | ⟨g, cap, cur, rfl, hg, hb, hc1, hc2, hc3, htk⟩
  · obtain rfl : l = [] := List.length_eq_zero_iff.1 h0
    exact StrSl.nil _ w
  · refine ⟨_, cap, rfl, ⟨by unfold maxLen; omega, hc1⟩, fun i t ht => ⟨g, 0, rfl, hg, ?_⟩⟩
    have k1 := hc g rfl i (.string ⟨t.toArray⟩) (by simp [strCells, ht])
    rw [add_none] at k1
    exact k1

theorem SelSlP.nth {P : Nat → Prop} {w : World} {ao : Option Addr} {n cap : Nat} {f p r k : Sels} {al nm : List UInt8} {args : List ArgT} (h : SelSlP P w (.slice ao n cap) f) (hf : f = appS p (.cons al nm args k r)) (j : Nat) (hp : p.len = j) :
    ∃ b o aa ca ak ck, ao = some ⟨b, o, none⟩ ∧ w.cell? ⟨b, o + j * 4, none⟩ = some (.string ⟨al.toArray⟩) ∧ w.cell? ⟨b, o + j * 4 + 1, none⟩ = some (.string ⟨nm.toArray⟩) ∧ w.cell? ⟨b, o + j * 4 + 2, none⟩ = some (.slice aa args.length ca) ∧ w.cell? ⟨b, o + j * 4 + 3, none⟩ = some (.slice ak k.len ck) ∧ SelSlP P w (.slice ak k.len ck) k ∧ k.len ≤ 9223372036854775807 ∧ P b := by
  have happ : ∀ (p s : Sels) (b o : Nat), SelAtP P w (appS p s) b o → SelAtP P w s b (o + p.len * 4) := by
    intro p
    induction p with
    | nil => intro s b o h; simpa [Sels.len, appS] using h
    | cons a1 a2 a3 a4 a5 _ ih =>
      intro s b o h
      have := ih s b (o + 4) h.2.2.2.2
      rw [Sels.len, show o + (a5.len + 1) * 4 = o + 4 + a5.len * 4 by omega]
      exact this
  obtain ⟨ao', cap', e, _, hs⟩ := h
  cases e
  rcases hs with hs | ⟨b, o, rfl, hpb, hat⟩
  · exfalso
    have := congrArg Sels.len (hs.symm.trans hf)
    rw [appS_len] at this
    simp [Sels.len] at this
  · rw [hf] at hat
    obtain ⟨h0, h1, ⟨va, h2, ha⟩, ⟨ak, ck, h3, hl3, hs3⟩, _⟩ := happ p _ _ _ hat
    rw [hp] at h0 h1 h2 h3
    obtain ⟨aa, ca, rfl, _, _⟩ := id ha
    exact ⟨b, o, aa, ca, ak, ck, rfl, h0, h1, h2, h3, ⟨ak, ck, rfl, hl3, hs3⟩, hl3.1, hpb⟩

/-- what has been told so far: the paths' box, their row -/
def PathsAt (w : World) (c1 base : Nat) (l : List (List UInt8)) : Prop :=
  ∃ v, w.heap[c1]? = some (.cells #[v] 39 (0, 0)) ∧ w.ownsRow base 9 1 v l.length (strCells l)

def PT (m : Nat) : Prop := ∀ (f : Sels), f.size' = m → ∀ (w : World) (a : List UInt8) (v : Value) (c1 c2 d : Nat) (seen acc : List (List UInt8)),
    c1 < c2 → c2 < w.heap.size → PathsAt w c1 (c2 + 1) acc → SelSlP (· < c1) w v f →
    w.cell? ⟨c2, 0, none⟩ = some (.func (.func 23) #[] #[.pointer (some ⟨c1, 0, none⟩), .pointer (some ⟨c2, 0, none⟩)]) →
    okD d f → wrongQ seen f = 0 → a.length ≤ 13 * d → d ≤ 6 → acc.length + f.size' ≤ 1000 →
    Calls Try.prog 23 #[.string ⟨a.toArray⟩, v, .pointer (some ⟨c1, 0, none⟩), .pointer (some ⟨c2, 0, none⟩)] w fun e w' => e = .returned (.tuple #[]) ∧ PathsAt w' c1 (c2 + 1) (acc ++ pathsV a f) ∧ Kept (fun k => k = c1 ∨ c2 < k) w w'

theorem bytes_app (a b : List UInt8) : (⟨a.toArray⟩ : ByteArray) ++ ⟨b.toArray⟩ = ⟨(a ++ b).toArray⟩ := by
  apply ByteArray.ext
  simp [ByteArray.data_append]

theorem called_len {al nm : List UInt8} {args : List ArgT} (h : wrongS al nm args = 0) : (calledQ al nm).length ≤ 12 := by
  obtain ⟨g1, g2, _, _⟩ := wrongS_ok h
  have key : ∀ s : List UInt8, wrongT (nameT s) = 0 → s.length ≤ 12 := by
    intro s hs
    simp only [wrongT, nameT] at hs
    by_cases h1 : 12 < s.length
    · simp [h1] at hs
    · omega
  unfold calledQ
  by_cases e : al = []
  · rw [if_pos e]; exact key _ g1
  · rw [if_neg e]; exact key _ (g2.resolve_left e)

set_option maxRecDepth 20000 in
set_option maxHeartbeats 6400000 in
theorem paths_step (m : Nat) (IH : ∀ m', m' < m → PT m') : PT m := by
  intro f hm w a v c1 c2 d seen acc h12 hc2 hpa hsel hfn hok hwr hal hd hlen
  obtain ⟨ao, cap, rfl, ⟨hmax, _⟩, _⟩ := id hsel
  have hmax' : f.len ≤ 9223372036854775807 := hmax
  obtain ⟨i0, hi, hz0, hz1, hz2⟩ := info_parts infoStr
  have HSEL := hide hsel
  have HIH := hide IH
  have HM := hide hm
  have HFN := hide hfn
  clear hsel IH hm hmax hfn
  go_enter Try.func23, Try.ntmps23
  go_wp2_with fail
  go_loopg [11] f.len (fun gg i wr => ∃ (j : Nat) (p x : Sels) (se : List (List UInt8)), x.len ≤ gg ∧ gg ≤ x.len ∧ j + x.len ≤ f.len ∧ f.len ≤ j + x.len ∧ i = .int .i64 j ∧ Hid (p.len = j) ∧ Hid (f = appS p x) ∧ Hid (PathsAt wr c1 (c2 + 1) (acc ++ pathsV a p)) ∧ Hid (Kept (fun k => k = c1 ∨ c2 < k) w wr) ∧ Hid (okD d x ∧ wrongQ se x = 0))
  case atStart => exact ⟨0, .nil, f, seen, Nat.le_refl _, Nat.le_refl _, by omega, by omega, rfl, rfl, rfl, by simpa [pathsV, Hid] using hpa, Kept.refl _ _, ⟨hok, hwr⟩⟩
  case round =>
    obtain ⟨j, p, x, se, hg1, hg2, hj1, hj2, rfl, HPL, HFP, HPA, HKr, HOK⟩ := hrel
    cases x with
    | nil =>
      simp only [Sels.len] at hg1 hg2 hj1 hj2
      have HFE := hide (show f = p by rw [HFP.out]; exact appS_nil p)
      go_wp2_with fail
      go_end0
      exact ⟨rfl, by rw [HFE.out]; exact HPA.out, HKr.out⟩
    | cons al nm args k r =>
      simp only [Sels.len] at hg1 hg2 hj1 hj2
      have hlt : j < f.len := by omega
      obtain ⟨b1, o1, aa1, ca1, ak1, ck1, hao, p0, p1, p2, p3, hk1, hkl, hb1⟩ := HSEL.out.nth HFP.out j HPL.out
      subst hao
      have hnx : ¬ (b1 = c1 ∨ c2 < b1) := by omega
      have p0 := HKr.out.cell p0 hnx
      have p1 := HKr.out.cell p1 hnx
      have p2 := HKr.out.cell p2 hnx
      have p3 := HKr.out.cell p3 hnx
      obtain ⟨hwS, _, hwK, hwR⟩ := wrongQ_ok HOK.out.2
      obtain ⟨ho1, ho2, ho3⟩ := HOK.out.1
      have HSZ := hide (show k.size' < m ∧ (pathsV a p).length + k.size' + 1 ≤ f.size' by
        have h1 := congrArg Sels.size' HFP.out
        rw [appS_size, Sels.size'] at h1
        rw [pathsV_len]
        have := HM.out
        omega)
      have hcl := called_len hwS
      have HKID := hide hk1
      have HWK := hide hwK
      have HWR := hide hwR
      clear hk1 hwS hwK hwR
      obtain ⟨c, hc⟩ : ∃ c, calledQ al nm = c := ⟨_, rfl⟩
      rw [hc] at hcl
      have HC := hide hc
      obtain ⟨ac, hac⟩ : ∃ ac, ac = a ++ c := ⟨_, rfl⟩
      have hba : (⟨a.toArray⟩ : ByteArray) ++ ⟨c.toArray⟩ = ⟨ac.toArray⟩ := by rw [hac]; exact bytes_app a c
      have hbb : (⟨ac.toArray⟩ : ByteArray) ++ ⟨#[47]⟩ = ⟨(ac ++ [47]).toArray⟩ := bytes_app ac [47]
      have hal2 : ac.length ≤ 13 * d + 12 := by rw [hac]; simp; omega
      have HAC := hide hac
      obtain ⟨w1, hw1⟩ : ∃ w1, w1 = wr.alloc (.cells #[.string ⟨al.toArray⟩, .string ⟨nm.toArray⟩, .slice aa1 args.length ca1, .slice ak1 k.len ck1] 62) := ⟨_, rfl⟩
      obtain ⟨gs, hgs⟩ : ∃ gs, gs = wr.heap.size := ⟨_, rfl⟩
      have HKr1 := hide (show Same wr w1 by rw [hw1]; exact (Kept.refl _ wr).alloc _)
      have HBS := hide (show w1.heap[gs]? = some (.cells #[.string ⟨al.toArray⟩, .string ⟨nm.toArray⟩, .slice aa1 args.length ca1, .slice ak1 k.len ck1] 62 (0, 0)) by rw [hw1, hgs]; exact heap_alloc_new wr _)
      have hcd := called_is w1 al nm aa1 ak1 args.length k.len ca1 ck1
      rw [hc] at hcd
      have HCD := hide hcd
      have hc2r : c2 < wr.heap.size := by have := HKr.out.size; omega
      have hgs2 : c2 < gs := by omega
      have hgsr : wr.heap.size ≤ gs := by omega
      clear hcd hc hac
      go_upto_region 3 with fail
      rw [← hw1, ← hgs]
      clear hw1 hgs p0 p1 p2 p3
      obtain ⟨q0, q1, q2, q3⟩ := cells4 HBS.out
      have hgs1 : gs < w1.heap.size := (Array.getElem?_eq_some_iff.1 HBS.out).1
      go_wp2_with fail
      refine HCD.out.mono ?_
      rintro e w2 ⟨rfl, hK2⟩
      have HK2 := hide (show Same wr w2 from tra HKr1.out hK2)
      have HBS2 := hide (blk_kept HBS.out hK2 (fun f => f))
      have hpl : (acc ++ pathsV a p).length ≤ 999 := by have := HSZ.out.2; simp; omega
      obtain ⟨T, hT⟩ : ∃ T, T = acc ++ pathsV a p := ⟨_, rfl⟩
      rw [← hT] at HPA hpl
      have HT := hide hT
      clear hT
      obtain ⟨vp, hvb, hvo⟩ := HPA.out
      obtain ⟨ap, cp, hvp⟩ := own_slice hvo
      subst hvp
      have HVO := hide hvo
      have hown2 := own_kept hvo HK2.out (fun _ _ f => f)
      have hB2 := blk_kept hvb HK2.out (fun f => f)
      have HO2 := hide hown2
      have HB2 := hide hB2
      obtain ⟨x0, xf⟩ := blk1 hB2
      have hc1w : c1 < w2.heap.size := (Array.getElem?_eq_some_iff.1 hB2).1
      clear hK2 hvb hvo hB2 q0 q1 q2 q3 hgs1
      go_wp2_with (at_builtin; refine wpList_append_own_at _ rfl _ _ 39 rfl (c2 + 1) 9 i0 _ 1 16 Try.underlying39 hi hz0 hz1 hz2 rfl (by decide) _ _ _ rfl (hown2.alloc _) ⟨w2.heap.size, 0, none⟩ 1 1 [.string ⟨ac.toArray⟩] rfl rfl ?a1 ?a2 ?a3 ?a4 ?a5 ?_)
      case a1 =>
        intro j u hj
        rw [add_none, Nat.zero_add, World.cell?_alloc_new]
        simpa using hj
      case a2 => intro u hu; simp at hu; subst hu; rfl
      case a3 => unfold maxLen; omega
      case a4 => omega
      case a5 => simp; have := HK2.out.size; omega
      intro v5 w5 hown5 hgr5 _ hat5
      obtain ⟨g5, c5, hv5⟩ := own_form hown5 (by omega)
      subst hv5
      have hX : ∀ kk, some kk = (Value.slice ap T.length cp).ownBlock → c2 < kk ∧ kk < gs := fun kk e => by
        have := own_up HVO.out kk e.symm
        omega
      have hKg : Kept (fun kk => some kk = (Value.slice ap T.length cp).ownBlock) w2 w5 := ((Kept.refl _ w2).alloc _).trans (grown_kept hgr5) (fun _ _ e => e)
      have hB5 := blk_kept HB2.out hKg (fun e => by have := hX c1 e; omega)
      obtain ⟨z0, zf⟩ := blk1 hB5
      have hS5 := blk_kept HBS2.out hKg (fun e => by have := hX gs e; omega)
      have HX := hide (show ∀ x, Kept (fun k => k = c1 ∨ c2 < k) w (w5.setCell ⟨c1, 0, none⟩ x) ∧ (w5.setCell ⟨c1, 0, none⟩ x).heap[c1]? = some (.cells #[x] 39 (0, 0)) ∧ Kept (· = c1) w5 (w5.setCell ⟨c1, 0, none⟩ x) ∧ (w5.setCell ⟨c1, 0, none⟩ x).heap[gs]? = some (.cells #[.string ⟨al.toArray⟩, .string ⟨nm.toArray⟩, .slice aa1 args.length ca1, .slice ak1 k.len ck1] 62 (0, 0)) from fun x =>
        ⟨(((HKr.out.trans (Same.to (X := fun k => k = c1 ∨ c2 < k) HK2.out) (fun _ _ e => e)).trans hKg (fun kk hk e => .inr (hX kk e).1)).setCell (p := ⟨c1, 0, none⟩) (fun _ => .inl rfl) x), by simp [World.setCell, Array.getElem?_modify, hB5], (Kept.refl _ w5).setB 0 x, blk_kept hS5 ((Kept.refl (· = c1) w5).setB 0 x) (by omega)⟩)
      obtain ⟨w6, hw6⟩ : ∃ w6, w6 = w5.setCell ⟨c1, 0, none⟩ (.slice (some ⟨g5, 0, none⟩) (T.length + 1) c5) := ⟨_, rfl⟩
      have HX6 := hide (HX.out (.slice (some ⟨g5, 0, none⟩) (T.length + 1) c5))
      rw [← hw6] at HX6
      have HO6 := hide (show w6.ownsRow (c2 + 1) 9 1 (.slice (some ⟨g5, 0, none⟩) (T.length + 1) c5) (T ++ [ac]).length (strCells (T ++ [ac])) by
        rw [strCells_app, List.length_append]
        exact own_kept hown5 HX6.out.2.2.1 (fun kk hk e => by omega))
      have HP6 := hide (show PathsAt w6 c1 (c2 + 1) (T ++ [ac]) from ⟨_, HX6.out.2.1, HO6.out⟩)
      have hc26 : c2 < w6.heap.size := by have h1 := HX6.out.1.size; omega
      have HFN6 := hide (HX6.out.1.cell HFN.out (show ¬ (c2 = c1 ∨ c2 < c2) by omega))
      have HREC := hide (HIH.out k.size' HSZ.out.1 k rfl w6 (ac ++ [47]) (.slice ak1 k.len ck1) c1 c2 (d + 1) [] (T ++ [ac]) h12 hc26 HP6.out (HKID.out.keep HX6.out.1 (fun b _ hb => ⟨by omega, hb⟩)) HFN6.out ho2 HWK.out (by simp; omega) (by omega) (by have h1 := HSZ.out.2; have h2 := congrArg List.length HT.out; simp at h2 ⊢; omega))
      have HEQ := hide (show T ++ [ac] ++ pathsV (ac ++ [47]) k = acc ++ pathsV a (appS p (.cons al nm args k .nil)) by
        rw [pathsV_app, HT.out, pathsV, pathsV, HC.out, HAC.out]
        simp)
      have HNX := hide (show (appS p (.cons al nm args k .nil)).len = j + 1 ∧ f = appS (appS p (.cons al nm args k .nil)) r by rw [appS_len, HPL.out, appS_snoc]; exact ⟨rfl, HFP.out⟩)
      have HO3 := hide ho3
      clear hown5 hgr5 hat5 hKg hB5 hS5 hX hown2 x0 xf
      have hcf : ∀ (args : Array Value) (w : World), (callFunc 23 args).run Try.prog w = .ok (.enter 23 args) w := by intro args w; kernel_rfl
      go_upto_region 5 with fail
      rw [← hw6]
      clear hw6 z0 zf HX
      have f6 := HFN6.out
      obtain ⟨q0, q1, q2, q3⟩ := cells4 HX6.out.2.2.2
      go_wp2_with fail
      refine HREC.out.mono ?_
      rintro e w7 ⟨rfl, hP7, hK7⟩
      have HP7 := hide hP7
      have HK7 := hide (HX6.out.1.trans hK7 (fun _ _ e => e))
      rw [HEQ.out] at HP7
      clear hP7 hK7 f6 q0 q1 q2 q3
      go_wp2_with fail
      go_roundg (gk - 1)
      case measure => omega
      case rel => exact ⟨j + 1, appS p (.cons al nm args k .nil), r, _, by omega, by omega, by omega, by omega, by go_num, HNX.out.1, HNX.out.2, HP7.out, HK7.out, ⟨HO3.out, HWR.out⟩⟩

theorem paths_any (m : Nat) : PT m := by
  induction m using Nat.strongRecOn with
  | ind m ih => exact paths_step m ih

set_option maxRecDepth 20000 in
set_option maxHeartbeats 3200000 in
theorem vPaths_ok (w : World) (vt vq : Value) (types : List TypeT) (q : Sels) (ht : TypSl anyB w vt types) (hq : SelSl w vq q) (h0 : checkV types q = 0) :
    Calls Try.prog 10 #[vt, vq] w fun e w' => ∃ a c, e = .returned (.tuple #[.slice a (pathsV [] q).length c, .int .i64 0]) ∧ StrSl (fun b => w.heap.size ≤ b) w' (.slice a (pathsV [] q).length c) (pathsV [] q) ∧ Same w w' := by
  obtain ⟨at', ct, rfl, _, _⟩ := id ht
  obtain ⟨aq, cq, rfl, _, _⟩ := id hq
  have HB := hide hq.below
  have hqy := vQuery_any w _ _ types q ht hq
  rw [h0] at hqy
  have HQY := hide hqy
  have hcq : checkQ q = 0 := by
    unfold checkV at h0
    by_cases h1 : checkSc types = 0
    · rw [if_neg (not_not_intro h1)] at h0
      by_cases h2 : checkQ q = 0
      · exact h2
      · rw [if_pos h2] at h0; exact absurd h0 h2
    · rw [if_pos h1] at h0; exact absurd h0 h1
  obtain ⟨_, hk1, hk2, hk3⟩ := (checkQ_iff q).1 hcq
  have HKK := hide (And.intro hk1 (And.intro hk2 hk3))
  clear ht hq hqy h0 hcq hk1 hk2 hk3
  have hmf : ∀ (fn : Fn) (first cap : Array Value) (w : World), (Instr.makeFunc fn first cap).run Try.prog w = .ok (.func fn first cap) w := fun _ _ _ _ => rfl
  go_enter Try.func10, Try.ntmps10
  go_wp2_with fail
  refine HQY.out.mono ?_
  rintro e w1 ⟨rfl, hK1⟩
  have HK1 := hide hK1
  obtain ⟨c1, hc1⟩ : ∃ c1, c1 = w1.heap.size := ⟨_, rfl⟩
  obtain ⟨c2, hc2⟩ : ∃ c2, c2 = w1.heap.size + 1 := ⟨_, rfl⟩
  obtain ⟨w3, hw3⟩ : ∃ w3, w3 = (w1.alloc (.cells #[.slice none 0 0] 39)).alloc (.cells #[.func (.func 23) #[] #[.pointer (some ⟨w1.heap.size, 0, none⟩), .pointer (some ⟨w1.heap.size + 1, 0, none⟩)]] 59) := ⟨_, rfl⟩
  have HK13 := hide (show Same w1 w3 by rw [hw3]; exact ((Kept.refl _ w1).alloc _).alloc _)
  have HB3 := hide (show w3.heap[c1]? = some (.cells #[.slice none 0 0] 39 (0, 0)) ∧ w3.heap[c2]? = some (.cells #[.func (.func 23) #[] #[.pointer (some ⟨c1, 0, none⟩), .pointer (some ⟨c2, 0, none⟩)]] 59 (0, 0)) by
    rw [hw3, hc1, hc2]
    refine ⟨?_, ?_⟩
    · rw [Below.heap_alloc _ _ _ (by simp)]; exact heap_alloc_new w1 _
    · have := heap_alloc_new (w1.alloc (.cells #[.slice none 0 0] 39)) (.cells #[.func (.func 23) #[] #[.pointer (some ⟨w1.heap.size, 0, none⟩), .pointer (some ⟨w1.heap.size + 1, 0, none⟩)]] 59)
      simpa using this)
  have h12 : c1 < c2 := by omega
  have hc23 : c2 < w3.heap.size := (Array.getElem?_eq_some_iff.1 HB3.out.2).1
  have HW := hide (show w.heap.size ≤ c1 by rw [hc1]; exact hK1.size)
  have HFN := hide (blk1 HB3.out.2).1
  have HREC := hide (paths_any q.size' q rfl w3 [] (.slice aq q.len cq) c1 c2 1 [] [] h12 hc23 ⟨_, HB3.out.1, World.ownsRow_nil _ _ _ _⟩ (HB.out.keep (tra HK1.out HK13.out) (fun b _ hb => ⟨fun f => f, by have := HW.out; omega⟩)) HFN.out HKK.out.1 HKK.out.2.2 (by simp) (by omega) (by have := HKK.out.2.1; simp; omega))
  have HLEN := hide (show (pathsV [] q).length ≤ 40 by rw [pathsV_len]; exact HKK.out.2.1)
  have hcf : ∀ (args : Array Value) (w : World), (callFunc 23 args).run Try.prog w = .ok (.enter 23 args) w := by intro args w; kernel_rfl
  clear hK1
  go_upto_region 7 with fail
  rw [← hw3, ← hc2, ← hc1]
  have HC1 := hide hc1
  clear hw3 hc1 hc2
  have f1 := HFN.out
  go_wp2_with fail
  refine HREC.out.mono ?_
  rintro e w4 ⟨rfl, ⟨v, hvb, hvo⟩, hK4⟩
  rw [List.nil_append] at hvo
  obtain ⟨av, cv, hv⟩ := own_slice hvo
  subst hv
  obtain ⟨x0, _⟩ := blk1 hvb
  have HS := hide ((own_strs hvo (by have := HLEN.out; omega)).keep (Kept.refl (fun _ => False) _) (Q := fun b => w.heap.size ≤ b) (fun b _ hb => ⟨fun f => f, by have := HW.out; omega⟩))
  have HKF := hide (show Same w w4 from (tra HK1.out HK13.out).trans hK4 (fun kk hk e => by have := HW.out; omega))
  clear hvb hvo hK4 f1
  go_wp2_with fail
  go_ret2
  exact ⟨av, cv, rfl, HS.out, HKF.out⟩

theorem vPaths_bad (w : World) (vt vq : Value) (types : List TypeT) (q : Sels) (ht : TypSl anyB w vt types) (hq : SelSl w vq q) (m : Int) (hm : checkV types q = m) (h0 : m ≠ 0) :
    Calls Try.prog 10 #[vt, vq] w fun e w' => e = .returned (.tuple #[.slice none 0 0, .int .i64 m]) ∧ Same w w' := by
  obtain ⟨at', ct, rfl, _, _⟩ := id ht
  obtain ⟨aq, cq, rfl, _, _⟩ := id hq
  have hqy := vQuery_any w _ _ types q ht hq
  rw [hm] at hqy
  have HQY := hide hqy
  have hmb : (m != 0) = true := by simp [h0]
  clear ht hq hqy h0 hm
  go_enter Try.func10, Try.ntmps10
  go_wp2_with fail
  refine HQY.out.mono ?_
  rintro e w1 ⟨rfl, hK1⟩
  go_wp2_with fail
  go_ret2
  exact ⟨rfl, hK1⟩

end Go.Proofs.Ytkkjchfhgjfclac
