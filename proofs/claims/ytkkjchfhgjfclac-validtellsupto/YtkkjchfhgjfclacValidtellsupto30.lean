import Derived.Test.YtkkjchfhgjfclacValidtellsupto20
import Derived.Test.YtkkjchfhgjfclacValidtellsupto24
import Derived.Test.YtkkjchfhgjfclacValidtellsupto21
import Derived.Test.YtkkjchfhgjfclacValidtellsupto29
/- The reference's PathsOf. -/
namespace Go.Proofs.Ytkkjchfhgjfclac
open Go.RowKit

/-- append from a slice, nil or not, onto an owned row, as one step of a region that draws -/
theorem step_append_all {P : Program} {ops : Array Oper} {o : Oper} {a : Act} {w : World} {K : Act → World → Prop} {Q : Exit → Act → World → Prop} {E : Prop}
    (hg : o.guard = none) (s x : Operand) (t : TypeId) (hop : o.op = Op.call { callee := Callee.builtin Builtin.append, args := #[s, x], argTypes := #[t, t] })
    (base : Nat) (e : TypeId) (i : TypeInfo) (z : Value) (size bytes : Nat) (h1 : P.underlying t = some (.slice e)) (h2 : P.info? e = some i) (h3 : i.zero = some z) (h4 : i.size = size) (h5 : i.bytes = bytes) (h6 : z.cells.size = size) (h7 : 0 < size)
    (v : Value) (n : Nat) (xs : List Value) (hs : a.eval s = v) (hown : w.ownsRow base e size v n xs)
    (ao : Option Addr) (m c : Nat) (news : List Value) (hx : a.eval x = .slice ao m c) (hnone : ao = none → m = 0 ∧ c = 0) (hn : news.length = m * size) (hc : ∀ ad, ao = some ad → ∀ j u, news[j]? = some u → w.cell? (ad.add j) = some u) (h1c : ∀ u ∈ news, u.oneCell' = true)
    (b1 : n + m ≤ maxLen) (b2 : (n + m) * bytes ≤ 140737488355328) (hb : base ≤ w.heap.size)
    (hK : ∀ v' w', w'.ownsRow base e size v' (n + m) (xs ++ news) → w.grownBy w' v.ownBlock → K (a.put o.dst v') w') :
    if Region.wanted o (yielded ops a.tmps) = true then Oper.wp P o a w K Q else E := by
  have hw : Region.wanted o (yielded ops a.tmps) = true := by simp [Region.wanted, hg]
  rw [if_pos hw]
  cases ao with
  | some ad =>
    obtain ⟨v', w', hrun, r1, r2, _⟩ := run_append_own (P := P) w base t o.type e i z size bytes h1 h2 h3 h4 h5 h6 h7 v n xs hown ad m c news hn (hc ad rfl) h1c b1 b2 hb
    unfold Oper.wp
    simp [execOp, hop, resolve, invoke, builtin, hs, hx, hrun, Result.andThen]
    exact hK v' w' r1 r2
  | none =>
    obtain ⟨rfl, rfl⟩ := hnone rfl
    obtain rfl : news = [] := List.length_eq_zero_iff.1 (by simpa using hn)
    have hrun := run_append_owned_none (P := P) (w := w) base t o.type e i size h1 h2 v n xs hown
    unfold Oper.wp
    simp only [execOp, hop, resolve, invoke, builtin, Sem.run_bind, Sem.run_pure, Result.andThen_ok, List.map_toArray, List.map_cons, List.map_nil, hs, hx, hrun]
    exact hK v w (by simpa using hown) ⟨rfl, rfl, rfl, Nat.le_refl _, fun _ _ _ => rfl⟩

theorem own_news1 {w : World} {base : Nat} {e : TypeId} {size : Nat} {ao : Option Addr} {n cap : Nat} {xs : List Value} (h : w.ownsRow base e size (.slice ao n cap) n xs) : (∀ ad, ao = some ad → base ≤ ad.block ∧ ∀ j u, xs[j]? = some u → w.cell? (ad.add j) = some u) ∧ (ao = none → n = 0 ∧ cap = 0) := by
  have hc := fun g => World.ownsRow.cells h (g := g)
  rcases h.2 with ⟨e1, h0⟩ | ⟨g, c, cur, e1, hg, _⟩
  · cases e1
    exact ⟨(fun ad e => by cases e), fun _ => ⟨rfl, rfl⟩⟩
  · cases e1
    refine ⟨(fun ad e => ?_), (fun e => by cases e)⟩
    cases e
    exact ⟨hg, fun j u hj => hc g rfl j u hj⟩

/-- what PathsOf answers -/
def PO (a : List UInt8) (f : Sels) (w : World) (e : Ending) (w' : World) : Prop :=
  ∃ ao c, e = .returned (.slice ao (pathsV a f).length c) ∧ w'.ownsRow w.heap.size 9 1 (.slice ao (pathsV a f).length c) (pathsV a f).length (strCells (pathsV a f)) ∧ Same w w'

def PF (m : Nat) : Prop := ∀ (f : Sels), f.size' = m → ∀ (w : World) (a : List UInt8) (v : Value) (d : Nat) (seen : List (List UInt8)),
    SelSl w v f → okD d f → wrongQ seen f = 0 → a.length ≤ 13 * d → d ≤ 6 → f.size' ≤ 1000 →
    Calls Try.prog 12 #[.string ⟨a.toArray⟩, v] w (PO a f w)

set_option maxRecDepth 20000 in
set_option maxHeartbeats 6400000 in
theorem rpaths_step (m : Nat) (IH : ∀ m', m' < m → PF m') : PF m := by
  intro f hm w a v d seen hsel hok hwr hal hd hlen
  obtain ⟨ao, cap, rfl, ⟨hmax, _⟩, _⟩ := id hsel
  have hmax' : f.len ≤ 9223372036854775807 := hmax
  obtain ⟨i0, hi, hz0, hz1, hz2⟩ := info_parts infoStr
  have HSEL := hide hsel
  have HIH := hide IH
  have HM := hide hm
  clear hsel IH hm hmax
  go_enter Try.func12, Try.ntmps12
  go_wp2_with fail
  go_loopg [5, 6] f.len (fun gg ov i wr => ∃ (j : Nat) (p x : Sels) (se : List (List UInt8)), x.len ≤ gg ∧ gg ≤ x.len ∧ j + x.len ≤ f.len ∧ f.len ≤ j + x.len ∧ i = .int .i64 j ∧ Hid (p.len = j) ∧ Hid (f = appS p x) ∧ Hid (wr.ownsRow w.heap.size 9 1 ov (pathsV a p).length (strCells (pathsV a p))) ∧ Hid (Same w wr) ∧ Hid (okD d x ∧ wrongQ se x = 0))
  case atStart => exact ⟨0, .nil, f, seen, Nat.le_refl _, Nat.le_refl _, by omega, by omega, rfl, rfl, rfl, World.ownsRow_nil _ _ _ _, Kept.refl _ _, ⟨hok, hwr⟩⟩
  case round =>
    obtain ⟨j, p, x, se, hg1, hg2, hj1, hj2, rfl, HPL, HFP, HOr, HKr, HOK⟩ := hrel
    obtain ⟨T, hT⟩ : ∃ T, T = pathsV a p := ⟨_, rfl⟩
    rw [← hT] at HOr
    have HT := hide hT
    clear hT
    obtain ⟨ap, cp, hov⟩ := own_slice HOr.out
    subst hov
    cases x with
    | nil =>
      simp only [Sels.len] at hg1 hg2 hj1 hj2
      have HFE := hide (show f = p by rw [HFP.out]; exact appS_nil p)
      go_wp2_with fail
      go_ret
      refine ⟨ap, cp, ?_, ?_, HKr.out⟩
      · rw [HFE.out, ← HT.out]; rfl
      · rw [HFE.out, ← HT.out]; exact HOr.out
    | cons al nm args k r =>
      simp only [Sels.len] at hg1 hg2 hj1 hj2
      have hlt : j < f.len := by omega
      obtain ⟨b1, o1, aa1, ca1, ak1, ck1, hao, p0, p1, p2, p3, ha1, hk1, hal1⟩ := selSl_nth HSEL.out HFP.out j HPL.out
      subst hao
      have HP3 := hide p3
      have p0 := HKr.out.cell p0 (fun f => f)
      have p1 := HKr.out.cell p1 (fun f => f)
      have p2 := HKr.out.cell p2 (fun f => f)
      have p3 := HKr.out.cell p3 (fun f => f)
      obtain ⟨hwS, _, hwK, hwR⟩ := wrongQ_ok HOK.out.2
      obtain ⟨ho1, ho2, ho3⟩ := HOK.out.1
      have HSZ := hide (show k.size' < m ∧ T.length + k.size' + 1 ≤ f.size' ∧ k.size' ≤ 1000 by
        have h1 := congrArg Sels.size' HFP.out
        rw [appS_size, Sels.size'] at h1
        rw [HT.out, pathsV_len]
        have := HM.out
        omega)
      have hcl := called_len hwS
      have HKID := hide hk1
      have HWK := hide hwK
      have HWR := hide hwR
      have HO3 := hide ho3
      have HO2 := hide ho2
      clear hk1 ha1 hwS hwK hwR ho3 ho2
      obtain ⟨c, hc⟩ : ∃ c, calledQ al nm = c := ⟨_, rfl⟩
      rw [hc] at hcl
      have HC := hide hc
      obtain ⟨ac, hac⟩ : ∃ ac, ac = a ++ c := ⟨_, rfl⟩
      have hba : (⟨a.toArray⟩ : ByteArray) ++ ⟨c.toArray⟩ = ⟨ac.toArray⟩ := by rw [hac]; exact bytes_app a c
      have hbb : (⟨ac.toArray⟩ : ByteArray) ++ ⟨#[47]⟩ = ⟨(ac ++ [47]).toArray⟩ := bytes_app ac [47]
      have hal2 : ac.length ≤ 13 * d + 12 := by rw [hac]; simp; omega
      have HAC := hide hac
      have hcd := calledOf_is wr al nm aa1 ak1 args.length k.len ca1 ck1
      rw [hc] at hcd
      have HCD := hide hcd
      clear hcd hc hac
      obtain ⟨K, hK⟩ : ∃ K, K = pathsV (ac ++ [47]) k := ⟨_, rfl⟩
      have HREC := hide (show ∀ wx, Same w wx → Calls Try.prog 12 #[.string ⟨(ac ++ [47]).toArray⟩, .slice ak1 k.len ck1] wx fun e w' => ∃ ao c, e = .returned (.slice ao K.length c) ∧ w'.ownsRow wx.heap.size 9 1 (.slice ao K.length c) K.length (strCells K) ∧ Same wx w' from fun wx hk => by
        have h1 := HIH.out k.size' HSZ.out.1 k rfl wx (ac ++ [47]) (.slice ak1 k.len ck1) (d + 1) [] (HKID.out.same hk) HO2.out HWK.out (by simp; omega) (by omega) HSZ.out.2.2
        unfold PO at h1
        rw [← hK] at h1
        exact h1)
      have HKL := hide (show K.length ≤ 1000 ∧ T.length ≤ 999 by rw [hK, pathsV_len]; have := HSZ.out; omega)
      have HEQ := hide (show T ++ [ac] ++ K = pathsV a (appS p (.cons al nm args k .nil)) by
        rw [pathsV_app, HT.out, hK, pathsV, pathsV, HC.out, HAC.out]
        simp)
      have HNX := hide (show (appS p (.cons al nm args k .nil)).len = j + 1 ∧ f = appS (appS p (.cons al nm args k .nil)) r by rw [appS_len, HPL.out, appS_snoc]; exact ⟨rfl, HFP.out⟩)
      clear hK
      go_wp2_with fail
      refine HCD.out.mono ?_
      rintro e w2 ⟨rfl, hK2⟩
      have HK2 := hide (tra HKr.out hK2)
      have HROW := hide (own_kept HOr.out hK2 (fun _ _ f => f))
      have s1 := hK2.cell p3 (fun f => f)
      have hlt2 : j < f.len := hlt
      clear hK2 p0 p1 p2 p3
      obtain ⟨hKl1, hKl2⟩ := HKL.out
      have hzw : w.heap.size ≤ w2.heap.size := HK2.out.size
      have hacl : ac.length ≤ 9223372036854775806 := by omega
      have hacs : ¬ 9223372036854775807 < ac.length + 1 := by omega
      go_upto_region 6 with fail
      go_region_held3 (fun w' => w'.cell? ⟨b1, o1 + j * 4 + 3, none⟩ = some (.slice ak1 k.len ck1)) (go_keep)
        (first
          | (refine step_append_all rfl (.tmp 21) (.tmp 23) 39 rfl w.heap.size 9 i0 _ 1 16 Try.underlying39 hi hz0 hz1 hz2 rfl (by decide) (.slice ap T.length cp) T.length (strCells T) (by rfl) ((HROW.out.alloc _).drew) (some ⟨w2.heap.size, 0, none⟩) 1 1 [.string ⟨ac.toArray⟩] (by rfl) (fun e => by cases e) rfl (fun ad e j u hj => by cases e; rw [World.cell?_drew, add_none, Nat.zero_add, World.cell?_alloc_new]; simpa using hj) (by intro u hu; simp at hu; subst hu; rfl) (by unfold maxLen; omega) (by omega) (by simp; omega) ?_; intro v5 w5 hown5 hgr5; obtain ⟨g5, c5, hv5⟩ := own_form hown5 (by omega); subst hv5; have hKw5 : Same w w5 := ((HK2.out.alloc _).drew).grown hgr5 (fun kk e hlt => by have := own_up HROW.out kk e; omega); have s1 := hKw5.cell HP3.out (fun f => f); have HOW5 := hide hown5; clear hgr5 hown5)
          | (refine step_append_all rfl (.tmp 21) (.tmp 23) 39 rfl w.heap.size 9 i0 _ 1 16 Try.underlying39 hi hz0 hz1 hz2 rfl (by decide) (.slice ap T.length cp) T.length (strCells T) (by rfl) (own_kept HROW.out hK2n (fun _ _ f => f)) (some ⟨w2.heap.size, 0, none⟩) 1 1 [.string ⟨ac.toArray⟩] (by rfl) (fun e => by cases e) rfl (fun ad e j u hj => by cases e; rw [add_none, Nat.zero_add]; exact hxc j u hj) (by intro u hu; simp at hu; subst hu; rfl) (by unfold maxLen; omega) (by omega) (by omega) ?_; intro v5 w5 hown5 hgr5; obtain ⟨g5, c5, hv5⟩ := own_form hown5 (by omega); subst hv5; have hKg : Kept (fun kk => some kk = (Value.slice ap T.length cp).ownBlock) wn w5 := grown_kept hgr5; have hsub : ∀ ad, asb = some ad → ∀ j u, (strCells K)[j]? = some u → w5.cell? (ad.add j) = some u := (fun ad e j u hj => hKg.cell ((own_news1 HSO.out).1 ad e |>.2 j u hj) (fun e2 => by have h1 := ((own_news1 HSO.out).1 ad e).1; have h2 := own_up HROW.out _ e2.symm; simp [Addr.add] at h2; omega)); have hKw5 : Same w w5 := hKwn.trans hKg (fun kk hk e => by have := own_up HROW.out kk e.symm; omega); have s1 := hKw5.cell HP3.out (fun f => f); have HOW5 := hide hown5; have hz5 := hKw5.size; clear hgr5 hown5 hKg)
          | (refine step_append_all rfl (.tmp 21) (.tmp 23) 39 rfl w.heap.size 9 i0 _ 1 16 Try.underlying39 hi hz0 hz1 hz2 rfl (by decide) (.slice ap T.length cp) T.length (strCells T) (by rfl) ((own_kept HROW.out hK2n (fun _ _ f => f)).alloc _) (some ⟨wn.heap.size, 0, none⟩) 1 1 [.string ⟨ac.toArray⟩] (by rfl) (fun e => by cases e) rfl (fun ad e j u hj => by cases e; rw [add_none, Nat.zero_add, World.cell?_alloc_new]; simpa using hj) (by intro u hu; simp at hu; subst hu; rfl) (by unfold maxLen; omega) (by omega) (by simp; omega) ?_; intro v5 w5 hown5 hgr5; obtain ⟨g5, c5, hv5⟩ := own_form hown5 (by omega); subst hv5; have hKg : Kept (fun kk => some kk = (Value.slice ap T.length cp).ownBlock) wn w5 := ((Kept.refl _ wn).alloc _).trans (grown_kept hgr5) (fun _ _ e => e); have hsub : ∀ ad, asb = some ad → ∀ j u, (strCells K)[j]? = some u → w5.cell? (ad.add j) = some u := (fun ad e j u hj => hKg.cell ((own_news1 HSO.out).1 ad e |>.2 j u hj) (fun e2 => by have h1 := ((own_news1 HSO.out).1 ad e).1; have h2 := own_up HROW.out _ e2.symm; simp [Addr.add] at h2; omega)); have hKw5 : Same w w5 := hKwn.trans hKg (fun kk hk e => by have := own_up HROW.out kk e.symm; omega); have s1 := hKw5.cell HP3.out (fun f => f); have HOW5 := hide hown5; have hz5 := hKw5.size; clear hgr5 hown5 hKg)
          | (go_at_call 12; refine (HREC.out _ (hKw5)).mono ?_; rintro e wn ⟨asb, csb, rfl, hso, hKn⟩; have hKwn : Same w wn := tra (hKw5) hKn; have s1 := hKwn.cell HP3.out (fun f => f); have HSO := hide hso; have hzn := hKwn.size; have HOWN := hide (own_kept HOW5.out hKn (fun _ _ f => f)); clear hso hKn)
          | (go_at_call 12; refine (HREC.out _ ((HK2.out.alloc _).drew)).mono ?_; rintro e wn ⟨asb, csb, rfl, hso, hKn⟩; have hKwn : Same w wn := tra ((HK2.out.alloc _).drew) hKn; have s1 := hKwn.cell HP3.out (fun f => f); have HSO := hide hso; have hzn := hKwn.size; have hK2n : Same w2 wn := tra (((Kept.refl _ w2).alloc _).drew) hKn; have hxc : ∀ j u, [Value.string ⟨ac.toArray⟩][j]? = some u → wn.cell? ⟨w2.heap.size, j, none⟩ = some u := (fun j u hj => hKn.cell (by rw [World.cell?_drew, World.cell?_alloc_new]; simpa using hj) (fun f => f)); have hzs : w2.heap.size ≤ (w2.alloc (.cells #[.string ⟨ac.toArray⟩] 9)).drew.heap.size := (by simp); clear hso hKn)
          | (go_at_call 12; refine (HREC.out _ (HK2.out.drew)).mono ?_; rintro e wn ⟨asb, csb, rfl, hso, hKn⟩; have hKwn : Same w wn := tra (HK2.out.drew) hKn; have s1 := hKwn.cell HP3.out (fun f => f); have HSO := hide hso; have hzn := hKwn.size; have hK2n : Same w2 wn := tra ((Kept.refl _ w2).drew) hKn; have hzs : w2.heap.size ≤ w2.drew.heap.size := Nat.le_refl _; clear hso hKn)
          | (refine step_append_all rfl (.tmp 24) (.tmp 32) 39 rfl w.heap.size 9 i0 _ 1 16 Try.underlying39 hi hz0 hz1 hz2 rfl (by decide) (.slice (some ⟨g5, 0, none⟩) (T.length + 1) c5) (T.length + 1) (strCells T ++ [.string ⟨ac.toArray⟩]) (by rfl) (HOWN.out) asb K.length csb (strCells K) (by rfl) (own_news1 HSO.out).2 (strCells_len K) (fun ad e => ((own_news1 HSO.out).1 ad e).2) (strCells_one K) (by unfold maxLen; omega) (by omega) (by omega) ?_; intro v7 w7 hown7 hgr7; obtain ⟨g7, c7, hv7⟩ := own_form hown7 (by omega); subst hv7; have hKw7 : Same w w7 := (hKwn).grown hgr7 (fun kk e hlt => by have := own_up (HOWN.out) kk e; omega); have s1 := hKw7.cell HP3.out (fun f => f); have HOW7 := hide hown7; clear hown7 hgr7)
          | (refine step_append_all rfl (.tmp 24) (.tmp 32) 39 rfl w.heap.size 9 i0 _ 1 16 Try.underlying39 hi hz0 hz1 hz2 rfl (by decide) (.slice (some ⟨g5, 0, none⟩) (T.length + 1) c5) (T.length + 1) (strCells T ++ [.string ⟨ac.toArray⟩]) (by rfl) (HOW5.out) asb K.length csb (strCells K) (by rfl) (own_news1 HSO.out).2 (strCells_len K) (hsub) (strCells_one K) (by unfold maxLen; omega) (by omega) (by omega) ?_; intro v7 w7 hown7 hgr7; obtain ⟨g7, c7, hv7⟩ := own_form hown7 (by omega); subst hv7; have hKw7 : Same w w7 := (hKw5).grown hgr7 (fun kk e hlt => by have := own_up (HOW5.out) kk e; omega); have s1 := hKw7.cell HP3.out (fun f => f); have HOW7 := hide hown7; clear hown7 hgr7))
      all_goals
        have HO7 := hide (show w7.ownsRow w.heap.size 9 1 (.slice (some ⟨g7, 0, none⟩) (T.length + 1 + K.length) c7) (pathsV a (appS p (.cons al nm args k .nil))).length (strCells (pathsV a (appS p (.cons al nm args k .nil)))) by
          rw [← HEQ.out, strCells_app, strCells_app, List.length_append, List.length_append]
          exact HOW7.out)
        have HK7 := hide hKw7
        clear hKw7 s1
        go_wp2_with fail
        go_roundg (gk - 1)
        case measure => omega
        case rel => exact ⟨j + 1, appS p (.cons al nm args k .nil), r, _, by omega, by omega, by omega, by omega, by go_num, HNX.out.1, HNX.out.2, HO7.out, HK7.out, ⟨HO3.out, HWR.out⟩⟩

theorem rpaths_any (m : Nat) : PF m := by
  induction m using Nat.strongRecOn with
  | ind m ih => exact rpaths_step m ih

end Go.Proofs.Ytkkjchfhgjfclac

/- ValidTells: the walk of the law's function. -/
namespace Go.Proofs.Ytkkjchfhgjfclac
open Go.RowKit

theorem checkV_right {types : List TypeT} {q : Sels} (h0 : checkV types q = 0) : checkQ q = 0 := by
  unfold checkV at h0
  by_cases h1 : checkSc types = 0
  · rw [if_neg (not_not_intro h1)] at h0
    by_cases h2 : checkQ q = 0
    · exact h2
    · rw [if_pos h2] at h0; exact absurd h0 h2
  · rw [if_pos h1] at h0; exact absurd h0 h1

set_option maxRecDepth 20000 in
set_option maxHeartbeats 3200000 in
theorem validTells_any (w : World) (vt vq : Value) (types : List TypeT) (q : Sels) (ht : TypSl anyB w vt types) (hq : SelSl w vq q) (hs : q.size' ≤ 4000000) :
    Calls Try.prog 4 #[vt, vq] w fun e w' => e = .returned (.bool true) ∧ Same w w' := by
  obtain ⟨at', ct, rfl, _, _⟩ := id ht
  obtain ⟨aq, cq, rfl, _, _⟩ := id hq
  have HT := hide ht
  have HQ := hide hq
  have HVB := hide validBegun_any
  obtain ⟨m, hm⟩ : ∃ m, checkV types q = m := ⟨_, rfl⟩
  have HCF := hide (show ∀ wx, Same w wx → Calls Try.prog 11 #[.slice at' types.length ct, .slice aq q.len cq] wx fun e w' => e = .returned (.int .i64 m) ∧ Same wx w' from fun wx hk => by
    have h1 := rCheckFits_any wx _ _ types q (HT.out.same hk) (HQ.out.same hk) hs
    rw [hm] at h1
    exact h1)
  have HVQ := hide (show ∀ wx, Same w wx → Calls Try.prog 14 #[.slice at' types.length ct, .slice aq q.len cq] wx fun e w' => e = .returned (.int .i64 m) ∧ Same wx w' from fun wx hk => by
    have h1 := vQuery_any wx _ _ types q (HT.out.same hk) (HQ.out.same hk)
    rw [hm] at h1
    exact h1)
  have HM := hide hm
  clear ht hq hs hm
  by_cases hm0 : m = 0
  · subst hm0
    have hcq := checkV_right HM.out
    obtain ⟨_, hq1, hq40, hwq⟩ := (checkQ_iff q).1 hcq
    have HP := hide (vPaths_ok w _ _ types q HT.out HQ.out HM.out)
    have HPO := hide (show ∀ wx, Same w wx → Calls Try.prog 12 #[.string ⟨#[]⟩, .slice aq q.len cq] wx (PO [] q wx) from fun wx hk => rpaths_any q.size' q rfl wx [] (.slice aq q.len cq) 1 [] (HQ.out.same hk) hq1 hwq (by simp) (by omega) (by omega))
    unfold PO at HPO
    have hTl : (pathsV [] q).length ≤ 40 := by rw [pathsV_len]; exact hq40
    obtain ⟨T, hT⟩ : ∃ T, T = pathsV [] q := ⟨_, rfl⟩
    rw [← hT] at HP HPO hTl
    clear hcq hq1 hq40 hwq hT
    go_enter Try.func4, Try.ntmps4
    go_wp2_with fail
    refine HP.out.mono ?_
    rintro e w1 ⟨a1, c1, rfl, hs1, hK1⟩
    have HS1 := hide hs1
    have HK1 := hide hK1
    clear hs1 hK1
    go_wp2_with fail
    refine (HCF.out _ HK1.out).mono ?_
    rintro e w2 ⟨rfl, hK2⟩
    have HS2 := hide (HS1.out.same hK2)
    have HK2 := hide (tra HK1.out hK2)
    clear hK2
    go_wp2_with fail
    refine (HPO.out _ HK2.out).mono ?_
    rintro e w3 ⟨a3, c3, rfl, ho3, hK3⟩
    have HS3 := hide (HS2.out.same hK3)
    have HR3 := hide (own_strs ho3 (by omega))
    have HK3 := hide (tra HK2.out hK3)
    clear ho3 hK3
    go_wp2_with fail
    refine (HVB.out _).mono ?_
    rintro e w4 ⟨rfl, hK4⟩
    have HS4 := hide (HS3.out.same hK4)
    have HR4 := hide (HR3.out.same hK4)
    have HK4 := hide (tra HK3.out hK4)
    clear hK4
    go_wp2_with fail
    refine (HVQ.out _ HK4.out).mono ?_
    rintro e w5 ⟨rfl, hK5⟩
    have HST := hide (sameTexts_eq w5 a1 a3 c1 c3 T _ _ (HS4.out.same hK5) (HR4.out.same hK5) (by omega))
    have HK5 := hide (tra HK4.out hK5)
    clear hK5
    go_wp2_with fail
    refine HST.out.mono ?_
    rintro e w6 ⟨rfl, n6, rfl⟩
    go_wp2_with fail
    go_ret
    exact ⟨rfl, Kept.drewN HK5.out _⟩
  · have HP := hide (vPaths_bad w _ _ types q HT.out HQ.out m HM.out hm0)
    have hmb : (m == 0) = false := by simp [hm0]
    clear hm0
    go_enter Try.func4, Try.ntmps4
    go_wp2_with fail
    refine HP.out.mono ?_
    rintro e w1 ⟨rfl, hK1⟩
    go_wp2_with fail
    refine (HCF.out _ hK1).mono ?_
    rintro e w2 ⟨rfl, hK2⟩
    have HK2 := hide (tra hK1 hK2)
    clear hK1 hK2
    go_wp2_with fail
    refine (HVB.out _).mono ?_
    rintro e w4 ⟨rfl, hK4⟩
    have HK4 := hide (tra HK2.out hK4)
    clear hK4
    go_wp2_with fail
    refine (HVQ.out _ HK4.out).mono ?_
    rintro e w5 ⟨rfl, hK5⟩
    have HST := hide (sameTexts_eq w5 none none 0 0 [] anyB anyB (StrSl.nil _ _) (StrSl.nil _ _) (by decide))
    have HK5 := hide (tra HK4.out hK5)
    clear hK5
    go_wp2_with fail
    refine HST.out.mono ?_
    rintro e w6 ⟨rfl, n6, rfl⟩
    go_wp2_with fail
    go_ret
    exact ⟨rfl, Kept.drewN HK5.out _⟩

end Go.Proofs.Ytkkjchfhgjfclac
