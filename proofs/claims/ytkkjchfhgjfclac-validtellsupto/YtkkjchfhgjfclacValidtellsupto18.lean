/- valid.Query's closure, and Query. -/
import Derived.Test.YtkkjchfhgjfclacValidtellsupto16
import Derived.Test.YtkkjchfhgjfclacValidtellsupto17
import Derived.Laws.EntriesVeiled
namespace Go.Proofs.Ytkkjchfhgjfclac
open Go.RowKit

theorem typeNamed_ix (w : World) (v : Value) (l : List TypeT) (nm : List UInt8) (P : Nat → Prop) (h : TypSl P w v l) (hh : hasT l nm = true) (x : Int) (hx : ((typeIx l nm : Nat) : Int) = x) :
    Calls Try.prog 36 #[v, .string ⟨nm.toArray⟩] w fun e w' => e = .returned (.int .i64 x) ∧ Same w w' := by
  refine (typeNamed_any w v l nm P h).mono ?_
  rintro e w' (⟨j, rfl, _, hj, hK⟩ | ⟨rfl, ha, hK⟩)
  · exact ⟨ret_int (by rw [← hx, hj.1]), hK⟩
  · rw [hh] at ha; cases ha

/-- every field that has things is of a type -/
def goodO (types : List TypeT) (o : OfferT) : Prop := ∀ f ∈ o.fields, hasThg f = true → hasT types f.of = true

theorem typeIx_lt {types : List TypeT} {nm : List UInt8} (h : hasT types nm = true) : typeIx types nm < types.length := by
  unfold typeIx
  rw [List.findIdx_lt_length]
  obtain ⟨t, ht, e⟩ := List.any_eq_true.1 h
  exact ⟨t, ht, e⟩
theorem typeOf_mem {types : List TypeT} {nm : List UInt8} (h : hasT types nm = true) : typeOf types nm ∈ types := by
  rw [typeOf_at _ _ (typeIx_lt h)]
  exact List.getElem_mem _
theorem goodO_type {types : List TypeT} (h : checkSc types = 0) {t : TypeT} (ht : t ∈ types) : goodO types (ofTypeV t) := by
  intro f hf hk
  obtain ⟨_, h3, _⟩ := (checkSc_iff types).1 h
  have h4 := h3 t ht
  simp only [ofTypeV] at hf
  rcases List.mem_cons.1 hf with rfl | hf
  · cases hk
  · have h5 := (h4.2.2.2.2.1 f hf).2.2
    rcases h5 with h5 | h5
    · exfalso
      simp only [hasThg, Bool.or_eq_true, decide_eq_true_eq] at hk
      rcases h5.1 with e | e <;> rcases hk with e2 | e2 <;> rw [e] at e2 <;> cases e2
    · exact h5.2
theorem goodO_query (types : List TypeT) : goodO types (ofQueryV types) := by
  intro f hf _
  rw [ofQueryV_fields] at hf
  obtain ⟨t, ht, rfl⟩ := List.mem_map.1 hf
  exact (hasT_iff _ _).2 (List.mem_map.2 ⟨t, ht, rfl⟩)
theorem fieldOf_mem {l : List FieldT} {nm : List UInt8} (h : hasF l nm = true) : fieldOf l nm ∈ l := by
  have hlt : fieldIx l nm < l.length := by
    unfold fieldIx
    rw [List.findIdx_lt_length]
    obtain ⟨t, ht, e⟩ := List.any_eq_true.1 h
    exact ⟨t, ht, e⟩
  rw [fieldOf_at _ _ hlt]
  exact List.getElem_mem _
theorem taken_has {o : OfferT} {nm : List UInt8} {args : List ArgT} {kl : Nat} (h : takenE o nm args kl = 0) : hasF o.fields nm = true ∧ hasThg (fieldOf o.fields nm) = decide (0 < kl) := by
  cases hh : hasF o.fields nm with
  | false => rw [(taken_e5 hh).1] at h; cases h
  | true =>
    refine ⟨rfl, ?_⟩
    rw [takenE, if_neg (by rw [hasFd_eq, hh]; simp)] at h
    by_cases h1 : wrongAgs o (fieldOf o.fields nm) args = 0
    · rw [if_neg (not_not_intro h1)] at h
      by_cases h2 : hasThg (fieldOf o.fields nm) = decide (0 < kl)
      · exact h2
      · rw [if_pos h2] at h; cases h
    · rw [if_pos h1] at h; exact absurd h h1

theorem fitsV_bad {types : List TypeT} {o : OfferT} {al nm : List UInt8} {args : List ArgT} {k r : Sels} {m : Int} (h : takenE o nm args k.len = m) (h0 : m ≠ 0) : fitsV types o (.cons al nm args k r) = m := by
  rw [fitsV, if_pos (by rw [h]; exact h0), h]
theorem fitsV_leaf {types : List TypeT} {o : OfferT} {al nm : List UInt8} {args : List ArgT} {k r : Sels} (h : takenE o nm args k.len = 0) (hk : k.len = 0) : fitsV types o (.cons al nm args k r) = fitsV types o r := by
  rw [fitsV, if_neg (not_not_intro h), if_pos hk]
theorem fitsV_kid {types : List TypeT} {o : OfferT} {al nm : List UInt8} {args : List ArgT} {k r : Sels} (m : Int) (h : takenE o nm args k.len = 0) (hk : k.len ≠ 0) (hm : fitsV types (ofTypeV (typeOf types (fieldOf o.fields nm).of)) k = m) : fitsV types o (.cons al nm args k r) = if m ≠ 0 then m else fitsV types o r := by
  rw [fitsV, if_neg (not_not_intro h), if_neg hk, hm]

/-- the closure and what it holds -/
structure ThruAt (w : World) (c1 c2 : Nat) (at' : Option Addr) (ct : Nat) (types : List TypeT) : Prop where
  fn : w.cell? ⟨c1, 0, none⟩ = some (.func (.func 33) #[] #[.pointer (some ⟨c1, 0, none⟩), .pointer (some ⟨c2, 0, none⟩)])
  ty : w.cell? ⟨c2, 0, none⟩ = some (.slice at' types.length ct)
  sl : TypSl anyB w (.slice at' types.length ct) types
theorem ThruAt.same {w w' : World} {c1 c2 : Nat} {at' : Option Addr} {ct : Nat} {types : List TypeT} (h : ThruAt w c1 c2 at' ct types) (hk : Same w w') : ThruAt w' c1 c2 at' ct types :=
  ⟨hk.cell h.fn (fun f => f), hk.cell h.ty (fun f => f), h.sl.same hk⟩

def TR (m : Nat) : Prop := ∀ (f : Sels), f.size' = m → ∀ (w : World) (o : OfferT) (af : Option Addr) (cf : Nat) (v : Value) (c1 c2 : Nat) (at' : Option Addr) (ct : Nat) (types : List TypeT),
    FldSl anyB w (.slice af o.fields.length cf) o.fields → SelSl w v f → ThruAt w c1 c2 at' ct types → checkSc types = 0 → goodO types o →
    Calls Try.prog 33 #[ofV af o.fields.length cf o, v, .pointer (some ⟨c1, 0, none⟩), .pointer (some ⟨c2, 0, none⟩)] w fun e w' => e = .returned (.int .i64 (fitsV types o f)) ∧ Same w w'

set_option maxRecDepth 20000 in
set_option maxHeartbeats 6400000 in
theorem thru_step (m : Nat) (IH : ∀ m', m' < m → TR m') : TR m := by
  intro f hm w o af cf v c1 c2 at' ct types hfl hsel hth hsc hgo
  obtain ⟨ao, cap, rfl, ⟨hmax, _⟩, _⟩ := id hsel
  have hmax' : f.len ≤ 9223372036854775807 := hmax
  have HFL := hide hfl
  have HSEL := hide hsel
  have HTH := hide hth
  have HSC := hide hsc
  have HGO := hide hgo
  have HIH := hide IH
  have HM := hide hm
  clear hfl hsel hth hsc hgo IH hm hmax
  obtain ⟨w0, hw0⟩ : ∃ w0, w0 = w.alloc (.cells #[.slice af o.fields.length cf, .string ⟨o.arg.toArray⟩, .int .i64 o.low, .int .i64 o.high] 72) := ⟨_, rfl⟩
  have HK0 := hide (show Same w w0 by rw [hw0]; exact (Kept.refl _ w).alloc _)
  obtain ⟨g, hgg⟩ : ∃ g, g = w.heap.size := ⟨_, rfl⟩
  have HBX := hide (show w0.heap[g]? = some (.cells #[.slice af o.fields.length cf, .string ⟨o.arg.toArray⟩, .int .i64 o.low, .int .i64 o.high] 72 (0, 0)) by rw [hw0, hgg]; exact heap_alloc_new w _)
  go_enter Try.func33, Try.ntmps33
  go_wp2_with fail
  rw [← hw0, ← hgg]
  clear hw0 hgg
  go_loopg [14] f.len (fun gg i wr => ∃ (j : Nat) (p x : Sels), x.len ≤ gg ∧ gg ≤ x.len ∧ j + x.len ≤ f.len ∧ f.len ≤ j + x.len ∧ i = .int .i64 j ∧ Hid (p.len = j) ∧ Hid (f = appS p x) ∧ Hid (Same w0 wr) ∧ Hid (fitsV types o f = fitsV types o x))
  case atStart => exact ⟨0, .nil, f, Nat.le_refl _, Nat.le_refl _, by omega, by omega, rfl, rfl, rfl, Kept.refl _ _, rfl⟩
  case round =>
    obtain ⟨j, p, x, hg1, hg2, hj1, hj2, rfl, HPL, HFP, HKr, HFV⟩ := hrel
    have HKw := hide (tra HK0.out HKr.out)
    cases x with
    | nil =>
      simp only [Sels.len] at hg1 hg2 hj1 hj2
      go_wp2_with fail
      go_ret
      exact ⟨ret_int (by rw [HFV.out]; rfl), HKw.out⟩
    | cons al nm args k r =>
      simp only [Sels.len] at hg1 hg2 hj1 hj2
      have hlt : j < f.len := by omega
      obtain ⟨b1, o1, aa1, ca1, ak1, ck1, hao, p0, p1, p2, p3, ha1, hk1, hal⟩ := selSl_nth HSEL.out HFP.out j HPL.out
      subst hao
      have p0 := HKw.out.cell p0 (fun f => f)
      have p1 := HKw.out.cell p1 (fun f => f)
      have p2 := HKw.out.cell p2 (fun f => f)
      have p3 := HKw.out.cell p3 (fun f => f)
      have hkl : k.len ≤ 9223372036854775807 := by obtain ⟨_, _, e, ⟨h1, _⟩, _⟩ := id hk1; exact h1
      have HKM := hide (show k.size' < m by
        have h1 := congrArg Sels.size' HFP.out
        rw [appS_size, Sels.size', HM.out] at h1
        omega)
      have HARG := hide ha1
      have HKID := hide hk1
      clear ha1 hk1
      obtain ⟨w1, hw1⟩ : ∃ w1, w1 = wr.alloc (.cells #[.string ⟨al.toArray⟩, .string ⟨nm.toArray⟩, .slice aa1 args.length ca1, .slice ak1 k.len ck1] 62) := ⟨_, rfl⟩
      obtain ⟨gs, hgs⟩ : ∃ gs, gs = wr.heap.size := ⟨_, rfl⟩
      have HK1 := hide (show Same w0 w1 by rw [hw1]; exact HKr.out.alloc _)
      have HK1w := hide (tra HK0.out HK1.out)
      have HBS := hide (show w1.heap[gs]? = some (.cells #[.string ⟨al.toArray⟩, .string ⟨nm.toArray⟩, .slice aa1 args.length ca1, .slice ak1 k.len ck1] 62 (0, 0)) by rw [hw1, hgs]; exact heap_alloc_new wr _)
      obtain ⟨te, hte⟩ : ∃ te, takenE o nm args k.len = te := ⟨_, rfl⟩
      obtain ⟨tf, htf⟩ : ∃ tf, takenF o nm args k.len = tf := ⟨_, rfl⟩
      have htk := taken_any w1 o af cf anyB (HFL.out.same HK1w.out) al nm args aa1 ak1 ca1 k.len ck1 (HARG.out.same HK1w.out) hal hkl
      rw [hte, htf] at htk
      have HTK := hide htk
      have HTE := hide hte
      have HTF := hide htf
      clear htk hte htf
      go_upto_region 4 with fail
      rw [← hw1, ← hgs]
      clear hw1 hgs p0 p1 p2 p3
      obtain ⟨q0, q1, q2, q3⟩ := cells4 HBS.out
      obtain ⟨u0, u1, u2, u3⟩ := cells4 (blk_kept HBX.out HK1.out (fun f => f))
      have hgs1 : gs < w1.heap.size := (Array.getElem?_eq_some_iff.1 HBS.out).1
      have hg1' : g < w1.heap.size := (Array.getElem?_eq_some_iff.1 (blk_kept HBX.out HK1.out (fun f => f))).1
      go_wp2_with fail
      refine HTK.out.mono ?_
      rintro e w2 ⟨rfl, hK2⟩
      obtain ⟨w3, hw3⟩ : ∃ w3, w3 = w2.alloc (.cells #[.string ⟨tf.name.toArray⟩, .int .i64 tf.kind, .string ⟨tf.of.toArray⟩] 74) := ⟨_, rfl⟩
      obtain ⟨gf, hgf⟩ : ∃ gf, gf = w2.heap.size := ⟨_, rfl⟩
      have HK13 := hide (show Same w1 w3 by rw [hw3]; exact hK2.alloc _)
      have HK3 := hide (tra HK1.out HK13.out)
      have HK3w := hide (tra HK0.out HK3.out)
      have HBF := hide (show w3.heap[gf]? = some (.cells #[.string ⟨tf.name.toArray⟩, .int .i64 tf.kind, .string ⟨tf.of.toArray⟩] 74 (0, 0)) by rw [hw3, hgf]; exact heap_alloc_new w2 _)
      have HNX := hide (show (appS p (.cons al nm args k .nil)).len = j + 1 ∧ f = appS (appS p (.cons al nm args k .nil)) r by rw [appS_len, HPL.out, appS_snoc]; exact ⟨rfl, HFP.out⟩)
      clear hK2 u0 u1 u2 u3 q0 q1 q2 q3 hgs1 hg1'
      go_upto_region 5 with fail
      rw [← hw3, ← hgf]
      clear hw3 hgf
      obtain ⟨q0, q1, q2, q3⟩ := cells4 (blk_kept HBS.out HK13.out (fun f => f))
      have hgs1 : gs < w3.heap.size := (Array.getElem?_eq_some_iff.1 (blk_kept HBS.out HK13.out (fun f => f))).1
      have hgf1 : gf < w3.heap.size := (Array.getElem?_eq_some_iff.1 HBF.out).1
      by_cases hte0 : te = 0
      · subst hte0
        by_cases hk0 : k.len = 0
        · have HN := hide (show fitsV types o f = fitsV types o r by rw [HFV.out, fitsV_leaf HTE.out hk0])
          have hk0b : ((k.len : Int) == 0) = true := by simp [hk0]
          clear hk0
          go_wp2_with fail
          go_roundg (gk - 1)
          case measure => omega
          case rel => exact ⟨j + 1, appS p (.cons al nm args k .nil), r, by omega, by omega, by omega, by omega, by go_num, HNX.out.1, HNX.out.2, HK3.out, HN.out⟩
        · have hk0b : ((k.len : Int) == 0) = false := by simp; omega
          obtain ⟨hhF, hhT⟩ := taken_has HTE.out
          have htfe : tf = fieldOf o.fields nm := by rw [← HTF.out, takenF, if_pos HTE.out]
          have HHT := hide (show hasT types tf.of = true by rw [htfe]; exact HGO.out _ (fieldOf_mem hhF) (by rw [hhT]; simp; omega))
          obtain ⟨t, htt⟩ : ∃ t, t = typeOf types tf.of := ⟨_, rfl⟩
          have HTM := hide (show t ∈ types by rw [htt]; exact typeOf_mem HHT.out)
          have HGT := hide (goodO_type HSC.out HTM.out)
          have HLT := hide (show 0 < t.fields.length ∧ t.fields.length ≤ 1000 by
            obtain ⟨_, h3, _⟩ := (checkSc_iff types).1 HSC.out
            have := (h3 t HTM.out).2.2.2.1
            omega)
          obtain ⟨ix, hix⟩ : ∃ ix, typeIx types tf.of = ix := ⟨_, rfl⟩
          have hixl : ix < types.length := by rw [← hix]; exact typeIx_lt HHT.out
          have HIX := hide (show types[ix] = t by rw [htt, typeOf_at _ _ (typeIx_lt HHT.out)]; simp only [hix])
          obtain ⟨K, hK⟩ : ∃ K, fitsV types (ofTypeV t) k = K := ⟨_, rfl⟩
          have HKK := hide hK
          have HN := hide (show fitsV types o f = if K ≠ 0 then K else fitsV types o r by rw [HFV.out]; exact fitsV_kid K HTE.out hk0 (by rw [← htfe, ← htt]; exact hK))
          have HIXE := hide hix
          clear hK hix htt htfe hhF hhT hk0
          have HT3 := hide (HTH.out.same HK3w.out)
          obtain ⟨bt, ot, aft, nft, cft, hat', y0, y1, hnf, hfs⟩ := (HTH.out.same HK3w.out).sl.at ix hixl
          subst hat'
          rw [HIX.out] at y0 hnf hfs
          subst hnf
          have HFS := hide hfs
          clear hfs
          have HALL := hide (show ∀ wx, Same w3 wx → wx.cell? ⟨c1, 0, none⟩ = some (.func (.func 33) #[] #[.pointer (some ⟨c1, 0, none⟩), .pointer (some ⟨c2, 0, none⟩)]) ∧ wx.cell? ⟨c2, 0, none⟩ = some (.slice (some ⟨bt, ot, none⟩) types.length ct) ∧ wx.cell? ⟨gf, 2, none⟩ = some (.string ⟨tf.of.toArray⟩) ∧ wx.cell? ⟨bt, ot + ix * 2, none⟩ = some (.string ⟨t.name.toArray⟩) ∧ wx.cell? ⟨bt, ot + ix * 2 + 1, none⟩ = some (.slice aft t.fields.length cft) ∧ wx.cell? ⟨gs, 3, none⟩ = some (.slice ak1 k.len ck1) from fun wx hk =>
            ⟨hk.cell HT3.out.fn (fun f => f), hk.cell HT3.out.ty (fun f => f), hk.cell (blk3 HBF.out).2.2 (fun f => f), hk.cell y0 (fun f => f), hk.cell y1 (fun f => f), hk.cell q3 (fun f => f)⟩)
          obtain ⟨s1, s2, s3, s4, s5, s6⟩ := HALL.out w3 (Kept.refl _ _)
          have HREC := hide (show ∀ wx a9 c9, Same w3 wx → FldSl anyB wx (.slice a9 (ofTypeV t).fields.length c9) (ofTypeV t).fields → Calls Try.prog 33 #[ofV a9 (ofTypeV t).fields.length c9 (ofTypeV t), .slice ak1 k.len ck1, .pointer (some ⟨c1, 0, none⟩), .pointer (some ⟨c2, 0, none⟩)] wx fun e w' => e = .returned (.int .i64 K) ∧ Same wx w' from fun wx a9 c9 hk hf9 => by
            have h1 := HIH.out k.size' HKM.out k rfl wx (ofTypeV t) a9 c9 _ c1 c2 _ ct types hf9 (HKID.out.same (tra HK3w.out hk)) (HT3.out.same hk) HSC.out HGT.out
            rw [HKK.out] at h1
            exact h1)
          have hcf : ∀ (args : Array Value) (w : World), (callFunc 33 args).run Try.prog w = .ok (.enter 33 args) w := by intro args w; kernel_rfl
          have hix0 : (0 : Int) ≤ (ix : Int) := by omega
          have hix1 : (ix : Int) < (types.length : Int) := by omega
          clear y0 y1 q0 q1 q2 q3
          go_wp2_with fail
          have hKc : Same w3 w3.drew := (Kept.refl _ _).drew
          go_region_held3 (fun w' => w'.cell? ⟨c1, 0, none⟩ = some (.func (.func 33) #[] #[.pointer (some ⟨c1, 0, none⟩), .pointer (some ⟨c2, 0, none⟩)]) ∧ w'.cell? ⟨c2, 0, none⟩ = some (.slice (some ⟨bt, ot, none⟩) types.length ct) ∧ w'.cell? ⟨gf, 2, none⟩ = some (.string ⟨tf.of.toArray⟩) ∧ w'.cell? ⟨bt, ot + ix * 2, none⟩ = some (.string ⟨t.name.toArray⟩) ∧ w'.cell? ⟨bt, ot + ix * 2 + 1, none⟩ = some (.slice aft t.fields.length cft) ∧ w'.cell? ⟨gs, 3, none⟩ = some (.slice ak1 k.len ck1))
            (go_keep)
            (first
              | (go_at_call 36; refine (typeNamed_ix _ _ types tf.of anyB (HT3.out.sl.same (by exact hKc)) HHT.out ix (by rw [HIXE.out])).mono ?_; rintro e wn ⟨rfl, hKn⟩; have hKc := tra (by exact hKc) hKn; obtain ⟨s1, s2, s3, s4, s5, s6⟩ := HALL.out _ hKc; clear hKn)
              | (go_at_call 35; refine (ofType_any _ t aft cft anyB (HFS.out.same (by exact hKc)) HLT.out.2 HLT.out.1).mono ?_; rintro e wn ⟨a9, c9, rfl, hf9, hKn⟩; have hKc := tra (by exact hKc) hKn; obtain ⟨s1, s2, s3, s4, s5, s6⟩ := HALL.out _ hKc; have HF9 := hide hf9.any; clear hKn hf9)
              | (go_at_call 33; refine (HREC.out _ a9 c9 (by exact hKc) HF9.out).mono ?_; rintro e wn ⟨rfl, hKn⟩; have hKc := tra (by exact hKc) hKn; obtain ⟨s1, s2, s3, s4, s5, s6⟩ := HALL.out _ hKc; clear hKn))
          have HKZ := hide (tra HK3.out hKc)
          clear s1 s2 s3 s4 s5 s6 hKc
          by_cases hK0 : K = 0
          · subst hK0
            have HNN := hide (show fitsV types o f = fitsV types o r by rw [HN.out]; rfl)
            go_wp2_with fail
            go_roundg (gk - 1)
            case measure => omega
            case rel => exact ⟨j + 1, appS p (.cons al nm args k .nil), r, by omega, by omega, by omega, by omega, by go_num, HNX.out.1, HNX.out.2, HKZ.out, HNN.out⟩
          · have HNN := hide (show fitsV types o f = K by rw [HN.out, if_pos hK0])
            have hKb : (K != 0) = true := by simp [hK0]
            clear hK0
            go_wp2_with fail
            go_ret
            exact ⟨ret_int HNN.out.symm, tra HK0.out HKZ.out⟩
      · have HN := hide (show fitsV types o f = te by rw [HFV.out]; exact fitsV_bad HTE.out hte0)
        have hteb : (te != 0) = true := by simp [hte0]
        clear hte0
        go_wp2_with fail
        go_ret
        exact ⟨ret_int HN.out.symm, HK3w.out⟩

theorem thru_any (m : Nat) : TR m := by
  induction m using Nat.strongRecOn with
  | ind m ih => exact thru_step m ih

theorem checkV_s {types : List TypeT} {q : Sels} {m : Int} (h : checkSc types = m) (h0 : m ≠ 0) : checkV types q = m := by rw [checkV, if_pos (by rw [h]; exact h0), h]
theorem checkV_q {types : List TypeT} {q : Sels} {m : Int} (h : checkSc types = 0) (hm : checkQ q = m) (h0 : m ≠ 0) : checkV types q = m := by rw [checkV, if_neg (not_not_intro h), if_pos (by rw [hm]; exact h0), hm]
theorem checkV_f {types : List TypeT} {q : Sels} (h : checkSc types = 0) (hm : checkQ q = 0) : checkV types q = fitsV types (ofQueryV types) q := by rw [checkV, if_neg (not_not_intro h), if_neg (not_not_intro hm)]

set_option maxRecDepth 20000 in
set_option maxHeartbeats 3200000 in
theorem vQuery_any (w : World) (vt vq : Value) (types : List TypeT) (q : Sels) (ht : TypSl anyB w vt types) (hq : SelSl w vq q) :
    Calls Try.prog 14 #[vt, vq] w fun e w' => e = .returned (.int .i64 (checkV types q)) ∧ Same w w' := by
  obtain ⟨at', ct, rfl, _, _⟩ := id ht
  obtain ⟨aq, cq, rfl, _, _⟩ := id hq
  have HT := hide ht
  have HQ := hide hq
  clear ht hq
  obtain ⟨c2, hc2⟩ : ∃ c2, c2 = w.heap.size := ⟨_, rfl⟩
  obtain ⟨w0, hw0⟩ : ∃ w0, w0 = w.alloc (.cells #[.slice at' types.length ct] 22) := ⟨_, rfl⟩
  have HK0 := hide (show Same w w0 by rw [hw0]; exact (Kept.refl _ w).alloc _)
  have HB2 := hide (show w0.heap[c2]? = some (.cells #[.slice at' types.length ct] 22 (0, 0)) by rw [hw0, hc2]; exact heap_alloc_new w _)
  obtain ⟨s, hs⟩ : ∃ s, checkSc types = s := ⟨_, rfl⟩
  have hsc := scCheck_any w0 _ types anyB (HT.out.same HK0.out)
  rw [hs] at hsc
  have HSC := hide hsc
  have HS := hide hs
  obtain ⟨m, hm⟩ : ∃ m, checkQ q = m := ⟨_, rfl⟩
  have hqc := fun wx (hk : Same w wx) => qCheck_any wx _ q (HQ.out.same hk)
  rw [hm] at hqc
  have HQC := hide hqc
  have HMM := hide hm
  clear hsc hs hqc hm
  have hmf : ∀ (fn : Fn) (first cap : Array Value) (w : World), (Instr.makeFunc fn first cap).run Try.prog w = .ok (.func fn first cap) w := fun _ _ _ _ => rfl
  go_enter Try.func14, Try.ntmps14
  go_wp2_with fail
  rw [← hw0, ← hc2]
  clear hw0 hc2
  refine HSC.out.mono ?_
  rintro e w1 ⟨rfl, hK1⟩
  have HK1 := hide (tra HK0.out hK1)
  by_cases hs0 : s = 0
  · subst hs0
    have HB21 := hide (blk_kept HB2.out hK1 (fun f => f))
    clear hK1
    go_wp2_with fail
    refine (HQC.out _ HK1.out).mono ?_
    rintro e w2 ⟨rfl, hK2⟩
    have HK2 := hide (tra HK1.out hK2)
    have HB22 := hide (blk_kept HB21.out hK2 (fun f => f))
    clear hK2
    by_cases hm0 : m = 0
    · subst hm0
      have HV := hide (checkV_f HS.out HMM.out)
      have hc2w : c2 < w2.heap.size := (Array.getElem?_eq_some_iff.1 HB22.out).1
      obtain ⟨x0, _⟩ := blk1 HB22.out
      have hne : c2 ≠ w2.heap.size := by omega
      obtain ⟨c1, hc1⟩ : ∃ c1, c1 = w2.heap.size := ⟨_, rfl⟩
      obtain ⟨w3, hw3⟩ : ∃ w3, w3 = w2.alloc (.cells #[.func (.func 33) #[] #[.pointer (some ⟨w2.heap.size, 0, none⟩), .pointer (some ⟨c2, 0, none⟩)]] 69) := ⟨_, rfl⟩
      have HK23 := hide (show Same w2 w3 by rw [hw3]; exact (Kept.refl _ w2).alloc _)
      have HK3 := hide (tra HK2.out HK23.out)
      have HB3 := hide (show w3.heap[c1]? = some (.cells #[.func (.func 33) #[] #[.pointer (some ⟨c1, 0, none⟩), .pointer (some ⟨c2, 0, none⟩)]] 69 (0, 0)) by rw [hw3, hc1]; exact heap_alloc_new w2 _)
      have HTH := hide (show ThruAt w3 c1 c2 at' ct types from ⟨(blk1 HB3.out).1, (blk1 (blk_kept HB22.out HK23.out (fun f => f))).1, HT.out.same HK3.out⟩)
      have hty5 : types.length ≤ 1000 := by have := ((checkSc_iff types).1 HS.out).1; omega
      obtain ⟨K, hK⟩ : ∃ K, fitsV types (ofQueryV types) q = K := ⟨_, rfl⟩
      have HREC := hide (show ∀ wx a9 c9, Same w3 wx → FldSl anyB wx (.slice a9 (ofQueryV types).fields.length c9) (ofQueryV types).fields → Calls Try.prog 33 #[ofV a9 (ofQueryV types).fields.length c9 (ofQueryV types), .slice aq q.len cq, .pointer (some ⟨c1, 0, none⟩), .pointer (some ⟨c2, 0, none⟩)] wx fun e w' => e = .returned (.int .i64 K) ∧ Same wx w' from fun wx a9 c9 hk hf9 => by
        have h1 := thru_any q.size' q rfl wx (ofQueryV types) a9 c9 _ c1 c2 _ ct types hf9 (HQ.out.same (tra HK3.out hk)) (HTH.out.same hk) HS.out (goodO_query types)
        rw [hK] at h1
        exact h1)
      have HKK := hide hK
      have hcf : ∀ (args : Array Value) (w : World), (callFunc 33 args).run Try.prog w = .ok (.enter 33 args) w := by intro args w; kernel_rfl
      go_upto_region 9 with fail
      rw [← hw3, ← hc1]
      clear hw3 hc1 x0 hK
      have s1 := HTH.out.fn
      have s2 := HTH.out.ty
      have hKc : Same w3 w3.drew := (Kept.refl _ _).drew
      go_region_held3 (fun w' => w'.cell? ⟨c1, 0, none⟩ = some (.func (.func 33) #[] #[.pointer (some ⟨c1, 0, none⟩), .pointer (some ⟨c2, 0, none⟩)]) ∧ w'.cell? ⟨c2, 0, none⟩ = some (.slice at' types.length ct))
        (go_keep)
        (first
          | (go_at_call 37; refine (ofQuery_any _ types at' ct anyB (HTH.out.sl.same (by exact hKc)) hty5).mono ?_; rintro e wn ⟨a9, c9, rfl, hf9, hKn⟩; have hKc := tra (by exact hKc) hKn; have s1 := (HTH.out.same hKc).fn; have s2 := (HTH.out.same hKc).ty; have HF9 := hide hf9.any; clear hKn hf9)
          | (go_at_call 33; refine (HREC.out _ a9 c9 (by exact hKc) HF9.out).mono ?_; rintro e wn ⟨rfl, hKn⟩; have hKc := tra (by exact hKc) hKn; have s1 := (HTH.out.same hKc).fn; have s2 := (HTH.out.same hKc).ty; clear hKn))
      have HKZ := hide (tra HK3.out hKc)
      clear s1 s2 hKc
      go_wp2_with fail
      go_ret
      exact ⟨ret_int (by rw [HV.out, HKK.out]), HKZ.out⟩
    · have HV := hide (checkV_q HS.out HMM.out hm0)
      have hmb : (m != 0) = true := by simp [hm0]
      clear hm0
      go_wp2_with fail
      go_ret
      exact ⟨ret_int HV.out.symm, HK2.out⟩
  · have HV := hide (checkV_s (q := q) HS.out hs0)
    have hsb : (s != 0) = true := by simp [hs0]
    clear hs0 hK1
    go_wp2_with fail
    go_ret
    exact ⟨ret_int HV.out.symm, HK1.out⟩

end Go.Proofs.Ytkkjchfhgjfclac
