/- The reference's SchemaOf. -/
import Derived.Test.YtkkjchfhgjfclabGreatDoorSchematells36
import Derived.Test.YtkkjchfhgjfclabGreatDoorSchematells37
import Derived.Test.YtkkjchfhgjfclabGreatDoorSchematells38
namespace Go.Proofs.YtkkjchfhgjfclabGreatDoor
open Go.RowKit

/-- what SchemaOf answers -/
def SO (w : World) (s : ByteArray) (e : Ending) (w' : World) : Prop :=
  (∃ l v, readSc s.data.toList = .ok l ∧ e = .returned (.tuple #[v, .int .i64 0]) ∧ TypSl (fun b => w.heap.size ≤ b) w' v l ∧ Same w w') ∨ (∃ n : Int, readSc s.data.toList = .error n ∧ n ≠ 0 ∧ e = .returned (.tuple #[.slice none 0 0, .int .i64 n]) ∧ Same w w')

theorem readSc_e1 {l : List UInt8} {n : Int} (h : lexRead l = .error n) : readSc l = .error n := by rw [readSc, h]
theorem readSc_e2 {l : List UInt8} {T : List Tok} (h : lexRead l = .ok T) (hp : pTypes T.length T = none) : readSc l = .error 1 := by rw [readSc, h]; simp only [hp]
theorem readSc_e3 {l : List UInt8} {T : List Tok} {s : List TypeT} {m : Int} (h : lexRead l = .ok T) (hp : pTypes T.length T = some s) (hm : checkSc s = m) (h0 : m ≠ 0) : readSc l = .error m := by
  rw [readSc, h]
  simp only [hp]
  rw [if_pos (by rw [hm]; exact h0), hm]
theorem readSc_o {l : List UInt8} {T : List Tok} {s : List TypeT} (h : lexRead l = .ok T) (hp : pTypes T.length T = some s) (hm : checkSc s = 0) : readSc l = .ok s := by
  rw [readSc, h]
  simp only [hp]
  rw [if_neg (by simp [hm])]

def FBx (f : FieldT) : Obj := .cells #[.string ⟨f.name.toArray⟩, .int .i64 f.kind, .string ⟨f.of.toArray⟩] 40 (0, 0)
def TBx (nm : List UInt8) (v : Value) : Obj := .cells #[.string ⟨nm.toArray⟩, v] 38 (0, 0)

set_option maxRecDepth 20000 in
set_option maxHeartbeats 12800000 in
theorem schemaOf_any (w : World) (s : ByteArray) : Calls Tryz.prog 18 #[.string s] w (SO w s) := by
  cases hlx : lexRead s.data.toList with
  | error n =>
    have HL := hide hlx
    clear hlx
    go_enter Tryz.func18, Tryz.ntmps18
    go_wp2_with fail
    refine (tokens_no _ s n HL.out).mono ?_
    rintro e w1 ⟨rfl, hK1, hn⟩
    have hn' : (n != 0) = true := by simp [hn]
    have HN := hide hn
    clear hn
    go_wp2_with fail
    go_ret2
    exact .inr ⟨n, readSc_e1 HL.out, HN.out, rfl, hK1⟩
  | ok T =>
    have hT := lexRead_len hlx
    have HL := hide hlx
    clear hlx
    obtain ⟨i0, hi, hz0, hz1, hz2⟩ := info_parts infoT
    obtain ⟨i1, hi1, hy0, hy1, hy2⟩ := info_parts infoF
    go_enter Tryz.func18, Tryz.ntmps18
    go_wp2_with fail
    refine (tokens_is _ s T HL.out (by omega)).mono ?_
    rintro e w1 ⟨ao, cap, rfl, hts, hK1⟩
    have HTS := hide (show ∀ wx, Same w1 wx → TokSl wx (.slice ao T.length cap) T from fun wx hk => hts.same hk)
    have HK1 := hide hK1
    obtain ⟨_, _, e, hlc, _⟩ := id hts
    clear e hlc hts hK1
    go_wp2_with fail
    go_loopg [6, 7, 8] (T.length + 1) (fun g ov av fv wr => ∃ (m k : Nat) (fst : Bool) (acc : List (TypeT × Value)), m + 1 ≤ g ∧ g ≤ m + 1 ∧ T.length ≤ m + k ∧ k ≤ T.length ∧ acc.length ≤ k ∧ av = .int .i64 k ∧ fv = .bool fst ∧ Hid (Same w1 wr) ∧ Hid (wr.ownsRow w1.heap.size 38 2 ov acc.length (tyCells acc)) ∧ Hid (∀ p ∈ acc, FldSl (fun b => w1.heap.size ≤ b ∧ some b ≠ ov.ownBlock) wr p.2 p.1.fields) ∧ Hid (oRel T fst m k (acc.map (·.1))))
    case atStart => exact ⟨T.length, 0, true, [], by omega, by omega, by omega, by omega, by simp, rfl, rfl, Kept.refl _ _, World.ownsRow_nil _ _ _ _, (fun p hp => by cases hp), oRel.start T⟩
    case round =>
      obtain ⟨m, k, fst, acc, hm1, hm2, hmk, hkT, hak, rfl, rfl, HKr, HOr, HFr, HOR⟩ := hrel
      obtain ⟨ao3, cap3, hv3⟩ := own_slice HOr.out
      subst hv3
      go_upto_region 7 with fail
      go_cut [26] from 20 to 148 (fun v wx => wx = wr ∧ v = .bool (fst || decide (k < T.length)))
      case first =>
        cases fst
        · go_wp2_with fail
          go_meet
          case rel => exact ⟨rfl, by simp⟩
        · go_wp2_with fail
          go_meet
          case rel => exact ⟨rfl, rfl⟩
      case rest =>
      obtain ⟨rfl, rfl⟩ := hcut
      cases hq : (fst || decide (k < T.length)) with
      | false =>
        obtain ⟨hf0, hk0⟩ : fst = false ∧ T.length ≤ k := by
          simp only [Bool.or_eq_false_iff, decide_eq_false_iff_not] at hq
          exact ⟨hq.1, by omega⟩
        subst hf0
        have HPT := hide (HOR.out.done hk0)
        clear hq
        have HTP := hide (show TypSl (fun b => w1.heap.size ≤ b) wc (.slice ao3 acc.length cap3) (acc.map (·.1)) from own_typs HOr.out (by omega) (fun p hp => (HFr.out p hp).mono (fun b _ hb => hb.1)))
        obtain ⟨c, hc⟩ : ∃ c, checkSc (acc.map (·.1)) = c := ⟨_, rfl⟩
        have hck := rCheckSc_any wc _ _ _ HTP.out
        rw [hc] at hck
        have HCK := hide hck
        have HC := hide hc
        clear hck hc
        go_wp2_with fail
        refine HCK.out.mono ?_
        rintro e w3 ⟨rfl, hK3⟩
        by_cases hc0 : c = 0
        · subst hc0
          go_wp2_with fail
          go_ret2
          exact .inl ⟨_, _, readSc_o HL.out HPT.out HC.out, rfl, (HTP.out.same hK3).mono (fun b _ hb => Nat.le_trans HK1.out.size hb), tra (tra HK1.out HKr.out) hK3⟩
        · have hc1 : (c != 0) = true := by simp [hc0]
          have HC0 := hide hc0
          clear hc0
          go_wp2_with fail
          go_ret2
          exact .inr ⟨c, readSc_e3 HL.out HPT.out HC.out HC0.out, HC0.out, rfl, tra (tra HK1.out HKr.out) hK3⟩
      | true =>
        have HTY := hide (show tyRel T m (T.drop k) (acc.map (·.1)) by
          cases fst with
          | true => exact HOR.out.more
          | false => exact HOR.out.more2 (by simpa using hq))
        clear HOR hq
        have HBAD := hide (show pType (T.drop k) = none → readSc s.data.toList = .error 1 from fun hp => readSc_e2 HL.out (HTY.out.bad hp))
        obtain ⟨wo, hwo⟩ : ∃ wo, wo = wc := ⟨_, rfl⟩
        subst hwo
        have HW := hide (fun (x : Int) (i : Nat) (hx : x = (i : Int)) (q : Bool) (hq : isN (T.drop i) = q) => isWord_i wo _ T (HTS.out wo HKr.out) x i hx q hq)
        have HTK := hide (fun (x : Int) (i : Nat) (hx : x = (i : Int)) (c : UInt8) (q : Bool) (hq : isS c (T.drop i) = q) => isTok_i wo _ T (HTS.out wo HKr.out) x i hx c q hq)
        cases h1 : isN (T.drop k) with
        | false =>
          have HE := hide (HBAD.out (pType_n1 h1))
          have H1 := hide h1
          clear h1
          go_wp2_with fail
          refine (HW.out _ k rfl _ H1.out).mono ?_
          rintro e w3 ⟨rfl, rfl⟩
          go_wp2_with fail
          go_ret2
          exact .inr ⟨1, HE.out, by decide, rfl, tra HK1.out HKr.out⟩
        | true =>
        have hkl := isN_lt h1
        obtain ⟨b0, o0, hao, x0, x1, x2⟩ := (HTS.out wo HKr.out).at k hkl
        subst hao
        have H1 := hide h1
        by_cases hty : T[k].s = bType
        · cases h2 : isN (T.drop (k + 1)) with
          | false =>
            have HE := hide (HBAD.out (pType_n3 hkl h2))
            have H2 := hide h2
            rw [hty] at x1
            clear h1 h2 hty
            go_wp2_with fail
            refine (HW.out _ k rfl _ H1.out).mono ?_
            rintro e w3 ⟨rfl, rfl⟩
            go_wp2_with fail
            refine (HW.out _ (k + 1) (by omega) _ H2.out).mono ?_
            rintro e w3 ⟨rfl, rfl⟩
            go_wp2_with fail
            go_ret2
            exact .inr ⟨1, HE.out, by decide, rfl, tra HK1.out HKr.out⟩
          | true =>
          have hkl2 := isN_lt h2
          have H2 := hide h2
          cases h3 : isS 123 (T.drop (k + 2)) with
          | false =>
            have HE := hide (HBAD.out (pType_n4 hkl2 h3))
            have H3 := hide h3
            rw [hty] at x1
            clear h1 h2 h3 hty
            go_wp2_with fail
            refine (HW.out _ k rfl _ H1.out).mono ?_
            rintro e w3 ⟨rfl, rfl⟩
            go_wp2_with fail
            refine (HW.out _ (k + 1) (by omega) _ H2.out).mono ?_
            rintro e w3 ⟨rfl, rfl⟩
            go_wp2_with fail
            refine (HTK.out _ (k + 2) (by omega) _ _ H3.out).mono ?_
            rintro e w3 ⟨rfl, rfl⟩
            go_wp2_with fail
            go_ret2
            exact .inr ⟨1, HE.out, by decide, rfl, tra HK1.out HKr.out⟩
          | true =>
          have hkl3 := isS_lt h3
          have H3 := hide h3
          obtain ⟨b9, o9, e9, y0, y1, y2⟩ := (HTS.out wo HKr.out).at (k + 1) hkl2
          cases e9
          have HPT := hide (pType_at h1 hty h2 h3)
          obtain ⟨nm, hnm⟩ : ∃ nm, nm = T[k + 1].s := ⟨_, rfl⟩
          rw [← hnm] at HPT y1
          rw [hty] at x1
          clear h1 h2 h3 hty hnm y0 y2
          obtain ⟨G, hG1, hG2⟩ : ∃ G, G ≤ gk ∧ gk ≤ G := ⟨gk, Nat.le_refl _, Nat.le_refl _⟩
          go_wp2_with fail
          refine (HW.out _ k rfl _ H1.out).mono ?_
          rintro e w3 ⟨rfl, hw3⟩
          rw [hw3]
          clear hw3
          go_wp2_with fail
          refine (HW.out _ (k + 1) (by omega) _ H2.out).mono ?_
          rintro e w3 ⟨rfl, hw3⟩
          rw [hw3]
          clear hw3
          go_wp2_with fail
          refine (HTK.out _ (k + 2) (by omega) _ _ H3.out).mono ?_
          rintro e w3 ⟨rfl, hw3⟩
          rw [hw3]
          clear hw3
          go_wp2_with fail
          clear x0 x1 x2 y1
          obtain ⟨g, hgg⟩ : ∃ g, g = wo.heap.size := ⟨_, rfl⟩
          have hgo := HKr.out.size
          rw [← hgg] at hgo
          have HB0 := hide (heap_alloc_new wo (.cells #[.string ⟨nm.toArray⟩, .slice none 0 0] 38))
          rw [← hgg] at HB0
          rw [← hgg]
          have HGG := hide hgg
          clear hgg
          have HFB := hide (show pFields (T.drop (k + 3)).length (T.drop (k + 3)) = none → readSc s.data.toList = .error 1 from fun hp => HBAD.out (by rw [HPT.out, hp]; rfl))
          go_loopg [7, 10] (T.length - (k + 3) + 1) (fun gg av ov wx => ∃ (m2 k2 : Nat) (one : Bool) (fa : List FieldT) (v : Value), m2 + 1 ≤ gg ∧ gg ≤ m2 + 1 ∧ T.length ≤ m2 + k2 ∧ k + 3 ≤ k2 ∧ k2 ≤ T.length ∧ fa.length ≤ k2 ∧ av = .int .i64 k2 ∧ ov = .bool one ∧ Hid (Same wo wx) ∧ Hid (wx.heap[g]? = some (TBx nm v)) ∧ Hid (wx.ownsRow (g + 1) 40 3 v fa.length (fldCells fa)) ∧ Hid (iRel T (T.drop (k + 3)) one m2 k2 fa))
          case atStart =>
            refine ⟨T.length - (k + 3), k + 3, true, [], .slice none 0 0, by omega, by omega, by omega, by omega, by omega, by simp, by go_num, rfl, (Kept.refl _ wo).alloc _, HB0.out, World.ownsRow_nil _ _ _ _, ?_⟩
            have := iRel.start T (k + 3)
            rw [List.length_drop] at this
            rw [Hid]
            rw [List.length_drop] at *
            exact this
          case round =>
            obtain ⟨m2, k2, one, fa, v, hn1, hn2, hmk2, hk3, hk2T, hfa, rfl, rfl, HKx, HBx, HOx, HIR⟩ := hrel
            clear HB0
            obtain ⟨ao5, cap5, hv5⟩ := own_slice HOx.out
            subst hv5
            have HK1x := hide (tra HKr.out HKx.out)
            go_upto_region 14 with fail
            go_cut [68] from 62 to 142 (fun v wx => wx = wr ∧ v = .bool (one || !isS 125 (T.drop k2)))
            case first =>
              cases one
              · go_wp2_with fail
                refine (isTok_i _ _ T (HTS.out _ HK1x.out) _ k2 rfl 125 _ rfl).mono ?_
                rintro e w3 ⟨rfl, rfl⟩
                go_wp2_with fail
                go_meet
                case rel => exact ⟨rfl, by simp⟩
              · go_wp2_with fail
                go_meet
                case rel => exact ⟨rfl, rfl⟩
            case rest =>
            obtain ⟨hwc, rfl⟩ := hcut
            subst hwc
            obtain ⟨wi, hwi⟩ : ∃ wi, wi = wc := ⟨_, rfl⟩
            subst hwi
            cases hq : (one || !isS 125 (T.drop k2)) with
            | false =>
              obtain ⟨ho0, hs0⟩ : one = false ∧ isS 125 (T.drop k2) = true := by
                simpa using hq
              subst ho0
              clear hq
              have hkl7 := isS_lt hs0
              have HPP := hide (show pType (T.drop k) = some (⟨nm, fa⟩, T.drop (k2 + 1)) by rw [HPT.out, HIR.out.done hs0]; rfl)
              clear hs0 HIR HFB
              obtain ⟨mm, hmm⟩ : ∃ mm, m = mm + 1 := ⟨m - 1, by omega⟩
              have HON := hide (show oRel T false mm (k2 + 1) (acc.map (·.1) ++ [⟨nm, fa⟩]) from oRel.next (by rw [← hmm]; exact HTY.out) HPP.out)
              have hmma : m ≤ mm + 1 := by omega
              have hmmb : mm + 1 ≤ m := by omega
              clear hmm HTY HPP
              have hBz : wi.heap[g]? = some (.cells #[.string ⟨nm.toArray⟩, .slice ao5 fa.length cap5] 38 (0, 0)) := HBx.out
              obtain ⟨d0, d1⟩ := blk2 hBz
              have hgi : g < wi.heap.size := (Array.getElem?_eq_some_iff.1 hBz).1
              have hown1 := own_kept HOr.out HKx.out (fun _ _ f => f)
              have hws : w1.heap.size ≤ wi.heap.size := HK1x.out.size
              have HF1 := hide (own_flds HOx.out (by omega))
              have HF0 := hide (show ∀ p ∈ acc, FldSl (fun b => w1.heap.size ≤ b ∧ some b ≠ (Value.slice ao3 acc.length cap3).ownBlock) wi p.2 p.1.fields from fun p hp => (HFr.out p hp).keep HKx.out (fun b hb f => f))
              clear hBz
              go_wp2_with (at_builtin; refine wpList_append_own_at _ rfl _ _ 34 rfl w1.heap.size 38 i0 _ 2 40 Tryz.underlying34 hi hz0 hz1 hz2 rfl (by decide) _ _ _ rfl (hown1.alloc _) ⟨wi.heap.size, 0, none⟩ 1 1 (tyC (⟨nm, fa⟩, .slice ao5 fa.length cap5)) rfl rfl ?a1 ?a2 ?a3 ?a4 ?a5 ?_)
              case a1 => exact new_c2 wi _ _ _
              case a2 => intro u hu; simp [tyC] at hu; rcases hu with rfl | rfl <;> rfl
              case a3 => unfold maxLen; omega
              case a4 => omega
              case a5 => simp; omega
              intro v2 w2 hown2 hgr2 _ hat2
              obtain ⟨g2, cap2, hv2⟩ := own_form hown2 (by omega)
              subst hv2
              have hKb : Kept (fun kk => some kk = (Value.slice ao3 acc.length cap3).ownBlock) wi w2 := ((Kept.refl _ wi).alloc _).trans (grown_kept hgr2) (fun _ _ e => e)
              have hXb : ∀ kk, some kk = (Value.slice ao3 acc.length cap3).ownBlock → w1.heap.size ≤ kk ∧ kk < g := fun kk e => by have h1 := own_up HOr.out kk e.symm; have := HGG.out; omega
              have HKC := hide (show Same w1 w2 from HK1x.out.trans hKb (fun kk hk e => by have := (hXb kk e).1; omega))
              have hat3 : some g2 = (Value.slice ao3 acc.length cap3).ownBlock ∨ wi.heap.size ≤ g2 := by
                rcases hat2 with e | e
                · exact .inl e
                · right
                  have e2 : g2 = _ := Option.some.inj e
                  rw [e2]; simp
              have HFA := hide (show ∀ p ∈ acc ++ [((⟨nm, fa⟩ : TypeT), Value.slice ao5 fa.length cap5)], FldSl (fun b => w1.heap.size ≤ b ∧ some b ≠ (Value.slice (some ⟨g2, 0, none⟩) (acc.length + 1) cap2).ownBlock) w2 p.2 p.1.fields from fun p hp => by
                rcases List.mem_append.1 hp with hp | hp
                · have h1 := (HF0.out p hp).mono (Q := fun b => (w1.heap.size ≤ b ∧ some b ≠ (Value.slice ao3 acc.length cap3).ownBlock) ∧ b < wi.heap.size) (fun b hb hh => ⟨hh, hb⟩)
                  refine (h1.keep hKb (fun b hb e => hb.1.2 e)).mono (fun b _ hb => ⟨hb.1.1, fun e => ?_⟩)
                  have e2 : b = g2 := Option.some.inj e
                  rcases hat3 with e3 | e3
                  · exact hb.1.2 (by rw [e2]; exact e3)
                  · omega
                · simp only [List.mem_singleton] at hp
                  subst hp
                  have h1 := HF1.out.mono (Q := fun b => g + 1 ≤ b ∧ b < wi.heap.size) (fun b hb hh => ⟨hh, hb⟩)
                  refine (h1.keep hKb (fun b hb e => by have := (hXb b e).2; omega)).mono (fun b _ hb => ⟨by omega, fun e => ?_⟩)
                  have e2 : b = g2 := Option.some.inj e
                  rcases hat3 with e3 | e3
                  · have := (hXb g2 e3).2; omega
                  · omega)
              have HOW2 := hide (show w2.ownsRow w1.heap.size 38 2 (.slice (some ⟨g2, 0, none⟩) (acc.length + 1) cap2) (acc ++ [((⟨nm, fa⟩ : TypeT), Value.slice ao5 fa.length cap5)]).length (tyCells (acc ++ [((⟨nm, fa⟩ : TypeT), Value.slice ao5 fa.length cap5)])) by rw [tyCells_snoc, List.length_append]; exact hown2)
              clear hgr2 hown2 hat2 hat3 hKb hXb hown1
              go_wp2_with fail
              go_roundg (G - 1)
              case measure => omega
              case rel => exact ⟨mm, k2 + 1, false, acc ++ [((⟨nm, fa⟩ : TypeT), Value.slice ao5 fa.length cap5)], by omega, by omega, by omega, by omega, by rw [List.length_append]; simp; omega, by go_num, rfl, HKC.out, HOW2.out, HFA.out, by rw [List.map_append]; exact HON.out⟩
            | true =>
              have HFR := hide (show fRel (T.drop (k + 3)) m2 (T.drop k2) fa by
                cases one with
                | true => exact HIR.out.more
                | false => exact HIR.out.more2 (by simpa using hq))
              clear HIR hq
              have HBD := hide (show pField (T.drop k2) = none → readSc s.data.toList = .error 1 from fun hp => HFB.out (HFR.out.bad hp))
              have HKw := hide (tra HK1.out HK1x.out)
              have HW2 := hide (fun wx (hk : Same wi wx) (x : Int) (i : Nat) (hx : x = (i : Int)) (q : Bool) (hq : isN (T.drop i) = q) => isWord_i wx _ T (HTS.out wx (tra HK1x.out hk)) x i hx q hq)
              have HTK2 := hide (fun wx (hk : Same wi wx) (x : Int) (i : Nat) (hx : x = (i : Int)) (c : UInt8) (q : Bool) (hq : isS c (T.drop i) = q) => isTok_i wx _ T (HTS.out wx (tra HK1x.out hk)) x i hx c q hq)
              cases h4 : isN (T.drop k2) with
              | false =>
                have HE := hide (HBD.out (pField_n1 h4))
                have H4 := hide h4
                clear h4
                go_wp2_with fail
                refine (HW2.out _ (Kept.refl _ _) _ k2 rfl _ H4.out).mono ?_
                rintro e w3 ⟨rfl, rfl⟩
                go_wp2_with fail
                go_ret2
                exact .inr ⟨1, HE.out, by decide, rfl, HKw.out⟩
              | true =>
              cases h5 : isS 58 (T.drop (k2 + 1)) with
              | false =>
                have HE := hide (HBD.out (pField_n2 h5))
                have H4 := hide h4
                have H5 := hide h5
                clear h4 h5
                go_wp2_with fail
                refine (HW2.out _ (Kept.refl _ _) _ k2 rfl _ H4.out).mono ?_
                rintro e w3 ⟨rfl, hw3⟩
                rw [hw3]
                clear hw3
                go_wp2_with fail
                refine (HTK2.out _ (Kept.refl _ _) _ (k2 + 1) (by omega) _ _ H5.out).mono ?_
                rintro e w3 ⟨rfl, rfl⟩
                go_wp2_with fail
                go_ret2
                exact .inr ⟨1, HE.out, by decide, rfl, HKw.out⟩
              | true =>
              have hkl4 := isN_lt h4
              have hkl5 := isS_lt h5
              have HPF := hide (pField_at h4 h5)
              obtain ⟨b9, o9, e9, x0, x1, x2⟩ := (HTS.out wi HK1x.out).at k2 hkl4
              cases e9
              obtain ⟨fn, hfn⟩ : ∃ fn, fn = T[k2].s := ⟨_, rfl⟩
              rw [← hfn] at HPF x1
              have H4 := hide h4
              have H5 := hide h5
              clear h4 h5 hfn
              go_wp2_with fail
              refine (HW2.out _ (Kept.refl _ _) _ k2 rfl _ H4.out).mono ?_
              rintro e w3 ⟨rfl, hw3⟩
              rw [hw3]
              clear hw3
              go_wp2_with fail
              refine (HTK2.out _ (Kept.refl _ _) _ (k2 + 1) (by omega) _ _ H5.out).mono ?_
              rintro e w3 ⟨rfl, hw3⟩
              rw [hw3]
              clear hw3
              go_upto_block 4 with fail
              clear x0 x1 x2
              go_cut [7] from 62 to 142 (fun av wz => ∃ (k3 : Nat) (f : FieldT), av = .int .i64 k3 ∧ k2 + 3 ≤ k3 ∧ k3 ≤ T.length ∧ Hid (pField (T.drop k2) = some (f, T.drop k3)) ∧ Hid (Same wi wz) ∧ Hid (wz.heap[wi.heap.size]? = some (FBx f)))
              case first =>
                have hal : Same wi (wi.alloc (.cells #[.string ⟨fn.toArray⟩, .int .i64 0, .string ⟨#[]⟩] 40)) := (Kept.refl _ wi).alloc _
                have HKA := hide hal
                have HBA := hide (show readSc s.data.toList = .error 1 → SO w s (.returned (.tuple #[.slice none 0 0, .int .i64 1])) (wi.alloc (.cells #[.string ⟨fn.toArray⟩, .int .i64 0, .string ⟨#[]⟩] 40)) from fun h => .inr ⟨1, h, by decide, rfl, tra HKw.out hal⟩)
                clear hal
                cases h6 : isS 91 (T.drop (k2 + 2)) with
                | true =>
                  have H6 := hide h6
                  cases h7 : isN (T.drop (k2 + 2 + 1)) with
                  | true =>
                    have H7 := hide h7
                    cases h8 : isS 93 (T.drop (k2 + 2 + 2)) with
                    | true =>
                      have H8 := hide h8
                      have hkl6 := isN_lt h7
                      have hkl8 := isS_lt h8
                      have HPK := hide (pKind_br h6 h7 h8)
                      obtain ⟨b9, o9, e9, x0, x1, x2⟩ := (HTS.out wi HK1x.out).at (k2 + 2 + 1) hkl6
                      cases e9
                      obtain ⟨fo, hfo⟩ : ∃ fo, fo = T[k2 + 2 + 1].s := ⟨_, rfl⟩
                      rw [← hfo] at HPK x1
                      have x1a : ∀ o, (wi.alloc o).cell? ⟨b0, o0 + (k2 + 2 + 1) * 3 + 1, none⟩ = some (.string ⟨fo.toArray⟩) := fun o => ((Kept.refl (fun _ => False) wi).alloc o).cell x1 (fun f => f)
                      clear h6 h7 h8 hfo x0 x2
                      go_wp2_with fail
                      refine (HTK2.out _ HKA.out _ (k2 + 2) (by omega) _ _ H6.out).mono ?_
                      rintro e w3 ⟨rfl, hw3⟩
                      rw [hw3]
                      clear hw3
                      go_wp2_with fail
                      refine (HW2.out _ HKA.out _ (k2 + 2 + 1) (by omega) _ H7.out).mono ?_
                      rintro e w3 ⟨rfl, hw3⟩
                      rw [hw3]
                      clear hw3
                      go_wp2_with fail
                      refine (HTK2.out _ HKA.out _ (k2 + 2 + 2) (by omega) _ _ H8.out).mono ?_
                      rintro e w3 ⟨rfl, hw3⟩
                      rw [hw3]
                      clear hw3
                      go_wp2_with fail
                      go_region
                      go_wp2_with fail
                      go_meet
                      case rel => exact ⟨k2 + 5, ⟨fn, 4, fo⟩, by go_num, by omega, by omega, by rw [Hid, HPF.out, HPK.out]; rfl, (by repeat' (first | assumption | exact Kept.refl _ _ | refine Kept.drewN ?_ _ | refine Kept.drew ?_ | refine Kept.alloc ?_ _ | refine Kept.setB ?_ _ _)), heap_alloc_new wi _⟩
                    | false =>
                      have HE := hide (HBA.out (HBD.out (by rw [HPF.out, pKind_n2 h6 h8]; rfl)))
                      have H8 := hide h8
                      have H9 := hide (isS_notN h6)
                      clear h6 h7 h8
                      go_wp2_with fail
                      refine (HTK2.out _ HKA.out _ (k2 + 2) (by omega) _ _ H6.out).mono ?_
                      rintro e w3 ⟨rfl, hw3⟩
                      rw [hw3]
                      clear hw3
                      go_wp2_with fail
                      refine (HW2.out _ HKA.out _ (k2 + 2 + 1) (by omega) _ H7.out).mono ?_
                      rintro e w3 ⟨rfl, hw3⟩
                      rw [hw3]
                      clear hw3
                      go_wp2_with fail
                      refine (HTK2.out _ HKA.out _ (k2 + 2 + 2) (by omega) _ _ H8.out).mono ?_
                      rintro e w3 ⟨rfl, hw3⟩
                      rw [hw3]
                      clear hw3
                      go_wp2_with fail
                      refine (HW2.out _ HKA.out _ (k2 + 2) (by omega) _ H9.out).mono ?_
                      rintro e w3 ⟨rfl, hw3⟩
                      rw [hw3]
                      clear hw3
                      go_wp2_with fail
                      go_ret2
                      exact HE.out
                  | false =>
                    have HE := hide (HBA.out (HBD.out (by rw [HPF.out, pKind_n1 h6 h7]; rfl)))
                    have H7 := hide h7
                    have H9 := hide (isS_notN h6)
                    clear h6 h7
                    go_wp2_with fail
                    refine (HTK2.out _ HKA.out _ (k2 + 2) (by omega) _ _ H6.out).mono ?_
                    rintro e w3 ⟨rfl, hw3⟩
                    rw [hw3]
                    clear hw3
                    go_wp2_with fail
                    refine (HW2.out _ HKA.out _ (k2 + 2 + 1) (by omega) _ H7.out).mono ?_
                    rintro e w3 ⟨rfl, hw3⟩
                    rw [hw3]
                    clear hw3
                    go_wp2_with fail
                    refine (HW2.out _ HKA.out _ (k2 + 2) (by omega) _ H9.out).mono ?_
                    rintro e w3 ⟨rfl, hw3⟩
                    rw [hw3]
                    clear hw3
                    go_wp2_with fail
                    go_ret2
                    exact HE.out
                | false =>
                  have H6 := hide h6
                  cases h7 : isN (T.drop (k2 + 2)) with
                  | false =>
                    have HE := hide (HBA.out (HBD.out (by rw [HPF.out, pKind_none h6 h7]; rfl)))
                    have H7 := hide h7
                    clear h6 h7
                    go_wp2_with fail
                    refine (HTK2.out _ HKA.out _ (k2 + 2) (by omega) _ _ H6.out).mono ?_
                    rintro e w3 ⟨rfl, hw3⟩
                    rw [hw3]
                    clear hw3
                    go_wp2_with fail
                    refine (HW2.out _ HKA.out _ (k2 + 2) (by omega) _ H7.out).mono ?_
                    rintro e w3 ⟨rfl, hw3⟩
                    rw [hw3]
                    clear hw3
                    go_wp2_with fail
                    go_ret2
                    exact HE.out
                  | true =>
                    have H7 := hide h7
                    have hkl6 := isN_lt h7
                    have HPK := hide (pKind_word h7)
                    obtain ⟨b9, o9, e9, x0, x1, x2⟩ := (HTS.out wi HK1x.out).at (k2 + 2) hkl6
                    cases e9
                    obtain ⟨fo, hfo⟩ : ∃ fo, fo = T[k2 + 2].s := ⟨_, rfl⟩
                    rw [← hfo] at HPK x1
                    have x1a : ∀ o, (wi.alloc o).cell? ⟨b0, o0 + (k2 + 2) * 3 + 1, none⟩ = some (.string ⟨fo.toArray⟩) := fun o => ((Kept.refl (fun _ => False) wi).alloc o).cell x1 (fun f => f)
                    clear h6 h7 hfo x0 x2
                    go_wp2_with fail
                    refine (HTK2.out _ HKA.out _ (k2 + 2) (by omega) _ _ H6.out).mono ?_
                    rintro e w3 ⟨rfl, hw3⟩
                    rw [hw3]
                    clear hw3
                    go_wp2_with fail
                    refine (HW2.out _ HKA.out _ (k2 + 2) (by omega) _ H7.out).mono ?_
                    rintro e w3 ⟨rfl, hw3⟩
                    rw [hw3]
                    clear hw3
                    by_cases hN : fo = bNumber
                    · subst hN
                      go_wp2_with fail
                      go_region
                      go_wp2_with fail
                      go_meet
                      case rel => exact ⟨k2 + 3, ⟨fn, 1, []⟩, by go_num, by omega, by omega, by rw [Hid, HPF.out, HPK.out]; rfl, (by repeat' (first | assumption | exact Kept.refl _ _ | refine Kept.drewN ?_ _ | refine Kept.drew ?_ | refine Kept.alloc ?_ _ | refine Kept.setB ?_ _ _)), heap_alloc_new wi _⟩
                    · by_cases hX : fo = bText
                      · subst hX
                        clear hN
                        go_wp2_with fail
                        go_region
                        go_wp2_with fail
                        go_meet
                        case rel => exact ⟨k2 + 3, ⟨fn, 2, []⟩, by go_num, by omega, by omega, by rw [Hid, HPF.out, HPK.out]; rfl, (by repeat' (first | assumption | exact Kept.refl _ _ | refine Kept.drewN ?_ _ | refine Kept.drew ?_ | refine Kept.alloc ?_ _ | refine Kept.setB ?_ _ _)), heap_alloc_new wi _⟩
                      · have hNb : (fo == [78, 117, 109, 98, 101, 114]) = false := by simpa using hN
                        have hXb : (fo == [84, 101, 120, 116]) = false := by simpa using hX
                        have HPQ := hide (show pField (T.drop k2) = some (⟨fn, 3, fo⟩, T.drop (k2 + 3)) by rw [HPF.out, HPK.out, if_neg hN, if_neg hX]; rfl)
                        clear hN hX
                        go_wp2_with fail
                        go_region
                        go_wp2_with fail
                        go_meet
                        case rel => exact ⟨k2 + 3, ⟨fn, 3, fo⟩, by go_num, by omega, by omega, HPQ.out, (by repeat' (first | assumption | exact Kept.refl _ _ | refine Kept.drewN ?_ _ | refine Kept.drew ?_ | refine Kept.alloc ?_ _ | refine Kept.setB ?_ _ _)), heap_alloc_new wi _⟩
              case rest =>
              obtain ⟨k3, f, rfl, hk23, hk3T, HPF2, HKz, HBz⟩ := hcut
              have hBz : wc.heap[g]? = some (.cells #[.string ⟨nm.toArray⟩, .slice ao5 fa.length cap5] 38 (0, 0)) := blk_kept HBx.out HKz.out (fun f => f)
              have HBG := hide hBz
              obtain ⟨d0, d1⟩ := blk2 hBz
              have hgc : g < wc.heap.size := (Array.getElem?_eq_some_iff.1 hBz).1
              have hpz : wc.heap[wi.heap.size]? = some (.cells #[.string ⟨f.name.toArray⟩, .int .i64 f.kind, .string ⟨f.of.toArray⟩] 40 (0, 0)) := HBz.out
              obtain ⟨p0, p1, p2⟩ := blk3 hpz
              have hpc : wi.heap.size < wc.heap.size := (Array.getElem?_eq_some_iff.1 hpz).1
              have hown := own_kept HOx.out HKz.out (fun _ _ f => f)
              have HOW := hide hown
              obtain ⟨m3, hm3⟩ : ∃ m3, m2 = m3 + 1 := ⟨m2 - 1, by omega⟩
              have HFN := hide (show iRel T (T.drop (k + 3)) false m3 k3 (fa ++ [f]) from iRel.next (by rw [← hm3]; exact HFR.out) HPF2.out)
              have hm3a : m2 ≤ m3 + 1 := by omega
              have hm3b : m3 + 1 ≤ m2 := by omega
              clear hBz hpz hm3 HFR HBD HPF HPF2
              go_wp2_with (at_builtin; refine wpList_append_own_at _ rfl _ _ 36 rfl (g + 1) 40 i1 _ 3 40 Tryz.underlying36 hi1 hy0 hy1 hy2 rfl (by decide) _ _ _ rfl (hown.alloc _) ⟨wc.heap.size, 0, none⟩ 1 1 (fldC f) rfl rfl ?a1 ?a2 ?a3 ?a4 ?a5 ?_)
              case a1 => exact new_c3 wc _ _ _ _
              case a2 => exact fldC_one f
              case a3 => unfold maxLen; omega
              case a4 => omega
              case a5 => simp; omega
              intro v5 w5 hown5 hgr5 _ hat5
              obtain ⟨g5, cap6, hv6⟩ := own_form hown5 (by omega)
              subst hv6
              have hXr : ∀ kk, some kk = (Value.slice ao5 fa.length cap5).ownBlock → g < kk := fun kk e => by have := (own_up HOW.out kk e.symm).1; omega
              have hG5 : w5.heap[g]? = some (.cells #[.string ⟨nm.toArray⟩, .slice ao5 fa.length cap5] 38 (0, 0)) := blk_kept (blk_kept HBG.out ((Kept.refl (fun _ => False) wc).alloc (.cells #[.string ⟨f.name.toArray⟩, .int .i64 f.kind, .string ⟨f.of.toArray⟩] 40)) (fun f => f)) (grown_kept hgr5) (fun e => by have := hXr g e; omega)
              obtain ⟨q0, q1⟩ := blk2 hG5
              have q2 : ∀ o, w5.frozen? ⟨g, o, none⟩ = false := fun o => by simp [World.frozen?, hG5]
              have hK5 : Same wo w5 := ((tra HKx.out HKz.out).alloc _).grown hgr5 (fun kk hk hlt => by have := hXr kk hk.symm; have := HGG.out; omega)
              have hK6 : Same wo (w5.setCell ⟨g, 1, none⟩ (.slice (some ⟨g5, 0, none⟩) (fa.length + 1) cap6)) := hK5.setCell (p := ⟨g, 1, none⟩) (fun h => by have h1 : g < wo.heap.size := h; have := HGG.out; omega) _
              have hG6 : (w5.setCell ⟨g, 1, none⟩ (.slice (some ⟨g5, 0, none⟩) (fa.length + 1) cap6)).heap[g]? = some (TBx nm (.slice (some ⟨g5, 0, none⟩) (fa.length + 1) cap6)) := by simp [World.setCell, Array.getElem?_modify, hG5, TBx]
              have hO6 : (w5.setCell ⟨g, 1, none⟩ (.slice (some ⟨g5, 0, none⟩) (fa.length + 1) cap6)).ownsRow (g + 1) 40 3 (.slice (some ⟨g5, 0, none⟩) (fa.length + 1) cap6) (fa ++ [f]).length (fldCells (fa ++ [f])) := by
                rw [fldCells_snoc, List.length_append]
                exact own_kept hown5 ((Kept.refl (· = g) w5).setB 1 _) (fun kk hk e => by omega)
              have HX := hide (And.intro hK6 (And.intro hG6 hO6))
              clear hK5 hK6 hG6 hO6 hown5 hgr5 hat5 hown hXr hG5
              go_wp2_with fail
              go_roundg (gk - 1)
              case measure => omega
              case rel => exact ⟨m3, k3, false, fa ++ [f], _, by omega, by omega, by omega, by omega, by omega, by rw [List.length_append]; simp; omega, rfl, rfl, HX.out.1, HX.out.2.1, HX.out.2.2, HFN⟩
        · have HE := hide (HBAD.out (pType_n2 hkl hty))
          have htb : (T[k].s == [116, 121, 112, 101]) = false := by simpa using hty
          clear h1 hty
          go_wp2_with fail
          refine (HW.out _ k rfl _ H1.out).mono ?_
          rintro e w3 ⟨rfl, rfl⟩
          go_wp2_with fail
          go_ret2
          exact .inr ⟨1, HE.out, by decide, rfl, tra HK1.out HKr.out⟩

end Go.Proofs.YtkkjchfhgjfclabGreatDoor
