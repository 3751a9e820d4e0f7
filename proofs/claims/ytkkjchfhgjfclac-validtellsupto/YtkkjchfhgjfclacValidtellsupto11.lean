import Derived.Test.YtkkjchfhgjfclacValidtellsupto10
import Derived.Test.YtkkjchfhgjfclacValidtellsupto01
import Derived.Test.YtkkjchfhgjfclacValidtellsupto08
/- schema.wrongType, schema.Check, whatever they are handed. -/
namespace Go.Proofs.Ytkkjchfhgjfclac
open Go.RowKit

theorem typeNamed_has (w : World) (v : Value) (l : List TypeT) (nm : List UInt8) (P : Nat → Prop) (h : TypSl P w v l) (hh : hasT l nm = true) :
    Calls Try.prog 36 #[v, .string ⟨nm.toArray⟩] w fun e w' => ∃ j : Nat, e = .returned (.int .i64 j) ∧ Same w w' := by
  refine (typeNamed_any w v l nm P h).mono ?_
  rintro e w' (⟨j, rfl, _, _, hK⟩ | ⟨rfl, ha, hK⟩)
  · exact ⟨j, rfl, hK⟩
  · rw [hh] at ha; cases ha
theorem typeNamed_not (w : World) (v : Value) (l : List TypeT) (nm : List UInt8) (P : Nat → Prop) (h : TypSl P w v l) (hh : hasT l nm = false) :
    Calls Try.prog 36 #[v, .string ⟨nm.toArray⟩] w fun e w' => e = .returned (.int .i64 (-1)) ∧ Same w w' := by
  refine (typeNamed_any w v l nm P h).mono ?_
  rintro e w' (⟨j, rfl, ha, _, hK⟩ | ⟨rfl, ha, hK⟩)
  · rw [hh] at ha; cases ha
  · exact ⟨rfl, hK⟩

theorem wrongTy_of (l seen : List TypeT) (t : TypeT) (m : Int) (hm : wrongT (nameT t.name) = m) (q : Bool) (hq : hasT seen t.name = q) :
    wrongTy l seen t = if m ≠ 0 then m else if t.name = bNumber ∨ t.name = bText then 4 else if q then 6 else if t.fields.length = 0 then 5 else if 6 < t.fields.length then 2 else wrongFs l [] t.fields := by rw [wrongTy, hm, hq]

theorem wrongFs_step (l : List TypeT) (fs : List FieldT) (j : Nat) (h : j < fs.length) : wrongFs l (fs.take j) (fs.drop j) = if wrongFd l (fs.take j) fs[j] ≠ 0 then wrongFd l (fs.take j) fs[j] else wrongFs l (fs.take (j + 1)) (fs.drop (j + 1)) := by
  rw [List.drop_eq_getElem_cons h, wrongFs, List.take_succ_eq_append_getElem h]

set_option maxRecDepth 20000 in
set_option maxHeartbeats 3200000 in
theorem wrongType_any (w : World) (vt : Value) (l : List TypeT) (i : Nat) (hi : i < l.length) (P : Nat → Prop) (ht : TypSl P w vt l) :
    Calls Try.prog 58 #[vt, .int .i64 i] w fun e w' => e = .returned (.int .i64 (wrongTy l (l.take i) l[i])) ∧ Same w w' := by
  obtain ⟨at', ct, rfl, ⟨hmax, hcap⟩, _⟩ := id ht
  unfold maxLen at hmax
  obtain ⟨b, off, af, nf, cf, rfl, c0, c1, hnf, hfs⟩ := ht.at i hi
  obtain ⟨t, hte⟩ : ∃ t, t = l[i] := ⟨_, rfl⟩
  rw [← hte] at c0 hnf hfs ⊢
  clear hte
  subst hnf
  have hfm : t.fields.length ≤ 9223372036854775807 := by
    obtain ⟨_, _, _, h, _⟩ := id hfs
    exact h.1
  obtain ⟨m, hm⟩ : ∃ m, wrongT (nameT t.name) = m := ⟨_, rfl⟩
  obtain ⟨q, hq⟩ : ∃ q, hasT (l.take i) t.name = q := ⟨_, rfl⟩
  have HW := hide (wrongTy_of l (l.take i) t m hm q hq)
  have HNM := hide (fun w => wrongName_is w t.name m hm)
  have HQ := hide hq
  have HT := hide ht
  have HFS := hide hfs
  clear hm hq ht hfs
  have kA : ∀ o, Same w (w.alloc o) := fun o => (Kept.refl _ w).alloc o
  go_enter Try.func58, Try.ntmps58
  go_wp2_with fail
  refine (HNM.out _).mono ?_
  rintro e w1 ⟨rfl, hK1⟩
  have hb1 := new_kept hK1 (fun f => f)
  have hKa : Same w w1 := tra (kA _) hK1
  have hw1 : w.heap.size < w1.heap.size := (Array.getElem?_eq_some_iff.1 hb1).1
  clear kA c0 c1 hK1
  by_cases hm0 : m = 0
  · subst hm0
    obtain ⟨g0, g1⟩ := blk2 hb1
    by_cases hid : t.name = bNumber
    · have HF := hide (show wrongTy l (l.take i) t = 4 by rw [HW.out, if_neg (by simp), if_pos (.inl hid)])
      rw [hid] at g0
      clear hid
      go_wp2_with fail
      go_ret
      exact ⟨ret_int HF.out.symm, hKa⟩
    · have hid' : (t.name == [78, 117, 109, 98, 101, 114]) = false := by simpa using hid
      by_cases htx : t.name = bText
      · have HF := hide (show wrongTy l (l.take i) t = 4 by rw [HW.out, if_neg (by simp), if_pos (.inr htx)])
        rw [htx] at g0
        clear htx hid hid'
        go_wp2_with fail
        go_ret
        exact ⟨ret_int HF.out.symm, hKa⟩
      · have htx' : (t.name == [84, 101, 120, 116]) = false := by simpa using htx
        have HF := hide (show wrongTy l (l.take i) t = if q then 6 else if t.fields.length = 0 then 5 else if 6 < t.fields.length then 2 else wrongFs l [] t.fields by rw [HW.out, if_neg (by simp), if_neg (fun e => e.elim hid htx)])
        clear hid htx HW
        have HTK := hide (fun w2 (hK2 : Same w w2) => (HT.out.same hK2).take i (by omega))
        cases q
        · have HTN := hide (fun w2 (hK2 : Same w w2) => typeNamed_not w2 _ (l.take i) t.name P (HTK.out w2 hK2) HQ.out)
          have HKD := hide (fun n => hKa.drewN n)
          go_wp2_with fail
          go_region_with ((go_at_call 36; refine (HTN.out _ (by first | exact hKa | exact HKD.out _)).mono ?_; rintro e w2 ⟨rfl, hK2⟩))
          all_goals
            have hKb : Same w w2 := tra hKa (by first | exact hK2.unD | exact hK2.unN | exact hK2)
            have hb2 : w2.heap[w.heap.size]? = _ := (hK2.block w.heap.size hw1 (fun f => f)).trans hb1
            have hw2 : w.heap.size < w2.heap.size := (Array.getElem?_eq_some_iff.1 hb2).1
            obtain ⟨p0, p1⟩ := blk2 hb2
            have HF2 := hide (show wrongTy l (l.take i) t = if t.fields.length = 0 then 5 else if 6 < t.fields.length then 2 else wrongFs l [] t.fields by rw [HF.out]; rfl)
            clear HF HTN HTK HKD g0 g1 hb1 hK2 HNM HQ
            by_cases hz : t.fields.length = 0
            · have HZ := hide (show wrongTy l (l.take i) t = 5 by rw [HF2.out, if_pos hz])
              rw [hz] at p1
              clear hz HF2
              go_wp2_with fail
              go_ret
              exact ⟨ret_int HZ.out.symm, hKb⟩
            · have hz' : ((t.fields.length : Int) == 0) = false := beq_eq_false_iff_ne.2 (by omega)
              by_cases h6 : 6 < t.fields.length
              · have HZ := hide (show wrongTy l (l.take i) t = 2 by rw [HF2.out, if_neg hz, if_pos h6])
                clear hz HF2
                go_wp2_with fail
                go_ret
                exact ⟨ret_int HZ.out.symm, hKb⟩
              · have HZ := hide (show wrongTy l (l.take i) t = wrongFs l [] t.fields by rw [HF2.out, if_neg hz, if_neg h6])
                have h6' : t.fields.length ≤ 6 := by omega
                have HB := hide hb2
                clear hz h6 HF2 hb2
                go_wp2_with fail
                go_loopg [49] t.fields.length (fun g k wr => ∃ j : Nat, j + g = t.fields.length ∧ k = .int .i64 j ∧ Same w2 wr ∧ Hid (wrongFs l [] t.fields = wrongFs l (t.fields.take j) (t.fields.drop j)))
                case atStart => exact ⟨0, by omega, rfl, Kept.refl _ _, rfl⟩
                case round =>
                  obtain ⟨j, hj, rfl, hKr, HE⟩ := hrel
                  obtain ⟨r0, r1⟩ := blk2 ((hKr.block w.heap.size hw2 (fun f => f)).trans HB.out)
                  have hKc : Same w wr := tra hKb hKr
                  by_cases hlt : j < t.fields.length
                  · obtain ⟨mf, hmf⟩ : ∃ mf, wrongFd l (t.fields.take j) t.fields[j] = mf := ⟨_, rfl⟩
                    have HWF := wrongField_any wr _ _ l t.fields j hlt P P (HT.out.same hKc) (HFS.out.same hKc)
                    have HST := hide (wrongFs_step l t.fields j hlt)
                    rw [hmf] at HWF HST
                    have HW1 := hide HWF
                    clear HWF hmf
                    go_wp2_with fail
                    refine HW1.out.mono ?_
                    rintro e w3 ⟨rfl, hK3⟩
                    by_cases hm0 : mf = 0
                    · have HM := hide (show wrongFs l [] t.fields = wrongFs l (t.fields.take (j + 1)) (t.fields.drop (j + 1)) by rw [HE.out, HST.out, if_neg (by simp [hm0])])
                      subst hm0
                      go_wp2_with fail
                      go_roundg (gk - 1)
                      case measure => omega
                      case rel => exact ⟨j + 1, by omega, by go_num, tra hKr hK3, HM⟩
                    · have HM := hide (show wrongFs l [] t.fields = mf by rw [HE.out, HST.out, if_pos hm0])
                      have hm1 : (mf != 0) = true := by simp [hm0]
                      clear hm0
                      go_wp2_with fail
                      go_ret
                      exact ⟨ret_int (by rw [HZ.out, HM.out]), tra hKc hK3⟩
                  · go_wp2_with fail
                    go_ret
                    exact ⟨ret_int (by rw [HZ.out, HE.out, List.drop_eq_nil_of_le (by omega)]; rfl), hKc⟩
        · have HTN := hide (fun w2 (hK2 : Same w w2) => typeNamed_has w2 _ (l.take i) t.name P (HTK.out w2 hK2) HQ.out)
          have HKD := hide (fun n => hKa.drewN n)
          go_wp2_with fail
          go_region_with ((go_at_call 36; refine (HTN.out _ (by first | exact hKa | exact HKD.out _)).mono ?_; rintro e w2 ⟨jj, rfl, hK2⟩))
          all_goals
            have hKb : Same w w2 := tra hKa (by first | exact hK2.unD | exact hK2.unN | exact hK2)
            go_wp2_with fail
            go_ret
            exact ⟨ret_int (by rw [HF.out]; rfl), hKb⟩
  · have hm1 : (m != 0) = true := by simp [hm0]
    have HF := hide (show wrongTy l (l.take i) t = m by rw [HW.out, if_pos hm0])
    clear hm0
    go_wp2_with fail
    go_ret
    exact ⟨ret_int HF.out.symm, hKa⟩

theorem wrongTs_step (l : List TypeT) (i : Nat) (h : i < l.length) : wrongTs l (l.take i) (l.drop i) = if wrongTy l (l.take i) l[i] ≠ 0 then wrongTy l (l.take i) l[i] else wrongTs l (l.take (i + 1)) (l.drop (i + 1)) := by
  rw [List.drop_eq_getElem_cons h, wrongTs, List.take_succ_eq_append_getElem h]

set_option maxRecDepth 20000 in
set_option maxHeartbeats 1600000 in
theorem scCheck_any (w : World) (v : Value) (l : List TypeT) (P : Nat → Prop) (h : TypSl P w v l) :
    Calls Try.prog 31 #[v] w fun e w' => e = .returned (.int .i64 (checkSc l)) ∧ Same w w' := by
  obtain ⟨ao, cap, rfl, ⟨hmax, hcap⟩, _⟩ := id h
  unfold maxLen at hmax
  have hmax' : l.length ≤ 9223372036854775807 := hmax
  clear hmax
  by_cases hz : l.length = 0
  · have HZ := hide (show checkSc l = 5 by rw [checkSc, if_pos hz])
    rw [hz]
    clear h hz hmax' hcap
    go_enter Try.func31, Try.ntmps31
    go_wp2_with fail
    go_ret
    exact ⟨ret_int HZ.out.symm, Kept.refl _ _⟩
  · have hz' : ((l.length : Int) == 0) = false := beq_eq_false_iff_ne.2 (by omega)
    by_cases h5 : 5 < l.length
    · have HZ := hide (show checkSc l = 2 by rw [checkSc, if_neg hz, if_pos h5])
      clear h hz
      go_enter Try.func31, Try.ntmps31
      go_wp2_with fail
      go_ret
      exact ⟨ret_int HZ.out.symm, Kept.refl _ _⟩
    · have HZ := hide (show checkSc l = wrongTs l [] l by rw [checkSc, if_neg hz, if_neg h5])
      have h5' : l.length ≤ 5 := by omega
      have HH := hide h
      clear hz h5 h hmax'
      go_enter Try.func31, Try.ntmps31
      go_wp2_with fail
      go_loopg [15] l.length (fun g k wr => ∃ i : Nat, i + g = l.length ∧ k = .int .i64 i ∧ Same w wr ∧ Hid (wrongTs l [] l = wrongTs l (l.take i) (l.drop i)))
      case atStart => exact ⟨0, by omega, rfl, Kept.refl _ _, rfl⟩
      case round =>
        obtain ⟨i, hi, rfl, hK, HE⟩ := hrel
        by_cases hlt : i < l.length
        · obtain ⟨m, hm⟩ : ∃ m, wrongTy l (l.take i) l[i] = m := ⟨_, rfl⟩
          have HWT := wrongType_any wr _ l i hlt P (HH.out.same hK)
          have HST := hide (wrongTs_step l i hlt)
          rw [hm] at HWT HST
          have HW1 := hide HWT
          clear HWT hm
          go_wp2_with fail
          refine HW1.out.mono ?_
          rintro e w3 ⟨rfl, hK3⟩
          by_cases hm0 : m = 0
          · have HM := hide (show wrongTs l [] l = wrongTs l (l.take (i + 1)) (l.drop (i + 1)) by rw [HE.out, HST.out, if_neg (by simp [hm0])])
            subst hm0
            go_wp2_with fail
            go_roundg (gk - 1)
            case measure => omega
            case rel => exact ⟨i + 1, by omega, by go_num, tra hK hK3, HM⟩
          · have HM := hide (show wrongTs l [] l = m by rw [HE.out, HST.out, if_pos hm0])
            have hm1 : (m != 0) = true := by simp [hm0]
            clear hm0
            go_wp2_with fail
            go_ret
            exact ⟨ret_int (by rw [HZ.out, HM.out]), tra hK hK3⟩
        · go_wp2_with fail
          go_ret
          exact ⟨ret_int (by rw [HZ.out, HE.out, List.drop_eq_nil_of_le (by omega)]; rfl), hK⟩

end Go.Proofs.Ytkkjchfhgjfclac

/- Slices of arguments and of selects in memory, and as a row's arguments. -/
namespace Go.Proofs.Ytkkjchfhgjfclac
open Go.ChangeShapes Go.WideShapes Go.RowKit

/-- v is a slice of the arguments l, in w -/
def ArgSl (w : World) (v : Value) (l : List ArgT) : Prop :=
  ∃ ao cap, v = .slice ao l.length cap ∧ (l.length ≤ maxLen ∧ l.length ≤ cap) ∧ ∀ i a, l[i]? = some a → ∃ b off, ao = some ⟨b, off, none⟩ ∧
    w.cell? ⟨b, off + i * 4, none⟩ = some (.string ⟨a.name.toArray⟩) ∧ w.cell? ⟨b, off + i * 4 + 1, none⟩ = some (.bool a.isText) ∧ w.cell? ⟨b, off + i * 4 + 2, none⟩ = some (.string ⟨a.text.toArray⟩) ∧ w.cell? ⟨b, off + i * 4 + 3, none⟩ = some (.int .i64 a.n)

/-- the selects f lie in block b from off on, in w -/
def SelAt (w : World) : Sels → Nat → Nat → Prop
  | .nil, _, _ => True
  | .cons al nm args k r, b, off =>
    w.cell? ⟨b, off, none⟩ = some (.string ⟨al.toArray⟩) ∧ w.cell? ⟨b, off + 1, none⟩ = some (.string ⟨nm.toArray⟩) ∧
    (∃ va, w.cell? ⟨b, off + 2, none⟩ = some va ∧ ArgSl w va args) ∧
    (∃ ao cap, w.cell? ⟨b, off + 3, none⟩ = some (.slice ao k.len cap) ∧ (k.len ≤ maxLen ∧ k.len ≤ cap) ∧ (k = .nil ∨ ∃ b' o', ao = some ⟨b', o', none⟩ ∧ SelAt w k b' o')) ∧
    SelAt w r b (off + 4)

/-- v is a slice of the selects f, in w -/
def SelSl (w : World) (v : Value) (f : Sels) : Prop :=
  ∃ ao cap, v = .slice ao f.len cap ∧ (f.len ≤ maxLen ∧ f.len ≤ cap) ∧ (f = .nil ∨ ∃ b o, ao = some ⟨b, o, none⟩ ∧ SelAt w f b o)

theorem ArgSl.same {w w' : World} {v : Value} {l : List ArgT} (h : ArgSl w v l) (hk : Same w w') : ArgSl w' v l := by
  obtain ⟨ao, cap, hv, hl, hc⟩ := h
  refine ⟨ao, cap, hv, hl, fun i t ht => ?_⟩
  obtain ⟨b, off, ha, h0, h1, h2, h3⟩ := hc i t ht
  exact ⟨b, off, ha, hk.cell h0 (fun f => f), hk.cell h1 (fun f => f), hk.cell h2 (fun f => f), hk.cell h3 (fun f => f)⟩

theorem SelAt.same {w w' : World} (hk : Same w w') : ∀ (f : Sels) (b off : Nat), SelAt w f b off → SelAt w' f b off := by
  intro f
  induction f with
  | nil => intro b off _; trivial
  | cons al nm args k r ihk ihr =>
    intro b off h
    obtain ⟨h0, h1, ⟨va, h2, ha⟩, ⟨ao, cap, h3, hl, hs⟩, hr⟩ := h
    refine ⟨hk.cell h0 (fun f => f), hk.cell h1 (fun f => f), ⟨va, hk.cell h2 (fun f => f), ha.same hk⟩, ⟨ao, cap, hk.cell h3 (fun f => f), hl, ?_⟩, ihr _ _ hr⟩
    rcases hs with rfl | ⟨b', o', e, hs⟩
    · exact .inl rfl
    · exact .inr ⟨b', o', e, ihk _ _ hs⟩

theorem SelSl.same {w w' : World} {v : Value} {f : Sels} (h : SelSl w v f) (hk : Same w w') : SelSl w' v f := by
  obtain ⟨ao, cap, hv, hl, hs⟩ := h
  refine ⟨ao, cap, hv, hl, ?_⟩
  rcases hs with rfl | ⟨b, o, e, hs⟩
  · exact .inl rfl
  · exact .inr ⟨b, o, e, SelAt.same hk _ _ _ hs⟩

theorem SelSl.nil (w : World) : SelSl w (.slice none 0 0) .nil := ⟨none, 0, rfl, ⟨Nat.zero_le _, Nat.le_refl _⟩, .inl rfl⟩

set_option maxRecDepth 20000 in
/-- an argument's slice of arguments, as cells -/
theorem args_of {H : Type} {enc : TypeId × Value → H} {W : World} {fuel : Nat} {cs : List Value} {x : DataW H × List MemPlace} {sp : Nat → Bool} {held : Bool}
    (hf : DataW.trod enc Try.prog W 0 sp held fuel 60 cs = some x) : ∃ v l, cs = [v] ∧ ArgSl W v l := by
  have hcells : Try.prog.cellsOf 101 = 4 := by kernel_rfl
  have hint : Try.prog.cellsOf 3 = 1 := by kernel_rfl
  have hstr : Try.prog.cellsOf 9 = 1 := by kernel_rfl
  have hboo : Try.prog.cellsOf 4 = 1 := by kernel_rfl
  rcases Deep.open_slice Try.underlying60 hf with ⟨rfl, _⟩ | ⟨a, len, cap, m, n, D, Pl, rfl, hb, hl, hm, hmm, hx, hall⟩
  · exact ⟨_, [], rfl, none, 0, rfl, ⟨Nat.zero_le _, Nat.le_refl _⟩, fun i t h => by simp at h⟩
  · have hlm : len ≤ m := by rw [hmm]; split <;> omega
    rw [hcells] at hall
    have each : ∀ i, i < len → ∃ t : ArgT, W.cell? (a.add (i * 4)) = some (.string ⟨t.name.toArray⟩) ∧ W.cell? (a.add (i * 4 + 1)) = some (.bool t.isText) ∧ W.cell? (a.add (i * 4 + 2)) = some (.string ⟨t.text.toArray⟩) ∧ W.cell? (a.add (i * 4 + 3)) = some (.int .i64 t.n) := by
      intro i hi
      obtain ⟨cs', h1, h2⟩ := hall i (by omega)
      obtain ⟨_, hlen, hcell⟩ := World.cells?_some h1
      obtain ⟨xs, q, _, _, _, hxl, hfd⟩ := DataW.trod_struct Try.underlying101 h2
      match xs, hxl, cs', hlen with
      | [y0, y1, y2, y3], _, [v0, v1, v2, v3], _ =>
        have g0 := hfd 0 _ rfl
        have g1 := hfd 1 _ rfl
        have g2 := hfd 2 _ rfl
        have g3 := hfd 3 _ rfl
        simp [hint, hstr, hboo] at g0 g1 g2 g3
        obtain ⟨z0, e0, _, _⟩ := DataW.trod_string Try.underlying9 g0
        obtain ⟨z1, e1, _⟩ := DataW.trod_bool Try.underlying4 g1
        obtain ⟨z2, e2, _, _⟩ := DataW.trod_string Try.underlying9 g2
        obtain ⟨z3, e3, _, _⟩ := DataW.trod_int Try.underlying3 g3
        simp only [List.cons.injEq, and_true] at e0 e1 e2 e3
        subst e0 e1 e2 e3
        have c0 := hcell 0 (by omega)
        have c1 := hcell 1 (by omega)
        have c2 := hcell 2 (by omega)
        have c3 := hcell 3 (by omega)
        rw [Deep.add_add] at c0 c1 c2 c3
        exact ⟨⟨z0.data.toList, z1, z2.data.toList, z3⟩, by simpa using c0, by simpa using c1, by simpa using c2, by simpa using c3⟩
    have : Inhabited ArgT := ⟨⟨[], false, [], 0⟩⟩
    obtain ⟨T, hT⟩ := Deep.choose_lt each
    have hlen : ((List.range len).map T).length = len := by simp
    refine ⟨_, (List.range len).map T, rfl, some a, cap, by rw [hlen], by rw [hlen]; exact ⟨by omega, hl⟩, ?_⟩
    intro i t ht
    obtain ⟨hi, ht⟩ := List.getElem?_eq_some_iff.1 ht
    rw [hlen] at hi
    simp only [List.getElem_map, List.getElem_range] at ht
    subst ht
    obtain ⟨c0, c1, c2, c3⟩ := hT i hi
    obtain ⟨b, off, spot⟩ := a
    have hspot : spot = none := by
      have := World.cell?_spot (hT 0 (by omega)).1
      simpa [Addr.add] using this
    subst hspot
    rw [add_none] at c0 c1 c2 c3
    exact ⟨b, off, rfl, c0, by rw [Nat.add_assoc]; exact c1, by rw [Nat.add_assoc]; exact c2, by rw [Nat.add_assoc]; exact c3⟩

end Go.Proofs.Ytkkjchfhgjfclac
