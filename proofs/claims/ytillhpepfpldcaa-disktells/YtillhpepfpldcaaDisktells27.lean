/- The reference: CheckDisk. -/
import Derived.Test.YtillhpepfpldcaaDisktells26
import Derived.Test.YtillhpepfpldcaaDisktells24
namespace Go.Proofs.Ytillhpepfpldcaa
open Go.RowKit

theorem great_false {l : List (List UInt8)} : tooGreatD l = false ↔ l.length ≤ 8 ∧ ∀ x ∈ l, x.length ≤ 400 := by
  unfold tooGreatD
  rw [Bool.or_eq_false_iff, decide_eq_false_iff_not, List.any_eq_false]
  simp only [decide_eq_true_eq, Nat.not_lt]
theorem isEnd_bound {s : List UInt8} {n : Int} (h : isEnd s n = true) : 0 ≤ n ∧ n ≤ s.length := by
  obtain ⟨k, hk, rfl⟩ := (isEnd_iff _ _).1 h
  refine ⟨by omega, ?_⟩
  have h1 := whole_le s
  unfold wholeS at h1
  have h2 := congrArg (fun l => (flatB l).length) (List.take_append_drop k (segT s).1)
  simp only [flatB_app, List.length_append] at h2
  omega
theorem last_ok {l : List (List UInt8)} (h : wrongSegs l = 0) : (segT (lastS l)).2.2 = 5 := by
  rcases List.eq_nil_or_concat l with rfl | ⟨i, s, rfl⟩
  · rfl
  · rw [List.concat_eq_append] at *
    rw [lastS_app]
    exact (wrongSegs_app i s h).2
theorem last_le {l : List (List UInt8)} (h : ∀ x ∈ l, x.length ≤ 400) : (lastS l).length ≤ 400 := by
  rcases List.eq_nil_or_concat l with rfl | ⟨i, s, rfl⟩
  · simp [lastS]
  · rw [List.concat_eq_append] at *
    rw [lastS_app]
    exact h s (by simp)
theorem seg_no0 (s : List UInt8) : (segT s).2.2 ≠ 0 := by
  intro h
  have := (segT_is s).2.2
  rw [h] at this
  exact decode_no0 _ this

theorem check_great {d : DiskT} (h : tooGreatD d.segs = true) : checkD d = 2 := by unfold checkD; rw [if_pos h]
theorem check_seg {d : DiskT} (h : tooGreatD d.segs = false) {e : Int} (h2 : wrongSegs d.segs = e) (h3 : e ≠ 0) : checkD d = e := by
  unfold checkD; rw [if_neg (by simp [h]), if_pos (by rw [h2]; exact h3), h2]
theorem check_end {d : DiskT} (h : tooGreatD d.segs = false) (h2 : wrongSegs d.segs = 0) : checkD d = if isEnd (lastS d.segs) d.synced = false then 3 else 0 := by
  unfold checkD; rw [if_neg (by simp [h]), if_neg (by simp [h2])]

set_option maxRecDepth 20000 in
set_option maxHeartbeats 6400000 in
theorem rCheckDisk_any (P : Nat → Prop) (w : World) (v : Value) (d : DiskT) (h : StSl P w v d.segs) :
    Calls Try.prog 20 #[diV v d.synced] w fun r w' => r = .returned (.int .i64 (checkD d)) ∧ Same w w' := by
  have trs : ∀ {a b c : World}, Same a b → Same b c → Same a c := fun h k => h.trans k (fun _ _ f => f)
  obtain ⟨l, sy⟩ := d
  simp only at h ⊢
  obtain ⟨ao, cap, rfl⟩ := h.form
  obtain ⟨_, h63, hcap⟩ := h.len
  obtain ⟨g, hg⟩ : ∃ g, g = w.heap.size := ⟨_, rfl⟩
  obtain ⟨W, hW⟩ : ∃ W, W = w.alloc (.cells #[.slice ao l.length cap, .int .i64 sy] 38) := ⟨_, rfl⟩
  have HG := hide (show W.heap[g]? = some (.cells #[.slice ao l.length cap, .int .i64 sy] 38 (0, 0)) by rw [hW, hg]; exact heap_alloc_new _ _)
  have HKW := hide (show Same w W by rw [hW]; exact (Kept.refl _ w).alloc _)
  have HS := hide (h.same HKW.out)
  clear h
  by_cases h8 : 8 < l.length
  · have HE := hide (check_great (d := ⟨l, sy⟩) (by unfold tooGreatD; simp [h8]))
    go_enter Try.func20, Try.ntmps20
    go_wp2_with fail
    rw [← hW]
    go_ret
    exact ⟨ret_int HE.out.symm, HKW.out⟩
  · have h8' : ¬ (8 : Int) < (l.length : Int) := by omega
    obtain ⟨c0, c1⟩ := blk2 HG.out
    have HC := hide (fun wy (hy : Same W wy) => (⟨hy.cell c0 (fun f => f), hy.cell c1 (fun f => f)⟩ : wy.cell? ⟨g, 0, none⟩ = _ ∧ wy.cell? ⟨g, 1, none⟩ = _))
    clear c0 c1
    go_enter Try.func20, Try.ntmps20
    go_wp2_with fail
    rw [← hW, ← hg]
    clear hW hg
    go_loopg [3] l.length (fun gk iv wr => ∃ (i : Nat), iv = .int .i64 i ∧ i + gk = l.length ∧ Hid (∀ j (hj : j < l.length), j < i → l[j].length ≤ 400) ∧ Hid (Same W wr))
    case atStart => exact ⟨0, rfl, by omega, fun j _ hj => by omega, Kept.refl _ _⟩
    case round =>
      obtain ⟨i, rfl, hi, HL, HKr⟩ := hrel
      obtain ⟨c0, c1⟩ := HC.out _ HKr.out
      by_cases hlt : i < l.length
      · obtain ⟨b, off, hao, _, e0⟩ := (HS.out.same HKr.out).at i hlt
        subst hao
        obtain ⟨x, hx⟩ : ∃ x, x = l[i] := ⟨_, rfl⟩
        rw [← hx] at e0
        have HX := hide hx
        clear hx
        have hzx := bsz x
        obtain ⟨m, hm⟩ : ∃ m, gk = m + 1 := ⟨gk - 1, by omega⟩
        subst hm
        by_cases h4 : 400 < x.length
        · have HE := hide (check_great (d := ⟨l, sy⟩) (by
            cases hb : tooGreatD l with
            | true => rfl
            | false =>
              have h1 := (great_false.1 hb).2 _ (List.getElem_mem hlt)
              rw [← HX.out] at h1
              omega))
          go_wp2_with fail
          go_ret
          exact ⟨ret_int HE.out.symm, trs HKW.out (by first | exact HKr.out | exact HKr.out.drew | exact HKr.out.drewN _)⟩
        · have HL2 := hide (show ∀ j (hj : j < l.length), j < i + 1 → l[j].length ≤ 400 by
            intro j hj hji
            by_cases e : j = i
            · subst e; rw [← HX.out]; omega
            · exact HL.out j hj (by omega))
          have h4' : ¬ (400 : Int) < (x.length : Int) := by omega
          clear HL HX
          go_wp2_with fail
          go_roundg m
          case measure => omega
          case rel => exact ⟨i + 1, by go_num, by omega, HL2, by first | exact HKr | exact HKr.out.drew | exact HKr.out.drewN _⟩
      · have hil : i = l.length := by omega
        have HGR := hide (show tooGreatD l = false from great_false.2 ⟨by omega, fun x hx => by
          obtain ⟨j, hj, rfl⟩ := List.mem_iff_getElem.1 hx
          exact HL.out j hj (by omega)⟩)
        have HL4 := hide (show ∀ x ∈ l, x.length ≤ 400 from (great_false.1 HGR.out).2)
        have hnlt : ¬ (i : Int) < (l.length : Int) := by omega
        clear hil HL
        go_wp2_with fail
        have HK1 := HKr
        clear c0 c1 hnlt
        go_loopg [4] l.length (fun gk iv wr => ∃ (i : Nat), iv = .int .i64 i ∧ i + gk = l.length ∧ Hid (wrongSegs l = wrongSegs (l.drop i)) ∧ Hid (Same W wr))
        case atStart => exact ⟨0, rfl, by omega, by show _ = _; simp, HK1⟩
        case round =>
          obtain ⟨i, rfl, hi, HWS, HKr⟩ := hrel
          clear HK1
          obtain ⟨c0, c1⟩ := HC.out _ HKr.out
          by_cases hlt : i < l.length
          · obtain ⟨b, off, hao, _, e0⟩ := (HS.out.same HKr.out).at i hlt
            subst hao
            obtain ⟨x, hx⟩ : ∃ x, x = l[i] := ⟨_, rfl⟩
            rw [← hx] at e0
            have hx4 : x.length ≤ 400 := by rw [hx]; exact HL4.out _ (List.getElem_mem hlt)
            have HXX := hide hx
            have HDR := hide (show l.drop i = x :: l.drop (i + 1) by rw [hx]; exact List.drop_eq_getElem_cons hlt)
            clear hx
            have hzx := bsz x
            obtain ⟨m, hm⟩ : ∃ m, gk = m + 1 := ⟨gk - 1, by omega⟩
            subst hm
            have HSO := hide (fun wx => segOf_any wx x hx4)
            go_wp2_with fail
            refine (HSO.out _).mono ?_
            clear HSO
            rintro r w2 ⟨v2, rfl, _, hK2⟩
            have HK2 := hide (trs HKr.out hK2)
            clear hK2 c0 c1 e0
            obtain ⟨c0, c1⟩ := HC.out _ HK2.out
            obtain ⟨b2, off2, hao, _, e0⟩ := (HS.out.same HK2.out).at i hlt
            cases hao
            rw [← HXX.out] at e0
            obtain ⟨e, he⟩ : ∃ e, (segT x).2.2 = e := ⟨_, rfl⟩
            obtain ⟨q, hq⟩ : ∃ q, (wholeS x).length = q := ⟨_, rfl⟩
            have HQ := hide (show (segT x).2.1 = [] ↔ q = x.length by rw [← hq]; exact rest_nil x)
            have HQL := hide (show q ≤ x.length by rw [← hq]; exact whole_le x)
            have HN0 := hide (show e ≠ 0 by rw [← he]; exact seg_no0 x)
            have HWX := hide (show wrongSegs l = if e ≠ 5 then e else if (segT x).2.1 ≠ [] ∧ l.drop (i + 1) ≠ [] then 4 else wrongSegs (l.drop (i + 1)) by rw [HWS.out, HDR.out, wrongSegs, he])
            rw [he, hq]
            clear he hq HWS HDR HXX
            by_cases h5 : e = 5
            · subst h5
              have hql : q ≤ x.length := HQL.out
              by_cases hla : i + 1 < l.length
              · have hla' : (i : Int) < (l.length : Int) - 1 := by omega
                by_cases hqx : q < x.length
                · have hqx' : (q : Int) < (x.length : Int) := by omega
                  have HE := hide (check_seg (d := ⟨l, sy⟩) HGR.out (e := 4) (by
                    rw [show wrongSegs l = _ from HWX.out, if_neg (by simp), if_pos]
                    refine ⟨fun e => ?_, fun e => ?_⟩
                    · have := HQ.out.1 e; omega
                    · have := congrArg List.length e; rw [List.length_drop] at this; simp at this; omega) (by decide))
                  clear HWX
                  go_wp2_with fail
                  go_ret
                  exact ⟨ret_int HE.out.symm, trs HKW.out HK2.out⟩
                · have hqx' : ¬ (q : Int) < (x.length : Int) := by omega
                  have HW2 := hide (show wrongSegs l = wrongSegs (l.drop (i + 1)) by
                    rw [HWX.out, if_neg (by simp), if_neg (fun h => h.1 (HQ.out.2 (by omega)))])
                  clear HWX
                  go_wp2_with fail
                  go_roundg m
                  case measure => omega
                  case rel => exact ⟨i + 1, by go_num, by omega, HW2, HK2⟩
              · have hla' : ¬ (i : Int) < (l.length : Int) - 1 := by omega
                have HW2 := hide (show wrongSegs l = wrongSegs (l.drop (i + 1)) by
                  rw [HWX.out, if_neg (by simp), if_neg (fun h => h.2 (List.drop_eq_nil_of_le (by omega)))])
                clear HWX
                go_wp2_with fail
                go_roundg m
                case measure => omega
                case rel => exact ⟨i + 1, by go_num, by omega, HW2, HK2⟩
            · have HE := hide (check_seg (d := ⟨l, sy⟩) HGR.out (e := e) (by rw [show wrongSegs l = _ from HWX.out, if_pos h5]) HN0.out)
              have h5' : (e != 5) = true := by simp [h5]
              clear HWX h5
              go_wp2_with fail
              go_ret
              exact ⟨ret_int HE.out.symm, trs HKW.out HK2.out⟩
          · have hil : i = l.length := by omega
            have HW0 := hide (show wrongSegs l = 0 by rw [HWS.out, hil, List.drop_length]; rfl)
            have hnlt : ¬ (i : Int) < (l.length : Int) := by omega
            have HEN := hide (check_end (d := ⟨l, sy⟩) HGR.out HW0.out)
            obtain ⟨t, ht⟩ : ∃ t, lastS l = t := ⟨_, rfl⟩
            have ht4 : t.length ≤ 400 := by rw [← ht]; exact last_le HL4.out
            have HT5 := hide (show (segT t).2.2 = 5 by rw [← ht]; exact last_ok HW0.out)
            have HLO := hide (lastOf_any _ wr _ sy l (HS.out.same HKr.out))
            simp only at HEN
            rw [ht] at HEN HLO
            have hzt := bsz t
            clear hil HWS HW0 ht
            go_wp2_with fail
            refine HLO.out.mono ?_
            clear HLO
            rintro r w2 ⟨rfl, hK2⟩
            have HK2 := hide (trs HKr.out hK2)
            clear hK2 c0 c1
            obtain ⟨c0, c1⟩ := HC.out _ HK2.out
            have HBT := hide (fun wx => btw_any sy 0 t.length wx)
            cases hb : btw sy 0 t.length with
            | false =>
              have HE := hide (show checkD ⟨l, sy⟩ = 3 by
                rw [HEN.out, if_pos]
                cases hx : isEnd t sy with
                | false => rfl
                | true =>
                  have := isEnd_bound hx
                  unfold btw at hb
                  simp at hb
                  omega)
              rw [hb] at HBT
              clear hb
              go_wp2_with fail
              refine (HBT.out _).mono ?_
              rintro r w3 ⟨rfl, hw3⟩
              rw [hw3]
              clear hw3 w3
              go_wp2_with fail
              go_ret
              exact ⟨ret_int HE.out.symm, trs HKW.out HK2.out⟩
            | true =>
              have hs0 : 0 ≤ sy ∧ sy ≤ t.length := by unfold btw at hb; simp at hb; omega
              rw [hb] at HBT
              clear hb
              obtain ⟨n, hn⟩ := Int.eq_ofNat_of_zero_le hs0.1
              have hnt : n ≤ t.length := by omega
              have hs1 : 0 ≤ sy := hs0.1
              have hs2 : sy ≤ t.length := hs0.2
              have htn : sy.toNat = n := by omega
              have HXT := hide (show (⟨t.toArray⟩ : ByteArray).extract 0 n = ⟨(t.take n).toArray⟩ by rw [bytes_extract]; congr 2)
              have HSO := hide (fun wx => segOf_any wx (t.take n) (by rw [List.length_take]; omega))
              have HE := hide (show checkD ⟨l, sy⟩ = if (wholeS (t.take n)).length = n then 0 else 3 by
                rw [HEN.out, hn, isEnd_take HT5.out n hnt]
                by_cases h : (wholeS (t.take n)).length = n
                · rw [if_pos h, if_neg (by simp [h])]
                · rw [if_neg h, if_pos (by simp [h])])
              clear HEN hs0
              subst hn
              go_wp2_with fail
              refine (HBT.out _).mono ?_
              rintro r w3 ⟨rfl, hw3⟩
              rw [hw3]
              clear hw3 w3
              go_wp2_with fail
              rw [HXT.out]
              refine (HSO.out _).mono ?_
              clear HSO
              rintro r w4 ⟨v4, rfl, _, hK4⟩
              have HK4 := hide (trs HK2.out hK4)
              clear hK4 c0 c1
              obtain ⟨c0, c1⟩ := HC.out _ HK4.out
              obtain ⟨q, hq⟩ : ∃ q, (wholeS (t.take n)).length = q := ⟨_, rfl⟩
              rw [hq] at HE ⊢
              clear hq
              by_cases hqn : q = n
              · have hqn' : ((q : Int) != (n : Int)) = false := by simp; omega
                have HF := hide (show checkD ⟨l, (n : Int)⟩ = 0 by rw [HE.out, if_pos hqn])
                clear HE hqn
                go_wp2_with fail
                go_ret
                exact ⟨ret_int HF.out.symm, trs HKW.out HK4.out⟩
              · have hqn' : ((q : Int) != (n : Int)) = true := by simp; omega
                have HF := hide (show checkD ⟨l, (n : Int)⟩ = 3 by rw [HE.out, if_neg hqn])
                clear HE hqn
                go_wp2_with fail
                go_ret
                exact ⟨ret_int HF.out.symm, trs HKW.out HK4.out⟩

end Go.Proofs.Ytillhpepfpldcaa
