/- The reference: BatchOf. (Written by tool/genre6.py.) -/
import Derived.Test.YtillhpepfpldcaaDisktells08
import Derived.Test.YtillhpepfpldcaaDisktells09
import Derived.Test.YtillhpepfpldcaaDisktells10
import Derived.Test.YtillhpepfpldcaaDisktells13
import Derived.Deep.DeepCutAuto
namespace Go.Proofs.Ytillhpepfpldcaa
open Go.RowKit

theorem nat_s (w : World) (t : List UInt8) (q k : Nat) (p : Int) (hp : p = q) (hs : t.length ≤ 140737488351232) (hat : q ≤ 1000000000) (hk1 : 1 ≤ k) (hk4 : k ≤ 4) {n : Nat} {r : List UInt8} (h : numF k 0 (t.drop q) = some (n, r)) :
    Calls Try.prog 40 #[.string ⟨t.toArray⟩, .int .i64 p, .int .i64 k] w fun e w' => e = .returned (.tuple #[.int .i64 n, .bool true]) ∧ w' = w := by
  subst hp
  refine (numberAt_any w ⟨t.toArray⟩ q k (by rw [ByteArray.size]; simp; omega) (by omega) hk1 hk4).mono ?_
  rintro e w' ⟨rfl, ⟨n', r', h1, rfl⟩ | ⟨h1, _⟩⟩
  · have h1' : numF k 0 (t.drop q) = some (n', r') := by simpa using h1
    rw [h] at h1'; cases h1'; exact ⟨rfl, rfl⟩
  · have h1' : numF k 0 (t.drop q) = none := by simpa using h1
    rw [h] at h1'; cases h1'
theorem nat_n (w : World) (t : List UInt8) (q k : Nat) (p : Int) (hp : p = q) (hs : t.length ≤ 140737488351232) (hat : q ≤ 1000000000) (hk1 : 1 ≤ k) (hk4 : k ≤ 4) (h : numF k 0 (t.drop q) = none) :
    Calls Try.prog 40 #[.string ⟨t.toArray⟩, .int .i64 p, .int .i64 k] w fun e w' => e = .returned (.tuple #[.int .i64 0, .bool false]) ∧ w' = w := by
  subst hp
  refine (numberAt_any w ⟨t.toArray⟩ q k (by rw [ByteArray.size]; simp; omega) (by omega) hk1 hk4).mono ?_
  rintro e w' ⟨rfl, ⟨n', r', h1, rfl⟩ | ⟨h1, rfl⟩⟩
  · have h1' : numF k 0 (t.drop q) = some (n', r') := by simpa using h1
    rw [h] at h1'; cases h1'
  · exact ⟨rfl, rfl⟩

theorem new_c6b {w : World} {b : Nat} {x0 x1 x2 x3 x4 x5 : Value} {t : TypeId} (h : w.heap[b]? = some (.cells #[x0, x1, x2, x3, x4, x5] t (0, 0))) : ∀ j u, [x0, x1, x2, x3, x4, x5][j]? = some u → w.cell? ((⟨b, 0, none⟩ : Addr).add j) = some u := by
  intro j u hj
  rw [addr_add, Nat.zero_add]
  unfold World.cell?
  rw [h]
  simpa using hj

theorem drop_num {k n q : Nat} {t r : List UInt8} (h : numF k 0 (t.drop q) = some (n, r)) : r = t.drop (q + k) ∧ (q ≤ t.length → q + k ≤ t.length) := by
  obtain ⟨h1, h2⟩ := numF_drop h
  rw [List.length_drop] at h2
  exact ⟨by rw [h1, List.drop_drop], fun hq => by omega⟩

theorem nat_any (w : World) (t : List UInt8) (q k : Nat) (p : Int) (hp : p = q) (hs : t.length ≤ 140737488351232) (hat : q ≤ 1000000000) (hk1 : 1 ≤ k) (hk4 : k ≤ 4) :
    Calls Try.prog 40 #[.string ⟨t.toArray⟩, .int .i64 p, .int .i64 k] w fun e w' => ∃ (n : Nat) (b : Bool), e = .returned (.tuple #[.int .i64 n, .bool b]) ∧ w' = w ∧ Hid ((b = true → ∃ r, numF k 0 (t.drop q) = some (n, r)) ∧ (b = false → numF k 0 (t.drop q) = none ∧ n = 0)) := by
  cases h : numF k 0 (t.drop q) with
  | none =>
    refine (nat_n w t q k p hp hs hat hk1 hk4 h).mono ?_
    rintro e w' ⟨rfl, rfl⟩
    exact ⟨0, false, rfl, rfl, (fun e => by cases e), fun _ => ⟨rfl, rfl⟩⟩
  | some x =>
    obtain ⟨n, r⟩ := x
    refine (nat_s w t q k p hp hs hat hk1 hk4 h).mono ?_
    rintro e w' ⟨rfl, rfl⟩
    exact ⟨n, true, rfl, rfl, (fun _ => ⟨r, rfl⟩), (fun e => by cases e)⟩

theorem bsz (l : List UInt8) : (⟨l.toArray⟩ : ByteArray).size = l.length := by simp [ByteArray.size]
theorem info_ev6 : (Try.prog.info? 66).map (fun i => (i.zero, i.size, i.bytes)) = some (some (.agg #[.int .i64 0, .int .i64 0, .int .i64 0, .int .i64 0, .int .i64 0, .string ⟨#[]⟩]), 6, 56) := by kernel_rfl

set_option maxRecDepth 20000 in
set_option maxHeartbeats 12800000 in
theorem batchOf_any (w : World) (s : List UInt8) (hs : s.length ≤ 140737488351232) :
    Calls Try.prog 12 #[.string ⟨s.toArray⟩] w fun r w' =>
      (∃ ba v n, decodeB s = .ok (ba, n) ∧ r = .returned (.tuple #[baV ba.number v, .int .i64 (n : Nat), .int .i64 0]) ∧ EvSl (w.heap.size ≤ ·) w' v ba.events ∧ Same w w')
      ∨ (∃ no, decodeB s = .error no ∧ no ≠ 0 ∧ r = .returned (.tuple #[baV 0 (.slice none 0 0), .int .i64 0, .int .i64 no]) ∧ Same w w') := by
  have hz := bsz s
  obtain ⟨i0, hi0, hz0, hz1, hz2⟩ := info_parts info_ev6
  have HN := hide (fun wx => nat_any wx s 0 2 0 rfl hs (by omega) (by omega) (by omega))
  obtain ⟨W0, hW0⟩ : ∃ W0, W0 = w.alloc (.cells #[.int .i64 0, .slice none 0 0] 24) := ⟨_, rfl⟩
  have HR0 := hide (show W0.heap[w.heap.size]? = some (.cells #[.int .i64 0, .slice none 0 0] 24 (0, 0)) by rw [hW0]; exact heap_alloc_new _ _)
  have HK0 := hide (show Same w W0 by rw [hW0]; exact (Kept.refl _ w).alloc _)
  go_enter Try.func12, Try.ntmps12
  have hW0s : W0.heap.size = w.heap.size + 1 := by rw [hW0]; simp
  go_wp2_with fail
  rw [← hW0]
  clear hW0
  refine (HN.out _).mono ?_
  rintro e w' ⟨many, b0, rfl, hw', HB0⟩
  rw [hw']
  clear hw' w'
  cases b0 with
  | false =>
    have HE := hide (show decodeB s = .error 5 by unfold decodeB; rw [show numF 2 0 s = none from (HB0.out.2 rfl).1])
    obtain ⟨p0, p1⟩ := blk2 HR0.out
    have p2 := fro2 HR0.out
    obtain ⟨q0, q1⟩ := blk2 (set2b HR0.out (.int .i64 0) (.slice none 0 0))
    go_wp2_with fail
    exact bodyPost_ret (v := .tuple #[baV 0 (.slice none 0 0), .int .i64 0, .int .i64 5]) (by simp [results, Try.results12, go_sem, q0, q1]) rfl (.inr ⟨5, HE.out, by decide, rfl, (HK0.out.setCell (fun h => absurd h (Nat.lt_irrefl _)) _).setCell (fun h => absurd h (Nat.lt_irrefl _)) _⟩)
  | true =>
    obtain ⟨r0, hr0⟩ := HB0.out.1 rfl
    rw [List.drop_zero] at hr0
    obtain ⟨hrd, hl2⟩ := numF_drop hr0
    have hmany := numF_lt hr0
    by_cases hlt : s.length - 2 < many
    · have HE := hide (show decodeB s = .error 5 by unfold decodeB; rw [hr0]; simp only; rw [if_pos (by rw [hrd, List.length_drop]; exact hlt)])
      obtain ⟨p0, p1⟩ := blk2 HR0.out
      have p2 := fro2 HR0.out
      obtain ⟨q0, q1⟩ := blk2 (set2b HR0.out (.int .i64 0) (.slice none 0 0))
      have hlt' : (s.length : Int) - 2 < many := by omega
      clear hr0 hrd HB0 hlt
      go_wp2_with fail
      exact bodyPost_ret (v := .tuple #[baV 0 (.slice none 0 0), .int .i64 0, .int .i64 5]) (by simp [results, Try.results12, go_sem, q0, q1]) rfl (.inr ⟨5, HE.out, by decide, rfl, (HK0.out.setCell (fun h => absurd h (Nat.lt_irrefl _)) _).setCell (fun h => absurd h (Nat.lt_irrefl _)) _⟩)
    · obtain ⟨t, ht⟩ : ∃ t, t = (s.drop 2).take many := ⟨_, rfl⟩
      have htl : t.length ≤ 65535 := by rw [ht, List.length_take]; omega
      have htm : t.length = many := by rw [ht, List.length_take, List.length_drop]; omega
      have HD := hide (show decodeB s = match readB t with | none => .error 1 | some b => if checkBa b ≠ 0 then .error (checkBa b) else .ok (b, many + 2) by
        unfold decodeB; rw [hr0]; simp only; rw [if_neg (by rw [hrd, List.length_drop]; exact hlt), ht, hrd]; cases readB ((s.drop 2).take many) <;> rfl)
      have HX := hide (show (⟨s.toArray⟩ : ByteArray).extract 2 (2 + many) = ⟨t.toArray⟩ by rw [bytes_extract, ht]; congr 3; omega)
      have hge : ¬ (s.length : Int) - 2 < many := by omega
      have hle2 : 2 + many ≤ s.length := by omega
      have hzt := bsz t
      have HTM := hide htm
      have HN2 := hide (fun wx => nat_any wx t 0 2 0 rfl (by omega) (by omega) (by omega) (by omega))
      have HN3 := hide (fun wx => nat_any wx t 2 1 2 rfl (by omega) (by omega) (by omega) (by omega))
      clear hr0 hrd HB0 hlt ht hmany hl2 htm
      go_wp2_with fail
      rw [HX.out]
      refine (HN2.out _).mono ?_
      rintro e w1 ⟨num, b1, rfl, hw1, HB1⟩
      rw [hw1]
      clear hw1 w1
      go_wp2_with fail
      refine (HN3.out _).mono ?_
      rintro e w2 ⟨n, b2, rfl, hw2, HB2⟩
      rw [hw2]
      clear hw2 w2
      obtain ⟨g, hg⟩ : ∃ g, g = w.heap.size + 1 := ⟨_, rfl⟩
      obtain ⟨W1, hW1⟩ : ∃ W1, W1 = W0.alloc (.cells #[.int .i64 num, .slice none 0 0] 24) := ⟨_, rfl⟩
      have HG1 := hide (show W1.heap[g]? = some (.cells #[.int .i64 num, .slice none 0 0] 24 (0, 0)) by rw [hW1, hg, ← hW0s]; exact heap_alloc_new _ _)
      have HR1 := hide (show W1.heap[w.heap.size]? = some (.cells #[.int .i64 0, .slice none 0 0] 24 (0, 0)) by rw [hW1]; exact blk_kept HR0.out ((Kept.refl (fun _ => False) _).alloc _) (fun f => f))
      have HK1 := hide (show Same w W1 by rw [hW1]; exact HK0.out.alloc _)
      have hgw : w.heap.size < g := by omega
      have hn255 : n ≤ 255 := by
        cases b2 with
        | true => obtain ⟨r, hr⟩ := HB2.out.1 rfl; have := numF_lt hr; omega
        | false => have := (HB2.out.2 rfl).2; omega
      have HIN := hide (show (b2 = true → 3 ≤ t.length ∧ readB t = match readEs n (t.drop 3) with | none => none | some (es, l) => if l = [] then some ⟨num, es⟩ else none) ∧ (b2 = false → readB t = none) by
        constructor
        · intro e
          obtain ⟨r, hr⟩ := HB2.out.1 e
          obtain ⟨e1, e2⟩ := drop_num hr
          have h2 := (numF_drop hr).2
          rw [List.length_drop] at h2
          have hb1 : b1 = true := by
            cases b1 with
            | true => rfl
            | false => have := numF_none.1 (HB1.out.2 rfl).1; simp at this; omega
          obtain ⟨r1, hr1⟩ := HB1.out.1 hb1
          rw [List.drop_zero] at hr1
          have hrd1 := (numF_drop hr1).1
          refine ⟨by omega, ?_⟩
          unfold readB
          rw [hr1]
          simp only
          rw [hrd1, hr]
          simp only
          rw [e1]
          cases readEs n (t.drop (2 + 1)) <;> rfl
        · intro e
          have hr := (HB2.out.2 e).1
          unfold readB
          cases h : numF 2 0 t with
          | none => rfl
          | some x =>
            obtain ⟨x, l⟩ := x
            simp only
            rw [(numF_drop h).1, hr])
      go_wp2_with fail
      rw [← hW1, ← hg]
      clear hW1 hg HB1 HB2 HR0 HK0 hW0s HN HN2 HN3
      go_loopg [6, 9, 10] n (fun gk okv atv iv wr => ∃ (i q : Nat) (okb : Bool) (acc : List EventT) (v : Value), okv = .bool okb ∧ atv = .int .i64 q ∧ iv = .int .i64 i ∧ i + gk = n ∧ (acc.length ≤ i ∧ i ≤ acc.length) ∧ q ≤ 70000 + 300 * i ∧ Hid (Same w wr)
        ∧ Hid (wr.heap[w.heap.size]? = some (.cells #[.int .i64 0, .slice none 0 0] 24 (0, 0))) ∧ Hid (wr.heap[g]? = some (.cells #[.int .i64 num, v] 24 (0, 0)))
        ∧ wr.ownsRow (g + 1) 66 6 v acc.length (evCells acc) ∧ Hid ((okb = true → b2 = true ∧ q ≤ t.length ∧ 3 ≤ t.length ∧ esRel n (t.drop 3) gk (t.drop q) acc) ∧ (okb = false → readB t = none)))
      case atStart =>
        refine ⟨0, 3, b2, [], .slice none 0 0, rfl, rfl, rfl, by omega, ⟨Nat.le_refl _, Nat.le_refl _⟩, by omega, HK1, HR1, HG1, World.ownsRow_nil _ _ _ _, ?_⟩
        exact ⟨fun e => ⟨e, (HIN.out.1 e).1, (HIN.out.1 e).1, esRel.start n _⟩, HIN.out.2⟩
      case round =>
        obtain ⟨i, q, okb, acc, v, rfl, rfl, rfl, hin, ⟨hacc, hacc2⟩, hq, HKr, HRr, HGr, hown, HOK⟩ := hrel
        clear HK1 HR1 HG1
        obtain ⟨ao, cap, hv⟩ := own_slice hown
        subst hv
        by_cases hgo : i < n ∧ okb = true
        · obtain ⟨hlt, rfl⟩ := hgo
          obtain ⟨hb2, hqt, h3t, hes⟩ := HOK.out.1 rfl
          obtain ⟨m, hm⟩ : ∃ m, gk = m + 1 := ⟨gk - 1, by omega⟩
          subst hm
          have HES := hide hes
          have HRB := hide (show b2 = true → readB t = match readEs n (t.drop 3) with | none => none | some (es, l) => if l = [] then some ⟨num, es⟩ else none from fun e => (HIN.out.1 e).2)
          have HB2T := hide hb2
          clear hb2
          clear hes HOK HIN
          cases h4 : numF 4 0 (t.drop q) with
          | none =>
            have HE := hide (show readB t = none by rw [HRB.out HB2T.out, HES.out.bad (readE_short h4)])
            have HN4 := hide (fun wx => nat_n wx t q 4 q rfl (by omega) (by omega) (by omega) (by omega) h4)
            clear h4 HRB HES
            go_wp2_with fail
            refine (HN4.out _).mono ?_
            rintro e w9 ⟨rfl, hw9⟩
            rw [hw9]
            clear hw9 w9
            have hgr : g < wr.heap.size := (Array.getElem?_eq_some_iff.1 HGr.out).1
            obtain ⟨c0, c1⟩ := blk2 HGr.out
            go_wp2_with (at_builtin; refine wpList_append_own_at _ rfl _ _ 22 rfl (g + 1) 66 i0 _ 6 56 Try.underlying22 hi0 hz0 hz1 hz2 rfl (by decide) _ _ _ rfl ((hown.alloc _).alloc _) ⟨wr.heap.size + 1, 0, none⟩ 1 1 [.int .i64 0, .int .i64 0, .int .i64 0, .int .i64 0, .int .i64 0, .string ⟨#[]⟩] rfl rfl (new_c6b (t := 66) (al_new _ _ _)) ?a2 ?a3 ?a4 ?a5 ?_)
            case a2 => intro u hu; simp at hu; rcases hu with rfl | rfl | rfl | rfl | rfl | rfl <;> rfl
            case a3 => unfold maxLen; omega
            case a4 => omega
            case a5 => simp; omega
            intro v5 w5 hown5 hgr5 _ hat5
            obtain ⟨g5, cap5, hv5⟩ := own_form hown5 (by omega)
            subst hv5
            have hKb : Kept (fun k => some k = (Value.slice ao acc.length cap).ownBlock) wr w5 := (((Kept.refl _ wr).alloc _).alloc _).trans (grown_kept hgr5) (fun _ _ e => e)
            have hXb : ∀ k, some k = (Value.slice ao acc.length cap).ownBlock → g < k := fun k e => by have := (own_up hown k e.symm).1; omega
            have hG5 := blk_kept HGr.out hKb (fun e => by have := hXb _ e; omega)
            have hR5 := blk_kept HRr.out hKb (fun e => by have := hXb _ e; omega)
            obtain ⟨k0, k1⟩ := blk2 hG5
            have l0 := fro2 hG5
            have hS : Kept (· = g) w5 (w5.setCell ⟨g, 1, none⟩ (.slice (some ⟨g5, 0, none⟩) (acc.length + 1) cap5)) := (Kept.refl _ w5).setB 1 _
            have HKF : Hid (Same w (w5.setCell ⟨g, 1, none⟩ (.slice (some ⟨g5, 0, none⟩) (acc.length + 1) cap5))) := (HKr.out.trans (hKb.mono (Y := fun k => g < k) (fun i _ e => hXb i e)) (fun k hk e => by have h1 : g < k := e; omega)).trans hS (fun k hk e => by have h1 : k = g := e; omega)
            have HRF := hide (blk_kept hR5 hS (show ¬ w.heap.size = g by omega))
            have HGF : Hid ((w5.setCell ⟨g, 1, none⟩ (.slice (some ⟨g5, 0, none⟩) (acc.length + 1) cap5)).heap[g]? = some (.cells #[.int .i64 num, .slice (some ⟨g5, 0, none⟩) (acc.length + 1) cap5] 24 (0, 0))) := by
              show _ = _
              simp [World.setCell, Array.getElem?_modify, hG5]
            have HOF := hide (own_kept hown5 hS (fun g' hg e => by omega))
            clear hown5 hgr5 hat5 hKb hXb hG5 hR5 hS c0 c1 hown
            go_wp2_with fail
            go_roundg m
            case measure => omega
            case rel =>
              refine ⟨i + 1, q + 4, false, acc ++ [⟨(0), (0), (0), (0), (0), []⟩], _, rfl, by go_num, by go_num, by omega, by simp; omega, by omega, HKF, HRF, HGF, ?_, ⟨(fun e => by cases e), fun _ => HE.out⟩⟩
              rw [evCells_snoc, List.length_append]; exact HOF.out
          | some hr =>
            obtain ⟨h, r⟩ := hr
            obtain ⟨hh32, hre⟩ := readE_head h4
            obtain ⟨hrd, hql⟩ := drop_num h4
            have hq4 := hql hqt
            subst hrd
            have HN4 := hide (fun wx => nat_s wx t q 4 q rfl (by omega) (by omega) (by omega) (by omega) h4)
            obtain ⟨kk, hkk⟩ : ∃ kk, kk = h / 16777216 := ⟨_, rfl⟩
            obtain ⟨ty, hty⟩ : ∃ ty, ty = h / 65536 % 256 := ⟨_, rfl⟩
            obtain ⟨idn, hid⟩ : ∃ idn, idn = h % 65536 := ⟨_, rfl⟩
            rw [← hkk, ← hty, ← hid] at hre
            have hq1 : (h : Int) / 16777216 = (kk : Int) := by omega
            have hq2 : (h : Int) / 65536 % 256 = (ty : Int) := by omega
            have hq3 : (h : Int) % 65536 = (idn : Int) := by omega
            have hq5 : ((h : Int) / 65536).tmod 256 = (ty : Int) := by rw [Int.tmod_eq_emod_of_nonneg (by omega)]; exact hq2
            have hq6 : (h : Int).tmod 65536 = (idn : Int) := by rw [Int.tmod_eq_emod_of_nonneg (by omega)]; exact hq3
            have hkb : kk ≤ 255 := by omega
            have htb : ty ≤ 255 := by omega
            have hib : idn ≤ 65535 := by omega
            clear h4 hql hkk hty hid
            have HBW := hide (fun wx => (show Calls Try.prog 36 #[.int .i64 (kk : Int), .int .i64 1, .int .i64 6] wx fun e w' => e = .returned (.bool (evKind (kk : Int))) ∧ w' = wx from btw_any (kk : Int) 1 6 wx))
            cases hk : evKind (kk : Int) with
            | false =>
              rw [hk, if_pos rfl] at hre
              rw [hk] at HBW
              have HE := hide (show readB t = none by rw [HRB.out HB2T.out, HES.out.bad (hre)])
              clear hk hre HRB HES
              go_wp2_with fail
              refine (HN4.out _).mono ?_
              rintro e w9 ⟨rfl, hw9⟩
              rw [hw9]
              clear hw9 w9
              go_wp2_with fail
              refine (HBW.out _).mono ?_
              rintro e w9 ⟨rfl, hw9⟩
              rw [hw9]
              clear hw9 w9
              have hgr : g < wr.heap.size := (Array.getElem?_eq_some_iff.1 HGr.out).1
              obtain ⟨c0, c1⟩ := blk2 HGr.out
              go_wp2_with (at_builtin; refine wpList_append_own_at _ rfl _ _ 22 rfl (g + 1) 66 i0 _ 6 56 Try.underlying22 hi0 hz0 hz1 hz2 rfl (by decide) _ _ _ rfl ((hown.alloc _).alloc _) ⟨wr.heap.size + 1, 0, none⟩ 1 1 [.int .i64 (kk : Int), .int .i64 (ty : Int), .int .i64 (idn : Int), .int .i64 0, .int .i64 0, .string ⟨#[]⟩] rfl rfl (new_c6b (t := 66) (al_new _ _ _)) ?a2 ?a3 ?a4 ?a5 ?_)
              case a2 => intro u hu; simp at hu; rcases hu with rfl | rfl | rfl | rfl | rfl | rfl <;> rfl
              case a3 => unfold maxLen; omega
              case a4 => omega
              case a5 => simp; omega
              intro v5 w5 hown5 hgr5 _ hat5
              obtain ⟨g5, cap5, hv5⟩ := own_form hown5 (by omega)
              subst hv5
              have hKb : Kept (fun k => some k = (Value.slice ao acc.length cap).ownBlock) wr w5 := (((Kept.refl _ wr).alloc _).alloc _).trans (grown_kept hgr5) (fun _ _ e => e)
              have hXb : ∀ k, some k = (Value.slice ao acc.length cap).ownBlock → g < k := fun k e => by have := (own_up hown k e.symm).1; omega
              have hG5 := blk_kept HGr.out hKb (fun e => by have := hXb _ e; omega)
              have hR5 := blk_kept HRr.out hKb (fun e => by have := hXb _ e; omega)
              obtain ⟨k0, k1⟩ := blk2 hG5
              have l0 := fro2 hG5
              have hS : Kept (· = g) w5 (w5.setCell ⟨g, 1, none⟩ (.slice (some ⟨g5, 0, none⟩) (acc.length + 1) cap5)) := (Kept.refl _ w5).setB 1 _
              have HKF : Hid (Same w (w5.setCell ⟨g, 1, none⟩ (.slice (some ⟨g5, 0, none⟩) (acc.length + 1) cap5))) := (HKr.out.trans (hKb.mono (Y := fun k => g < k) (fun i _ e => hXb i e)) (fun k hk e => by have h1 : g < k := e; omega)).trans hS (fun k hk e => by have h1 : k = g := e; omega)
              have HRF := hide (blk_kept hR5 hS (show ¬ w.heap.size = g by omega))
              have HGF : Hid ((w5.setCell ⟨g, 1, none⟩ (.slice (some ⟨g5, 0, none⟩) (acc.length + 1) cap5)).heap[g]? = some (.cells #[.int .i64 num, .slice (some ⟨g5, 0, none⟩) (acc.length + 1) cap5] 24 (0, 0))) := by
                show _ = _
                simp [World.setCell, Array.getElem?_modify, hG5]
              have HOF := hide (own_kept hown5 hS (fun g' hg e => by omega))
              clear hown5 hgr5 hat5 hKb hXb hG5 hR5 hS c0 c1 hown
              go_wp2_with fail
              go_roundg m
              case measure => omega
              case rel =>
                refine ⟨i + 1, q + 4, false, acc ++ [⟨((kk : Int)), ((ty : Int)), ((idn : Int)), (0), (0), []⟩], _, rfl, by go_num, by go_num, by omega, by simp; omega, by omega, HKF, HRF, HGF, ?_, ⟨(fun e => by cases e), fun _ => HE.out⟩⟩
                rw [evCells_snoc, List.length_append]; exact HOF.out
            | true =>
              rw [hk, if_neg (by simp)] at hre
              have hk16 := kind_ok hk
              rw [hk] at HBW
              by_cases hk2 : kk ≤ 2
              · have hre2 : readE (t.drop q) = some (⟨kk, ty, idn, 0, 0, []⟩, t.drop (q + 4)) := by
                  rw [hre]; unfold readTail
                  rw [if_pos (by unfold namesF namesN namesT; simp; omega)]
                have HST := hide (HES.out.step hre2)
                have hk2' : ¬ (2 : Int) < (kk : Int) := by omega
                clear hre hre2 hk HES HRB
                go_wp2_with fail
                refine (HN4.out _).mono ?_
                rintro e w9 ⟨rfl, hw9⟩
                rw [hw9]
                clear hw9 w9
                go_wp2_with fail
                refine (HBW.out _).mono ?_
                rintro e w9 ⟨rfl, hw9⟩
                rw [hw9]
                clear hw9 w9
                have hgr : g < wr.heap.size := (Array.getElem?_eq_some_iff.1 HGr.out).1
                obtain ⟨c0, c1⟩ := blk2 HGr.out
                go_wp2_with (at_builtin; refine wpList_append_own_at _ rfl _ _ 22 rfl (g + 1) 66 i0 _ 6 56 Try.underlying22 hi0 hz0 hz1 hz2 rfl (by decide) _ _ _ rfl ((hown.alloc _).alloc _) ⟨wr.heap.size + 1, 0, none⟩ 1 1 [.int .i64 (kk : Int), .int .i64 (ty : Int), .int .i64 (idn : Int), .int .i64 0, .int .i64 0, .string ⟨#[]⟩] rfl rfl (new_c6b (t := 66) (al_new _ _ _)) ?a2 ?a3 ?a4 ?a5 ?_)
                case a2 => intro u hu; simp at hu; rcases hu with rfl | rfl | rfl | rfl | rfl | rfl <;> rfl
                case a3 => unfold maxLen; omega
                case a4 => omega
                case a5 => simp; omega
                intro v5 w5 hown5 hgr5 _ hat5
                obtain ⟨g5, cap5, hv5⟩ := own_form hown5 (by omega)
                subst hv5
                have hKb : Kept (fun k => some k = (Value.slice ao acc.length cap).ownBlock) wr w5 := (((Kept.refl _ wr).alloc _).alloc _).trans (grown_kept hgr5) (fun _ _ e => e)
                have hXb : ∀ k, some k = (Value.slice ao acc.length cap).ownBlock → g < k := fun k e => by have := (own_up hown k e.symm).1; omega
                have hG5 := blk_kept HGr.out hKb (fun e => by have := hXb _ e; omega)
                have hR5 := blk_kept HRr.out hKb (fun e => by have := hXb _ e; omega)
                obtain ⟨k0, k1⟩ := blk2 hG5
                have l0 := fro2 hG5
                have hS : Kept (· = g) w5 (w5.setCell ⟨g, 1, none⟩ (.slice (some ⟨g5, 0, none⟩) (acc.length + 1) cap5)) := (Kept.refl _ w5).setB 1 _
                have HKF : Hid (Same w (w5.setCell ⟨g, 1, none⟩ (.slice (some ⟨g5, 0, none⟩) (acc.length + 1) cap5))) := (HKr.out.trans (hKb.mono (Y := fun k => g < k) (fun i _ e => hXb i e)) (fun k hk e => by have h1 : g < k := e; omega)).trans hS (fun k hk e => by have h1 : k = g := e; omega)
                have HRF := hide (blk_kept hR5 hS (show ¬ w.heap.size = g by omega))
                have HGF : Hid ((w5.setCell ⟨g, 1, none⟩ (.slice (some ⟨g5, 0, none⟩) (acc.length + 1) cap5)).heap[g]? = some (.cells #[.int .i64 num, .slice (some ⟨g5, 0, none⟩) (acc.length + 1) cap5] 24 (0, 0))) := by
                  show _ = _
                  simp [World.setCell, Array.getElem?_modify, hG5]
                have HOF := hide (own_kept hown5 hS (fun g' hg e => by omega))
                clear hown5 hgr5 hat5 hKb hXb hG5 hR5 hS c0 c1 hown
                go_wp2_with fail
                go_roundg m
                case measure => omega
                case rel =>
                  refine ⟨i + 1, q + 4, true, acc ++ [⟨((kk : Int)), ((ty : Int)), ((idn : Int)), (0), (0), []⟩], _, rfl, by go_num, by go_num, by omega, by simp; omega, by omega, HKF, HRF, HGF, ?_, ⟨fun _ => ⟨HB2T.out, by omega, h3t, HST.out⟩, fun e => by cases e⟩⟩
                  rw [evCells_snoc, List.length_append]; exact HOF.out
              · have hk2' : (2 : Int) < (kk : Int) := by omega
                have hnF : namesF (kk : Int) = true := by unfold namesF namesN namesT; simp; omega
                cases h5 : numF 1 0 (t.drop (q + 4)) with
                | none =>
                  have hre2 : readE (t.drop q) = none := by rw [hre]; unfold readTail; rw [if_neg (by simp [hnF]), h5]
                  have HE := hide (show readB t = none by rw [HRB.out HB2T.out, HES.out.bad (hre2)])
                  have HN5 := hide (fun wx => nat_n wx t (q + 4) 1 ((q : Int) + 4) (by omega) (by omega) (by omega) (by omega) (by omega) h5)
                  clear h5
                  by_cases hk4 : kk = 4
                  · have hk4' : ((kk : Int) == 4) = true := by simp; omega
                    clear hk4
                    clear hre hre2 hk HES HRB hnF
                    go_wp2_with fail
                    refine (HN4.out _).mono ?_
                    rintro e w9 ⟨rfl, hw9⟩
                    rw [hw9]
                    clear hw9 w9
                    go_wp2_with fail
                    refine (HBW.out _).mono ?_
                    rintro e w9 ⟨rfl, hw9⟩
                    rw [hw9]
                    clear hw9 w9
                    go_wp2_with fail
                    refine (HN5.out _).mono ?_
                    rintro e w9 ⟨rfl, hw9⟩
                    rw [hw9]
                    clear hw9 w9
                    have hgr : g < wr.heap.size := (Array.getElem?_eq_some_iff.1 HGr.out).1
                    obtain ⟨c0, c1⟩ := blk2 HGr.out
                    go_wp2_with (at_builtin; refine wpList_append_own_at _ rfl _ _ 22 rfl (g + 1) 66 i0 _ 6 56 Try.underlying22 hi0 hz0 hz1 hz2 rfl (by decide) _ _ _ rfl ((hown.alloc _).alloc _) ⟨wr.heap.size + 1, 0, none⟩ 1 1 [.int .i64 (kk : Int), .int .i64 (ty : Int), .int .i64 (idn : Int), .int .i64 0, .int .i64 0, .string ⟨#[]⟩] rfl rfl (new_c6b (t := 66) (al_new _ _ _)) ?a2 ?a3 ?a4 ?a5 ?_)
                    case a2 => intro u hu; simp at hu; rcases hu with rfl | rfl | rfl | rfl | rfl | rfl <;> rfl
                    case a3 => unfold maxLen; omega
                    case a4 => omega
                    case a5 => simp; omega
                    intro v5 w5 hown5 hgr5 _ hat5
                    obtain ⟨g5, cap5, hv5⟩ := own_form hown5 (by omega)
                    subst hv5
                    have hKb : Kept (fun k => some k = (Value.slice ao acc.length cap).ownBlock) wr w5 := (((Kept.refl _ wr).alloc _).alloc _).trans (grown_kept hgr5) (fun _ _ e => e)
                    have hXb : ∀ k, some k = (Value.slice ao acc.length cap).ownBlock → g < k := fun k e => by have := (own_up hown k e.symm).1; omega
                    have hG5 := blk_kept HGr.out hKb (fun e => by have := hXb _ e; omega)
                    have hR5 := blk_kept HRr.out hKb (fun e => by have := hXb _ e; omega)
                    obtain ⟨k0, k1⟩ := blk2 hG5
                    have l0 := fro2 hG5
                    have hS : Kept (· = g) w5 (w5.setCell ⟨g, 1, none⟩ (.slice (some ⟨g5, 0, none⟩) (acc.length + 1) cap5)) := (Kept.refl _ w5).setB 1 _
                    have HKF : Hid (Same w (w5.setCell ⟨g, 1, none⟩ (.slice (some ⟨g5, 0, none⟩) (acc.length + 1) cap5))) := (HKr.out.trans (hKb.mono (Y := fun k => g < k) (fun i _ e => hXb i e)) (fun k hk e => by have h1 : g < k := e; omega)).trans hS (fun k hk e => by have h1 : k = g := e; omega)
                    have HRF := hide (blk_kept hR5 hS (show ¬ w.heap.size = g by omega))
                    have HGF : Hid ((w5.setCell ⟨g, 1, none⟩ (.slice (some ⟨g5, 0, none⟩) (acc.length + 1) cap5)).heap[g]? = some (.cells #[.int .i64 num, .slice (some ⟨g5, 0, none⟩) (acc.length + 1) cap5] 24 (0, 0))) := by
                      show _ = _
                      simp [World.setCell, Array.getElem?_modify, hG5]
                    have HOF := hide (own_kept hown5 hS (fun g' hg e => by omega))
                    clear hown5 hgr5 hat5 hKb hXb hG5 hR5 hS c0 c1 hown
                    go_wp2_with fail
                    go_roundg m
                    case measure => omega
                    case rel =>
                      refine ⟨i + 1, q + 5, false, acc ++ [⟨((kk : Int)), ((ty : Int)), ((idn : Int)), (0), (0), []⟩], _, rfl, by go_num, by go_num, by omega, by simp; omega, by omega, HKF, HRF, HGF, ?_, ⟨(fun e => by cases e), fun _ => HE.out⟩⟩
                      rw [evCells_snoc, List.length_append]; exact HOF.out
                  · have hk4' : ((kk : Int) == 4) = false := by rw [beq_eq_false_iff_ne]; omega
                    clear hk4
                    clear hre hre2 hk HES HRB hnF
                    go_wp2_with fail
                    refine (HN4.out _).mono ?_
                    rintro e w9 ⟨rfl, hw9⟩
                    rw [hw9]
                    clear hw9 w9
                    go_wp2_with fail
                    refine (HBW.out _).mono ?_
                    rintro e w9 ⟨rfl, hw9⟩
                    rw [hw9]
                    clear hw9 w9
                    go_wp2_with fail
                    refine (HN5.out _).mono ?_
                    rintro e w9 ⟨rfl, hw9⟩
                    rw [hw9]
                    clear hw9 w9
                    have hgr : g < wr.heap.size := (Array.getElem?_eq_some_iff.1 HGr.out).1
                    obtain ⟨c0, c1⟩ := blk2 HGr.out
                    go_wp2_with (at_builtin; refine wpList_append_own_at _ rfl _ _ 22 rfl (g + 1) 66 i0 _ 6 56 Try.underlying22 hi0 hz0 hz1 hz2 rfl (by decide) _ _ _ rfl ((hown.alloc _).alloc _) ⟨wr.heap.size + 1, 0, none⟩ 1 1 [.int .i64 (kk : Int), .int .i64 (ty : Int), .int .i64 (idn : Int), .int .i64 0, .int .i64 0, .string ⟨#[]⟩] rfl rfl (new_c6b (t := 66) (al_new _ _ _)) ?a2 ?a3 ?a4 ?a5 ?_)
                    case a2 => intro u hu; simp at hu; rcases hu with rfl | rfl | rfl | rfl | rfl | rfl <;> rfl
                    case a3 => unfold maxLen; omega
                    case a4 => omega
                    case a5 => simp; omega
                    intro v5 w5 hown5 hgr5 _ hat5
                    obtain ⟨g5, cap5, hv5⟩ := own_form hown5 (by omega)
                    subst hv5
                    have hKb : Kept (fun k => some k = (Value.slice ao acc.length cap).ownBlock) wr w5 := (((Kept.refl _ wr).alloc _).alloc _).trans (grown_kept hgr5) (fun _ _ e => e)
                    have hXb : ∀ k, some k = (Value.slice ao acc.length cap).ownBlock → g < k := fun k e => by have := (own_up hown k e.symm).1; omega
                    have hG5 := blk_kept HGr.out hKb (fun e => by have := hXb _ e; omega)
                    have hR5 := blk_kept HRr.out hKb (fun e => by have := hXb _ e; omega)
                    obtain ⟨k0, k1⟩ := blk2 hG5
                    have l0 := fro2 hG5
                    have hS : Kept (· = g) w5 (w5.setCell ⟨g, 1, none⟩ (.slice (some ⟨g5, 0, none⟩) (acc.length + 1) cap5)) := (Kept.refl _ w5).setB 1 _
                    have HKF : Hid (Same w (w5.setCell ⟨g, 1, none⟩ (.slice (some ⟨g5, 0, none⟩) (acc.length + 1) cap5))) := (HKr.out.trans (hKb.mono (Y := fun k => g < k) (fun i _ e => hXb i e)) (fun k hk e => by have h1 : g < k := e; omega)).trans hS (fun k hk e => by have h1 : k = g := e; omega)
                    have HRF := hide (blk_kept hR5 hS (show ¬ w.heap.size = g by omega))
                    have HGF : Hid ((w5.setCell ⟨g, 1, none⟩ (.slice (some ⟨g5, 0, none⟩) (acc.length + 1) cap5)).heap[g]? = some (.cells #[.int .i64 num, .slice (some ⟨g5, 0, none⟩) (acc.length + 1) cap5] 24 (0, 0))) := by
                      show _ = _
                      simp [World.setCell, Array.getElem?_modify, hG5]
                    have HOF := hide (own_kept hown5 hS (fun g' hg e => by omega))
                    clear hown5 hgr5 hat5 hKb hXb hG5 hR5 hS c0 c1 hown
                    go_wp2_with fail
                    go_roundg m
                    case measure => omega
                    case rel =>
                      refine ⟨i + 1, q + 5, false, acc ++ [⟨((kk : Int)), ((ty : Int)), ((idn : Int)), (0), (0), []⟩], _, rfl, by go_num, by go_num, by omega, by simp; omega, by omega, HKF, HRF, HGF, ?_, ⟨(fun e => by cases e), fun _ => HE.out⟩⟩
                      rw [evCells_snoc, List.length_append]; exact HOF.out
                | some fr =>
                  obtain ⟨f, r5⟩ := fr
                  obtain ⟨hrd5, hql5⟩ := drop_num h5
                  have hq5l := hql5 hq4
                  have hfb := numF_lt h5
                  subst hrd5
                  have HN5 := hide (fun wx => nat_s wx t (q + 4) 1 ((q : Int) + 4) (by omega) (by omega) (by omega) (by omega) (by omega) h5)
                  by_cases hk4 : kk = 4
                  · have hk4' : ((kk : Int) == 4) = true := by simp; omega
                    have hnT : namesT (kk : Int) = true := by unfold namesT; simp; omega
                    cases h6 : numF 1 0 (t.drop (q + 5)) with
                    | none =>
                      have hre2 : readE (t.drop q) = none := by rw [hre]; unfold readTail; rw [if_neg (by simp [hnF]), h5]; simp only; rw [if_pos hnT, show q + 4 + 1 = q + 5 from rfl, h6]
                      have HE := hide (show readB t = none by rw [HRB.out HB2T.out, HES.out.bad (hre2)])
                      have HN6 := hide (fun wx => nat_n wx t (q + 5) 1 ((q : Int) + 5) (by omega) (by omega) (by omega) (by omega) (by omega) h6)
                      clear h5 h6 hk4 hnT
                      clear hre hre2 hk HES HRB hnF
                      go_wp2_with fail
                      refine (HN4.out _).mono ?_
                      rintro e w9 ⟨rfl, hw9⟩
                      rw [hw9]
                      clear hw9 w9
                      go_wp2_with fail
                      refine (HBW.out _).mono ?_
                      rintro e w9 ⟨rfl, hw9⟩
                      rw [hw9]
                      clear hw9 w9
                      go_wp2_with fail
                      refine (HN5.out _).mono ?_
                      rintro e w9 ⟨rfl, hw9⟩
                      rw [hw9]
                      clear hw9 w9
                      go_wp2_with fail
                      refine (HN6.out _).mono ?_
                      rintro e w9 ⟨rfl, hw9⟩
                      rw [hw9]
                      clear hw9 w9
                      have hgr : g < wr.heap.size := (Array.getElem?_eq_some_iff.1 HGr.out).1
                      obtain ⟨c0, c1⟩ := blk2 HGr.out
                      go_wp2_with (at_builtin; refine wpList_append_own_at _ rfl _ _ 22 rfl (g + 1) 66 i0 _ 6 56 Try.underlying22 hi0 hz0 hz1 hz2 rfl (by decide) _ _ _ rfl ((hown.alloc _).alloc _) ⟨wr.heap.size + 1, 0, none⟩ 1 1 [.int .i64 (kk : Int), .int .i64 (ty : Int), .int .i64 (idn : Int), .int .i64 (f : Int), .int .i64 0, .string ⟨#[]⟩] rfl rfl (new_c6b (t := 66) (al_new _ _ _)) ?a2 ?a3 ?a4 ?a5 ?_)
                      case a2 => intro u hu; simp at hu; rcases hu with rfl | rfl | rfl | rfl | rfl | rfl <;> rfl
                      case a3 => unfold maxLen; omega
                      case a4 => omega
                      case a5 => simp; omega
                      intro v5 w5 hown5 hgr5 _ hat5
                      obtain ⟨g5, cap5, hv5⟩ := own_form hown5 (by omega)
                      subst hv5
                      have hKb : Kept (fun k => some k = (Value.slice ao acc.length cap).ownBlock) wr w5 := (((Kept.refl _ wr).alloc _).alloc _).trans (grown_kept hgr5) (fun _ _ e => e)
                      have hXb : ∀ k, some k = (Value.slice ao acc.length cap).ownBlock → g < k := fun k e => by have := (own_up hown k e.symm).1; omega
                      have hG5 := blk_kept HGr.out hKb (fun e => by have := hXb _ e; omega)
                      have hR5 := blk_kept HRr.out hKb (fun e => by have := hXb _ e; omega)
                      obtain ⟨k0, k1⟩ := blk2 hG5
                      have l0 := fro2 hG5
                      have hS : Kept (· = g) w5 (w5.setCell ⟨g, 1, none⟩ (.slice (some ⟨g5, 0, none⟩) (acc.length + 1) cap5)) := (Kept.refl _ w5).setB 1 _
                      have HKF : Hid (Same w (w5.setCell ⟨g, 1, none⟩ (.slice (some ⟨g5, 0, none⟩) (acc.length + 1) cap5))) := (HKr.out.trans (hKb.mono (Y := fun k => g < k) (fun i _ e => hXb i e)) (fun k hk e => by have h1 : g < k := e; omega)).trans hS (fun k hk e => by have h1 : k = g := e; omega)
                      have HRF := hide (blk_kept hR5 hS (show ¬ w.heap.size = g by omega))
                      have HGF : Hid ((w5.setCell ⟨g, 1, none⟩ (.slice (some ⟨g5, 0, none⟩) (acc.length + 1) cap5)).heap[g]? = some (.cells #[.int .i64 num, .slice (some ⟨g5, 0, none⟩) (acc.length + 1) cap5] 24 (0, 0))) := by
                        show _ = _
                        simp [World.setCell, Array.getElem?_modify, hG5]
                      have HOF := hide (own_kept hown5 hS (fun g' hg e => by omega))
                      clear hown5 hgr5 hat5 hKb hXb hG5 hR5 hS c0 c1 hown
                      go_wp2_with fail
                      go_roundg m
                      case measure => omega
                      case rel =>
                        refine ⟨i + 1, q + 6, false, acc ++ [⟨((kk : Int)), ((ty : Int)), ((idn : Int)), ((f : Int)), (0), []⟩], _, rfl, by go_num, by go_num, by omega, by simp; omega, by omega, HKF, HRF, HGF, ?_, ⟨(fun e => by cases e), fun _ => HE.out⟩⟩
                        rw [evCells_snoc, List.length_append]; exact HOF.out
                    | some mr =>
                      obtain ⟨mm, r6⟩ := mr
                      obtain ⟨hrd6, hql6⟩ := drop_num h6
                      have hq6l := hql6 hq5l
                      have hmb := numF_lt h6
                      subst hrd6
                      have HN6 := hide (fun wx => nat_s wx t (q + 5) 1 ((q : Int) + 5) (by omega) (by omega) (by omega) (by omega) (by omega) h6)
                      by_cases hsm : t.length - (q + 6) < mm
                      · have hre2 : readE (t.drop q) = none := by rw [hre]; unfold readTail; rw [if_neg (by simp [hnF]), h5]; simp only; rw [if_pos hnT, show q + 4 + 1 = q + 5 from rfl, h6]; simp only; rw [if_pos (by rw [List.length_drop]; omega)]
                        have hsm' : decide ((mm : Int) ≤ (t.length : Int) - ((q : Int) + 4 + 1 + 1)) = false := by rw [decide_eq_false_iff_not]; omega
                        have HE := hide (show readB t = none by rw [HRB.out HB2T.out, HES.out.bad (hre2)])
                        clear h5 h6 hk4 hnT hsm
                        clear hre hre2 hk HES HRB hnF
                        go_wp2_with fail
                        refine (HN4.out _).mono ?_
                        rintro e w9 ⟨rfl, hw9⟩
                        rw [hw9]
                        clear hw9 w9
                        go_wp2_with fail
                        refine (HBW.out _).mono ?_
                        rintro e w9 ⟨rfl, hw9⟩
                        rw [hw9]
                        clear hw9 w9
                        go_wp2_with fail
                        refine (HN5.out _).mono ?_
                        rintro e w9 ⟨rfl, hw9⟩
                        rw [hw9]
                        clear hw9 w9
                        go_wp2_with fail
                        refine (HN6.out _).mono ?_
                        rintro e w9 ⟨rfl, hw9⟩
                        rw [hw9]
                        clear hw9 w9
                        have hgr : g < wr.heap.size := (Array.getElem?_eq_some_iff.1 HGr.out).1
                        obtain ⟨c0, c1⟩ := blk2 HGr.out
                        go_wp2_with (at_builtin; refine wpList_append_own_at _ rfl _ _ 22 rfl (g + 1) 66 i0 _ 6 56 Try.underlying22 hi0 hz0 hz1 hz2 rfl (by decide) _ _ _ rfl ((hown.alloc _).alloc _) ⟨wr.heap.size + 1, 0, none⟩ 1 1 [.int .i64 (kk : Int), .int .i64 (ty : Int), .int .i64 (idn : Int), .int .i64 (f : Int), .int .i64 0, .string ⟨#[]⟩] rfl rfl (new_c6b (t := 66) (al_new _ _ _)) ?a2 ?a3 ?a4 ?a5 ?_)
                        case a2 => intro u hu; simp at hu; rcases hu with rfl | rfl | rfl | rfl | rfl | rfl <;> rfl
                        case a3 => unfold maxLen; omega
                        case a4 => omega
                        case a5 => simp; omega
                        intro v5 w5 hown5 hgr5 _ hat5
                        obtain ⟨g5, cap5, hv5⟩ := own_form hown5 (by omega)
                        subst hv5
                        have hKb : Kept (fun k => some k = (Value.slice ao acc.length cap).ownBlock) wr w5 := (((Kept.refl _ wr).alloc _).alloc _).trans (grown_kept hgr5) (fun _ _ e => e)
                        have hXb : ∀ k, some k = (Value.slice ao acc.length cap).ownBlock → g < k := fun k e => by have := (own_up hown k e.symm).1; omega
                        have hG5 := blk_kept HGr.out hKb (fun e => by have := hXb _ e; omega)
                        have hR5 := blk_kept HRr.out hKb (fun e => by have := hXb _ e; omega)
                        obtain ⟨k0, k1⟩ := blk2 hG5
                        have l0 := fro2 hG5
                        have hS : Kept (· = g) w5 (w5.setCell ⟨g, 1, none⟩ (.slice (some ⟨g5, 0, none⟩) (acc.length + 1) cap5)) := (Kept.refl _ w5).setB 1 _
                        have HKF : Hid (Same w (w5.setCell ⟨g, 1, none⟩ (.slice (some ⟨g5, 0, none⟩) (acc.length + 1) cap5))) := (HKr.out.trans (hKb.mono (Y := fun k => g < k) (fun i _ e => hXb i e)) (fun k hk e => by have h1 : g < k := e; omega)).trans hS (fun k hk e => by have h1 : k = g := e; omega)
                        have HRF := hide (blk_kept hR5 hS (show ¬ w.heap.size = g by omega))
                        have HGF : Hid ((w5.setCell ⟨g, 1, none⟩ (.slice (some ⟨g5, 0, none⟩) (acc.length + 1) cap5)).heap[g]? = some (.cells #[.int .i64 num, .slice (some ⟨g5, 0, none⟩) (acc.length + 1) cap5] 24 (0, 0))) := by
                          show _ = _
                          simp [World.setCell, Array.getElem?_modify, hG5]
                        have HOF := hide (own_kept hown5 hS (fun g' hg e => by omega))
                        clear hown5 hgr5 hat5 hKb hXb hG5 hR5 hS c0 c1 hown
                        go_wp2_with fail
                        go_roundg m
                        case measure => omega
                        case rel =>
                          refine ⟨i + 1, q + 6 + mm, false, acc ++ [⟨((kk : Int)), ((ty : Int)), ((idn : Int)), ((f : Int)), (0), []⟩], _, rfl, by go_num, by go_num, by omega, by simp; omega, by omega, HKF, HRF, HGF, ?_, ⟨(fun e => by cases e), fun _ => HE.out⟩⟩
                          rw [evCells_snoc, List.length_append]; exact HOF.out
                      · have hre2 : readE (t.drop q) = some (⟨kk, ty, idn, f, 0, (t.drop (q + 6)).take mm⟩, t.drop (q + 6 + mm)) := by
                          rw [hre]; unfold readTail; rw [if_neg (by simp [hnF]), h5]; simp only; rw [if_pos hnT, show q + 4 + 1 = q + 5 from rfl, h6]; simp only; rw [if_neg (by rw [List.length_drop]; omega), List.drop_drop]
                        have hsm' : decide ((mm : Int) ≤ (t.length : Int) - ((q : Int) + 4 + 1 + 1)) = true := by rw [decide_eq_true_iff]; omega
                        have hft : q + 6 + mm ≤ t.length := by omega
                        have hft2 : (q : Int) + 4 + 1 + 1 + mm ≤ t.length := by omega
                        have HXT := hide (show (⟨t.toArray⟩ : ByteArray).extract (q + 4 + 1 + 1) (q + 4 + 1 + 1 + mm) = ⟨((t.drop (q + 6)).take mm).toArray⟩ by rw [bytes_extract]; congr 3; omega)
                        have HST := hide (HES.out.step hre2)
                        clear h5 h6 hk4 hnT hsm
                        clear hre hre2 hk HES HRB hnF
                        go_wp2_with fail
                        refine (HN4.out _).mono ?_
                        rintro e w9 ⟨rfl, hw9⟩
                        rw [hw9]
                        clear hw9 w9
                        go_wp2_with fail
                        refine (HBW.out _).mono ?_
                        rintro e w9 ⟨rfl, hw9⟩
                        rw [hw9]
                        clear hw9 w9
                        go_wp2_with fail
                        refine (HN5.out _).mono ?_
                        rintro e w9 ⟨rfl, hw9⟩
                        rw [hw9]
                        clear hw9 w9
                        go_wp2_with fail
                        refine (HN6.out _).mono ?_
                        rintro e w9 ⟨rfl, hw9⟩
                        rw [hw9]
                        clear hw9 w9
                        go_upto_region 27 with fail
                        rw [HXT.out]
                        have hgr : g < wr.heap.size := (Array.getElem?_eq_some_iff.1 HGr.out).1
                        obtain ⟨c0, c1⟩ := blk2 HGr.out
                        go_wp2_with (at_builtin; refine wpList_append_own_at _ rfl _ _ 22 rfl (g + 1) 66 i0 _ 6 56 Try.underlying22 hi0 hz0 hz1 hz2 rfl (by decide) _ _ _ rfl ((hown.alloc _).alloc _) ⟨wr.heap.size + 1, 0, none⟩ 1 1 [.int .i64 (kk : Int), .int .i64 (ty : Int), .int .i64 (idn : Int), .int .i64 (f : Int), .int .i64 0, .string ⟨((t.drop (q + 6)).take mm).toArray⟩] rfl rfl (new_c6b (t := 66) (al_new _ _ _)) ?a2 ?a3 ?a4 ?a5 ?_)
                        case a2 => intro u hu; simp at hu; rcases hu with rfl | rfl | rfl | rfl | rfl | rfl <;> rfl
                        case a3 => unfold maxLen; omega
                        case a4 => omega
                        case a5 => simp; omega
                        intro v5 w5 hown5 hgr5 _ hat5
                        obtain ⟨g5, cap5, hv5⟩ := own_form hown5 (by omega)
                        subst hv5
                        have hKb : Kept (fun k => some k = (Value.slice ao acc.length cap).ownBlock) wr w5 := (((Kept.refl _ wr).alloc _).alloc _).trans (grown_kept hgr5) (fun _ _ e => e)
                        have hXb : ∀ k, some k = (Value.slice ao acc.length cap).ownBlock → g < k := fun k e => by have := (own_up hown k e.symm).1; omega
                        have hG5 := blk_kept HGr.out hKb (fun e => by have := hXb _ e; omega)
                        have hR5 := blk_kept HRr.out hKb (fun e => by have := hXb _ e; omega)
                        obtain ⟨k0, k1⟩ := blk2 hG5
                        have l0 := fro2 hG5
                        have hS : Kept (· = g) w5 (w5.setCell ⟨g, 1, none⟩ (.slice (some ⟨g5, 0, none⟩) (acc.length + 1) cap5)) := (Kept.refl _ w5).setB 1 _
                        have HKF : Hid (Same w (w5.setCell ⟨g, 1, none⟩ (.slice (some ⟨g5, 0, none⟩) (acc.length + 1) cap5))) := (HKr.out.trans (hKb.mono (Y := fun k => g < k) (fun i _ e => hXb i e)) (fun k hk e => by have h1 : g < k := e; omega)).trans hS (fun k hk e => by have h1 : k = g := e; omega)
                        have HRF := hide (blk_kept hR5 hS (show ¬ w.heap.size = g by omega))
                        have HGF : Hid ((w5.setCell ⟨g, 1, none⟩ (.slice (some ⟨g5, 0, none⟩) (acc.length + 1) cap5)).heap[g]? = some (.cells #[.int .i64 num, .slice (some ⟨g5, 0, none⟩) (acc.length + 1) cap5] 24 (0, 0))) := by
                          show _ = _
                          simp [World.setCell, Array.getElem?_modify, hG5]
                        have HOF := hide (own_kept hown5 hS (fun g' hg e => by omega))
                        clear hown5 hgr5 hat5 hKb hXb hG5 hR5 hS c0 c1 hown
                        go_wp2_with fail
                        go_roundg m
                        case measure => omega
                        case rel =>
                          refine ⟨i + 1, q + 6 + mm, true, acc ++ [⟨((kk : Int)), ((ty : Int)), ((idn : Int)), ((f : Int)), (0), ((t.drop (q + 6)).take mm)⟩], _, rfl, by go_num, by go_num, by omega, by simp; omega, by omega, HKF, HRF, HGF, ?_, ⟨fun _ => ⟨HB2T.out, by omega, h3t, HST.out⟩, fun e => by cases e⟩⟩
                          rw [evCells_snoc, List.length_append]; exact HOF.out
                  · have hk4' : ((kk : Int) == 4) = false := by rw [beq_eq_false_iff_ne]; omega
                    have hnT : ¬ namesT (kk : Int) = true := by unfold namesT; simp; omega
                    cases h6 : numF 4 0 (t.drop (q + 5)) with
                    | none =>
                      have hre2 : readE (t.drop q) = none := by rw [hre]; unfold readTail; rw [if_neg (by simp [hnF]), h5]; simp only; rw [if_neg hnT, show q + 4 + 1 = q + 5 from rfl, h6]
                      have HE := hide (show readB t = none by rw [HRB.out HB2T.out, HES.out.bad (hre2)])
                      have HN6 := hide (fun wx => nat_n wx t (q + 5) 4 ((q : Int) + 5) (by omega) (by omega) (by omega) (by omega) (by omega) h6)
                      clear h5 h6 hk4 hnT
                      clear hre hre2 hk HES HRB hnF
                      go_wp2_with fail
                      refine (HN4.out _).mono ?_
                      rintro e w9 ⟨rfl, hw9⟩
                      rw [hw9]
                      clear hw9 w9
                      go_wp2_with fail
                      refine (HBW.out _).mono ?_
                      rintro e w9 ⟨rfl, hw9⟩
                      rw [hw9]
                      clear hw9 w9
                      go_wp2_with fail
                      refine (HN5.out _).mono ?_
                      rintro e w9 ⟨rfl, hw9⟩
                      rw [hw9]
                      clear hw9 w9
                      go_wp2_with fail
                      refine (HN6.out _).mono ?_
                      rintro e w9 ⟨rfl, hw9⟩
                      rw [hw9]
                      clear hw9 w9
                      have hgr : g < wr.heap.size := (Array.getElem?_eq_some_iff.1 HGr.out).1
                      obtain ⟨c0, c1⟩ := blk2 HGr.out
                      go_wp2_with (at_builtin; refine wpList_append_own_at _ rfl _ _ 22 rfl (g + 1) 66 i0 _ 6 56 Try.underlying22 hi0 hz0 hz1 hz2 rfl (by decide) _ _ _ rfl ((hown.alloc _).alloc _) ⟨wr.heap.size + 1, 0, none⟩ 1 1 [.int .i64 (kk : Int), .int .i64 (ty : Int), .int .i64 (idn : Int), .int .i64 (f : Int), .int .i64 (-999999999), .string ⟨#[]⟩] rfl rfl (new_c6b (t := 66) (al_new _ _ _)) ?a2 ?a3 ?a4 ?a5 ?_)
                      case a2 => intro u hu; simp at hu; rcases hu with rfl | rfl | rfl | rfl | rfl | rfl <;> rfl
                      case a3 => unfold maxLen; omega
                      case a4 => omega
                      case a5 => simp; omega
                      intro v5 w5 hown5 hgr5 _ hat5
                      obtain ⟨g5, cap5, hv5⟩ := own_form hown5 (by omega)
                      subst hv5
                      have hKb : Kept (fun k => some k = (Value.slice ao acc.length cap).ownBlock) wr w5 := (((Kept.refl _ wr).alloc _).alloc _).trans (grown_kept hgr5) (fun _ _ e => e)
                      have hXb : ∀ k, some k = (Value.slice ao acc.length cap).ownBlock → g < k := fun k e => by have := (own_up hown k e.symm).1; omega
                      have hG5 := blk_kept HGr.out hKb (fun e => by have := hXb _ e; omega)
                      have hR5 := blk_kept HRr.out hKb (fun e => by have := hXb _ e; omega)
                      obtain ⟨k0, k1⟩ := blk2 hG5
                      have l0 := fro2 hG5
                      have hS : Kept (· = g) w5 (w5.setCell ⟨g, 1, none⟩ (.slice (some ⟨g5, 0, none⟩) (acc.length + 1) cap5)) := (Kept.refl _ w5).setB 1 _
                      have HKF : Hid (Same w (w5.setCell ⟨g, 1, none⟩ (.slice (some ⟨g5, 0, none⟩) (acc.length + 1) cap5))) := (HKr.out.trans (hKb.mono (Y := fun k => g < k) (fun i _ e => hXb i e)) (fun k hk e => by have h1 : g < k := e; omega)).trans hS (fun k hk e => by have h1 : k = g := e; omega)
                      have HRF := hide (blk_kept hR5 hS (show ¬ w.heap.size = g by omega))
                      have HGF : Hid ((w5.setCell ⟨g, 1, none⟩ (.slice (some ⟨g5, 0, none⟩) (acc.length + 1) cap5)).heap[g]? = some (.cells #[.int .i64 num, .slice (some ⟨g5, 0, none⟩) (acc.length + 1) cap5] 24 (0, 0))) := by
                        show _ = _
                        simp [World.setCell, Array.getElem?_modify, hG5]
                      have HOF := hide (own_kept hown5 hS (fun g' hg e => by omega))
                      clear hown5 hgr5 hat5 hKb hXb hG5 hR5 hS c0 c1 hown
                      go_wp2_with fail
                      go_roundg m
                      case measure => omega
                      case rel =>
                        refine ⟨i + 1, q + 9, false, acc ++ [⟨((kk : Int)), ((ty : Int)), ((idn : Int)), ((f : Int)), ((-999999999)), []⟩], _, rfl, by go_num, by go_num, by omega, by simp; omega, by omega, HKF, HRF, HGF, ?_, ⟨(fun e => by cases e), fun _ => HE.out⟩⟩
                        rw [evCells_snoc, List.length_append]; exact HOF.out
                    | some mr =>
                      obtain ⟨nn, r6⟩ := mr
                      obtain ⟨hrd6, hql6⟩ := drop_num h6
                      have hq6l := hql6 hq5l
                      have hnb := numF_lt h6
                      subst hrd6
                      have HN6 := hide (fun wx => nat_s wx t (q + 5) 4 ((q : Int) + 5) (by omega) (by omega) (by omega) (by omega) (by omega) h6)
                      have hre2 : readE (t.drop q) = some (⟨kk, ty, idn, f, (nn : Int) - 999999999, []⟩, t.drop (q + 9)) := by
                        rw [hre]; unfold readTail; rw [if_neg (by simp [hnF]), h5]; simp only; rw [if_neg hnT, show q + 4 + 1 = q + 5 from rfl, h6]
                      have HST := hide (HES.out.step hre2)
                      clear h5 h6 hk4 hnT
                      clear hre hre2 hk HES HRB hnF
                      go_wp2_with fail
                      refine (HN4.out _).mono ?_
                      rintro e w9 ⟨rfl, hw9⟩
                      rw [hw9]
                      clear hw9 w9
                      go_wp2_with fail
                      refine (HBW.out _).mono ?_
                      rintro e w9 ⟨rfl, hw9⟩
                      rw [hw9]
                      clear hw9 w9
                      go_wp2_with fail
                      refine (HN5.out _).mono ?_
                      rintro e w9 ⟨rfl, hw9⟩
                      rw [hw9]
                      clear hw9 w9
                      go_wp2_with fail
                      refine (HN6.out _).mono ?_
                      rintro e w9 ⟨rfl, hw9⟩
                      rw [hw9]
                      clear hw9 w9
                      have hgr : g < wr.heap.size := (Array.getElem?_eq_some_iff.1 HGr.out).1
                      obtain ⟨c0, c1⟩ := blk2 HGr.out
                      go_wp2_with (at_builtin; refine wpList_append_own_at _ rfl _ _ 22 rfl (g + 1) 66 i0 _ 6 56 Try.underlying22 hi0 hz0 hz1 hz2 rfl (by decide) _ _ _ rfl ((hown.alloc _).alloc _) ⟨wr.heap.size + 1, 0, none⟩ 1 1 [.int .i64 (kk : Int), .int .i64 (ty : Int), .int .i64 (idn : Int), .int .i64 (f : Int), .int .i64 ((nn : Int) - 999999999), .string ⟨#[]⟩] rfl rfl (new_c6b (t := 66) (al_new _ _ _)) ?a2 ?a3 ?a4 ?a5 ?_)
                      case a2 => intro u hu; simp at hu; rcases hu with rfl | rfl | rfl | rfl | rfl | rfl <;> rfl
                      case a3 => unfold maxLen; omega
                      case a4 => omega
                      case a5 => simp; omega
                      intro v5 w5 hown5 hgr5 _ hat5
                      obtain ⟨g5, cap5, hv5⟩ := own_form hown5 (by omega)
                      subst hv5
                      have hKb : Kept (fun k => some k = (Value.slice ao acc.length cap).ownBlock) wr w5 := (((Kept.refl _ wr).alloc _).alloc _).trans (grown_kept hgr5) (fun _ _ e => e)
                      have hXb : ∀ k, some k = (Value.slice ao acc.length cap).ownBlock → g < k := fun k e => by have := (own_up hown k e.symm).1; omega
                      have hG5 := blk_kept HGr.out hKb (fun e => by have := hXb _ e; omega)
                      have hR5 := blk_kept HRr.out hKb (fun e => by have := hXb _ e; omega)
                      obtain ⟨k0, k1⟩ := blk2 hG5
                      have l0 := fro2 hG5
                      have hS : Kept (· = g) w5 (w5.setCell ⟨g, 1, none⟩ (.slice (some ⟨g5, 0, none⟩) (acc.length + 1) cap5)) := (Kept.refl _ w5).setB 1 _
                      have HKF : Hid (Same w (w5.setCell ⟨g, 1, none⟩ (.slice (some ⟨g5, 0, none⟩) (acc.length + 1) cap5))) := (HKr.out.trans (hKb.mono (Y := fun k => g < k) (fun i _ e => hXb i e)) (fun k hk e => by have h1 : g < k := e; omega)).trans hS (fun k hk e => by have h1 : k = g := e; omega)
                      have HRF := hide (blk_kept hR5 hS (show ¬ w.heap.size = g by omega))
                      have HGF : Hid ((w5.setCell ⟨g, 1, none⟩ (.slice (some ⟨g5, 0, none⟩) (acc.length + 1) cap5)).heap[g]? = some (.cells #[.int .i64 num, .slice (some ⟨g5, 0, none⟩) (acc.length + 1) cap5] 24 (0, 0))) := by
                        show _ = _
                        simp [World.setCell, Array.getElem?_modify, hG5]
                      have HOF := hide (own_kept hown5 hS (fun g' hg e => by omega))
                      clear hown5 hgr5 hat5 hKb hXb hG5 hR5 hS c0 c1 hown
                      go_wp2_with fail
                      go_roundg m
                      case measure => omega
                      case rel =>
                        refine ⟨i + 1, q + 9, true, acc ++ [⟨((kk : Int)), ((ty : Int)), ((idn : Int)), ((f : Int)), (((nn : Int) - 999999999)), []⟩], _, rfl, by go_num, by go_num, by omega, by simp; omega, by omega, HKF, HRF, HGF, ?_, ⟨fun _ => ⟨HB2T.out, by omega, h3t, HST.out⟩, fun e => by cases e⟩⟩
                        rw [evCells_snoc, List.length_append]; exact HOF.out
        · by_cases hok : okb = true
          · subst hok
            obtain ⟨hb2, hqt, h3t, hes⟩ := HOK.out.1 rfl
            have hng : ¬ i < n := fun h => hgo ⟨h, rfl⟩
            have hgk : gk = 0 := by omega
            subst hgk
            have hin' : i = n := by omega
            have HRB := hide ((HIN.out.1 hb2).2)
            have HDN := hide hes.done
            have hnlt : ¬ (i : Int) < (n : Int) := by omega
            clear hgo hes HOK HIN hb2 hin'
            by_cases hend : q = t.length
            · have HE := hide (show readB t = some ⟨num, acc⟩ by rw [HRB.out, HDN.out]; simp only; rw [if_pos (List.drop_eq_nil_of_le (by omega))])
              have hqe : ((q : Int) != (t.length : Int)) = false := by simp; omega
              have HSl := hide (own_evs hown (by unfold maxLen; omega))
              have HCK := hide (rCheckBatch_any _ ⟨num, acc⟩ _ wr HSl.out)
              obtain ⟨c0, c1⟩ := blk2 HGr.out
              obtain ⟨p0, p1⟩ := blk2 HRr.out
              clear hend hown HRB HDN
              go_wp2_with fail
              refine HCK.out.mono ?_
              clear HCK
              rintro r w4 ⟨rfl, hK4⟩
              have hG4 := blk_kept HGr.out hK4 (fun f => f)
              have hR4 := blk_kept HRr.out hK4 (fun f => f)
              have hK5 : Same w w4 := HKr.out.trans hK4 (fun _ _ f => f)
              have HSl4 := hide (HSl.out.same hK4)
              clear c0 c1 p0 p1
              obtain ⟨c0, c1⟩ := blk2 hG4
              obtain ⟨p0, p1⟩ := blk2 hR4
              have p2 := fro2 hR4
              by_cases hc : checkBa ⟨num, acc⟩ = 0
              · have HE2 := hide (show decodeB s = .ok (⟨num, acc⟩, many + 2) by rw [HD.out, HE.out]; simp only; rw [if_neg (by simp [hc])])
                have hc' : (checkBa ⟨num, acc⟩ != 0) = false := by simp [hc]
                obtain ⟨q0, q1⟩ := blk2 (set2b hR4 (.int .i64 num) (.slice ao acc.length cap))
                have hKs : Kept (· = w.heap.size) w4 ((w4.setCell ⟨w.heap.size, 0, none⟩ (.int .i64 num)).setCell ⟨w.heap.size, 1, none⟩ (.slice ao acc.length cap)) := ((Kept.refl _ w4).setB 0 _).setB 1 _
                have HEV := hide ((HSl4.out.keep hKs (fun k hk e => by have h1 : g + 1 ≤ k := hk; omega)).mono (Q := (w.heap.size ≤ ·)) (fun k _ hk => by have h1 : g + 1 ≤ k := hk; show w.heap.size ≤ k; omega))
                have HKF := hide (show Same w _ from hK5.trans hKs (fun k hk e => by omega))
                have hcz : checkBa ⟨num, acc⟩ = 0 := hc
                clear hK4 hK5 hKs HSl HSl4 hc
                rw [hcz]
                go_wp2_with fail
                exact bodyPost_ret (v := .tuple #[baV num (.slice ao acc.length cap), .int .i64 ((many + 2 : Nat) : Int), .int .i64 0]) (by simp [results, Try.results12, go_sem, q0, q1]) rfl (.inl ⟨⟨num, acc⟩, _, many + 2, HE2.out, rfl, HEV.out, HKF.out⟩)
              · have HE2 := hide (show decodeB s = .error (checkBa ⟨num, acc⟩) by rw [HD.out, HE.out]; simp only; rw [if_pos hc])
                have hc' : (checkBa ⟨num, acc⟩ != 0) = true := by simp [hc]
                obtain ⟨q0, q1⟩ := blk2 (set2b hR4 (.int .i64 0) (.slice none 0 0))
                have hKs : Kept (· = w.heap.size) w4 ((w4.setCell ⟨w.heap.size, 0, none⟩ (.int .i64 0)).setCell ⟨w.heap.size, 1, none⟩ (.slice none 0 0)) := ((Kept.refl _ w4).setB 0 _).setB 1 _
                have HKF := hide (show Same w _ from hK5.trans hKs (fun k hk e => by omega))
                have HC := hide hc
                clear hK4 hK5 hKs HSl HSl4 hc
                generalize checkBa ⟨num, acc⟩ = no at *
                go_wp2_with fail
                exact bodyPost_ret (v := .tuple #[baV 0 (.slice none 0 0), .int .i64 0, .int .i64 no]) (by simp [results, Try.results12, go_sem, q0, q1]) rfl (.inr ⟨no, HE2.out, HC.out, rfl, HKF.out⟩)
            · have HE := hide (show readB t = none by
                rw [HRB.out, HDN.out]; simp only
                rw [if_neg]
                intro e
                have := congrArg List.length e
                rw [List.length_drop] at this
                simp at this
                omega)
              have HE2 := hide (show decodeB s = .error 1 by rw [HD.out, HE.out])
              have hqe : ((q : Int) != (t.length : Int)) = true := by simp; omega
              obtain ⟨p0, p1⟩ := blk2 HRr.out
              have p2 := fro2 HRr.out
              obtain ⟨q0, q1⟩ := blk2 (set2b HRr.out (.int .i64 0) (.slice none 0 0))
              have hKs : Kept (· = w.heap.size) wr ((wr.setCell ⟨w.heap.size, 0, none⟩ (.int .i64 0)).setCell ⟨w.heap.size, 1, none⟩ (.slice none 0 0)) := ((Kept.refl _ wr).setB 0 _).setB 1 _
              have HKF := hide (show Same w _ from HKr.out.trans hKs (fun k hk e => by omega))
              clear hend hown HRB HDN hKs
              go_wp2_with fail
              exact bodyPost_ret (v := .tuple #[baV 0 (.slice none 0 0), .int .i64 0, .int .i64 1]) (by simp [results, Try.results12, go_sem, q0, q1]) rfl (.inr ⟨1, HE2.out, by decide, rfl, HKF.out⟩)
          · have hokf : okb = false := by
              cases okb with
              | true => exact absurd rfl hok
              | false => rfl
            subst hokf
            have HE2 := hide (show decodeB s = .error 1 by rw [HD.out, HOK.out.2 rfl])
            obtain ⟨p0, p1⟩ := blk2 HRr.out
            have p2 := fro2 HRr.out
            obtain ⟨q0, q1⟩ := blk2 (set2b HRr.out (.int .i64 0) (.slice none 0 0))
            have hKs : Kept (· = w.heap.size) wr ((wr.setCell ⟨w.heap.size, 0, none⟩ (.int .i64 0)).setCell ⟨w.heap.size, 1, none⟩ (.slice none 0 0)) := ((Kept.refl _ wr).setB 0 _).setB 1 _
            have HKF := hide (show Same w _ from HKr.out.trans hKs (fun k hk e => by omega))
            clear hgo hok hown HOK HIN hKs
            by_cases hlt : (i : Int) < (n : Int)
            · go_wp2_with fail
              exact bodyPost_ret (v := .tuple #[baV 0 (.slice none 0 0), .int .i64 0, .int .i64 1]) (by simp [results, Try.results12, go_sem, q0, q1]) rfl (.inr ⟨1, HE2.out, by decide, rfl, HKF.out⟩)
            · go_wp2_with fail
              exact bodyPost_ret (v := .tuple #[baV 0 (.slice none 0 0), .int .i64 0, .int .i64 1]) (by simp [results, Try.results12, go_sem, q0, q1]) rfl (.inr ⟨1, HE2.out, by decide, rfl, HKF.out⟩)

end Go.Proofs.Ytillhpepfpldcaa
