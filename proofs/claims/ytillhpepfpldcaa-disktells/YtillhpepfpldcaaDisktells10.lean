import Derived.Test.YtillhpepfpldcaaDisktells04
import Derived.Test.YtillhpepfpldcaaDisktells07
import Derived.Test.YtillhpepfpldcaaDisktells09
/- parse.Caught of a function literal that captures three variables. -/
namespace Go.Proofs.Ytillhpepfpldcaa
open Go.RowKit

/-- Caught, of a function literal: what it gave up with, or 0. -/
theorem caught_closure3 (f : FuncId) (x y z : Value) (w : World) (X : Nat → Prop) (hX : ∀ i, X i → i < w.heap.size) (R : World → Prop) (S : Int → World → Prop)
    (hcf : ∀ (args : Array Value) (w : World), (callFunc f args).run Try.prog w = .ok (.enter f args) w)
    (hW : Hid (Calls Try.prog f #[x, y, z] (w.alloc (.cells #[.int .i64 0] 25)) fun e w' =>
      (e = .returned (.tuple #[]) ∧ R w' ∧ Kept X (w.alloc (.cells #[.int .i64 0] 25)) w') ∨ (∃ n, e = fault n ∧ S n w' ∧ Kept X (w.alloc (.cells #[.int .i64 0] 25)) w'))) :
    Calls Try.prog 33 #[.func (.func f) #[] #[x, y, z]] w fun e w' =>
      (∃ w1, e = .returned (.int .i64 0) ∧ R w1 ∧ Kept X (w.alloc (.cells #[.int .i64 0] 25)) w1 ∧ w' = w1.setCell ⟨w.heap.size, 0, none⟩ (.int .i64 0))
      ∨ (∃ n w1, e = .returned (.int .i64 n) ∧ S n w1 ∧ Kept X (w.alloc (.cells #[.int .i64 0] 25)) w1 ∧ w' = w1.setCell ⟨w.heap.size, 0, none⟩ (.int .i64 n)) := by
  have hmf : ∀ (fn : Fn) (first cap : Array Value) (w : World), (Instr.makeFunc fn first cap).run Try.prog w = .ok (.func fn first cap) w := fun _ _ _ _ => rfl
  go_enter_defers Try.func33, Try.ntmps33
  go_wp2_with fail
  refine hW.out.mono ?_
  rintro e w1 (⟨rfl, hR, hK⟩ | ⟨n, rfl, hS, hK⟩)
  · have hg := new_kept (w := w) hK (fun h => Nat.lt_irrefl _ (hX _ h))
    have c0 : w1.cell? ⟨w.heap.size, 0, none⟩ = some (.int .i64 0) := by simp [World.cell?, hg]
    have f0 : w1.frozen? ⟨w.heap.size, 0, none⟩ = false := by simp [World.frozen?, hg]
    go_wp2_with fail
    refine leaves_cons (f := 56) (args := #[.pointer (some ⟨w.heap.size, 0, none⟩)]) (by simp) (by simp [go_sem]) ?_
    refine (catch_idle ⟨w.heap.size, 0, none⟩ _).mono ?_
    rintro e u' w'' ⟨rfl, rfl, rfl⟩
    have c1 := World.cell?_setCell_same w1 ⟨w.heap.size, 0, none⟩ (.int .i64 0) c0
    simp only [Leaves, settle, results, Try.results33]
    exact ⟨.int .i64 0, by simp [go_sem, c1], .inl ⟨w1, rfl, hR, hK, rfl⟩⟩
  · have hg := new_kept (w := w) hK (fun h => Nat.lt_irrefl _ (hX _ h))
    have c0 : w1.cell? ⟨w.heap.size, 0, none⟩ = some (.int .i64 0) := by simp [World.cell?, hg]
    have f0 : w1.frozen? ⟨w.heap.size, 0, none⟩ = false := by simp [World.frozen?, hg]
    go_wp2_with fail
    refine leaves_cons (f := 56) (args := #[.pointer (some ⟨w.heap.size, 0, none⟩)]) (by simp) (by simp [go_sem]) ?_
    refine (catch_fault ⟨w.heap.size, 0, none⟩ 0 n [] _ c0 f0).mono ?_
    rintro e u' w'' ⟨rfl, rfl, rfl⟩
    have c1 := World.cell?_setCell_same w1 ⟨w.heap.size, 0, none⟩ (.int .i64 n) c0
    simp only []
    rw [show settle (FrameMode.panicking [{ v := Value.iface 94 (.int .i64 n), recovered := true }]) = FrameMode.returning from rfl]
    simp only [Leaves, results, Try.results33]
    exact ⟨.int .i64 n, by simp [go_sem, c1], .inr ⟨n, w1, rfl, hS, hK, rfl⟩⟩

end Go.Proofs.Ytillhpepfpldcaa

/- parse.NewText. -/
namespace Go.Proofs.Ytillhpepfpldcaa
open Go.RowKit

theorem tNew (w : World) (l : List UInt8) :
    Calls Try.prog 32 #[.string ⟨l.toArray⟩] w fun e w' => e = .returned (.pointer (some ⟨w.heap.size, 0, none⟩)) ∧ w' = w.alloc (.cells #[.string ⟨l.toArray⟩] 93) := by
  go_enter Try.func32, Try.ntmps32
  go_wp2
  go_ret
  exact ⟨rfl, rfl⟩

end Go.Proofs.Ytillhpepfpldcaa

/- batch.Decode. -/
namespace Go.Proofs.Ytillhpepfpldcaa
open Go.RowKit

theorem enters_d1 (args : Array Value) (w : World) : (callFunc 34 args).run Try.prog w = .ok (.enter 34 args) w := by kernel_rfl

theorem set2b {w : World} {g : Nat} {x y : Value} {t : TypeId} (h : w.heap[g]? = some (.cells #[x, y] t (0, 0))) (a b : Value) :
    ((w.setCell ⟨g, 0, none⟩ a).setCell ⟨g, 1, none⟩ b).heap[g]? = some (.cells #[a, b] t (0, 0)) := by
  simp [World.setCell, Array.getElem?_modify, h]
theorem fro2 {w : World} {g : Nat} {x y : Value} {t : TypeId} (h : w.heap[g]? = some (.cells #[x, y] t (0, 0))) (o : Nat) : w.frozen? ⟨g, o, none⟩ = false := by
  simp [World.frozen?, h]

set_option maxHeartbeats 800000 in
theorem decode1_any (w : World) (gs ge gb : Nat) (l : List UInt8) (m : Nat) (hs : w.heap[gs]? = some (.cells #[.string ⟨l.toArray⟩] 9 (0, 0))) (he : w.heap[ge]? = some (.cells #[.int .i64 (2 + (m : Int))] 3 (0, 0)))
    (hb : w.heap[gb]? = some (.cells #[.int .i64 0, .slice none 0 0] 24 (0, 0))) (hm : m ≤ 70000) (hlen : m + 2 ≤ l.length) :
    Calls Try.prog 34 #[.pointer (some ⟨gs, 0, none⟩), .pointer (some ⟨ge, 0, none⟩), .pointer (some ⟨gb, 0, none⟩)] w fun r w' =>
      (∃ ba v, readB ((l.drop 2).take m) = some ba ∧ r = .returned (.tuple #[]) ∧ w'.heap[gb]? = some (.cells #[.int .i64 ba.number, v] 24 (0, 0)) ∧ EvSl (w.heap.size ≤ ·) w' v ba.events ∧ Kept (· = gb) w w')
      ∨ (readB ((l.drop 2).take m) = none ∧ r = fault 1 ∧ Kept (· = gb) w w') := by
  have c0 := (blk1 hs).1
  have c1 := (blk1 he).1
  have hsz : (⟨l.toArray⟩ : ByteArray).size = l.length := bytes_size l
  have hz : 2 + m ≤ (⟨l.toArray⟩ : ByteArray).size := by omega
  have hgb : gb < w.heap.size := (Array.getElem?_eq_some_iff.1 hb).1
  have HX := hide (show (⟨l.toArray⟩ : ByteArray).extract 2 (2 + m) = ⟨((l.drop 2).take m).toArray⟩ by rw [bytes_extract]; simp)
  generalize hq : (l.drop 2).take m = q at *
  have hql : q.length ≤ 1000000000 := by rw [← hq, List.length_take]; omega
  clear hq hsz
  go_enter Try.func34, Try.ntmps34
  go_wp2_with fail
  rw [HX.out]
  refine (tNew _ q).mono ?_
  rintro r w1 ⟨rfl, hw1⟩
  subst hw1
  have hT : Txt (w.alloc (.cells #[.string ⟨q.toArray⟩] 93)) w.heap.size q := heap_alloc_new w _
  have hB1 := (Below.heap_alloc w (.cells #[.string ⟨q.toArray⟩] 93) gb hgb).trans hb
  have HR := hide (readBatch_any _ w.heap.size q hT hql)
  have hK1 : Same w (w.alloc (.cells #[.string ⟨q.toArray⟩] 93)) := (Kept.refl _ w).alloc _
  clear hT
  go_wp2_with fail
  refine HR.out.mono ?_
  clear HR
  generalize w.alloc (.cells #[.string ⟨q.toArray⟩] 93) = w1 at *
  rintro r w2 (⟨ba, v, hr, rfl, hE, hK⟩ | ⟨hr, rfl, hK⟩)
  · have HRB := hide hr
    have hB2 := blk_kept hB1 hK (show ¬ gb = w.heap.size by omega)
    have HE := hide hE
    have hK2 : Same w w2 := hK1.trans hK (fun k hk e => by omega)
    have hs1 := hK1.size
    obtain ⟨ao, cap, hv⟩ := hE.form
    subst hv
    obtain ⟨num, ev⟩ := ba
    clear hr hE hK hB1
    simp only at HE
    obtain ⟨d0, d1⟩ := blk2 hB2
    have d2 := fro2 hB2
    go_wp2_with fail
    first | go_end0 | refine bodyPost_ret (results_none rfl _ _ _) rfl ?_
    have hKs : Kept (· = gb) w2 ((w2.setCell ⟨gb, 0, none⟩ (.int .i64 num)).setCell ⟨gb, 1, none⟩ (.slice ao ev.length cap)) := ((Kept.refl _ w2).setB 0 _).setB 1 _
    refine .inl ⟨⟨num, ev⟩, _, HRB.out, rfl, set2b hB2 _ _, ?_, (Same.to hK2).trans hKs (fun k hk e => e)⟩
    exact (HE.out.keep hKs (fun k hk e => by omega)).mono (fun k _ hk => Nat.le_trans hs1 hk)
  · have hK2 : Same w w2 := hK1.trans hK (fun k hk e => by omega)
    exact ⟨rfl, .inr ⟨hr, rfl, Same.to hK2⟩⟩

theorem decodeB_short {l : List UInt8} (h : l.length < 2) : decodeB l = .error 5 := by
  unfold decodeB
  rw [numF_none.2 h]
theorem decodeB_at {l : List UInt8} (h : 2 ≤ l.length) : ∃ m r, numF 2 0 l = some (m, r) ∧ m < 65536 ∧ r = l.drop 2 ∧
    decodeB l = (if l.length < m + 2 then .error 5 else match readB ((l.drop 2).take m) with | none => .error 1 | some b => if checkBa b ≠ 0 then .error (checkBa b) else .ok (b, m + 2)) := by
  cases hx : numF 2 0 l with
  | none => rw [numF_none] at hx; omega
  | some x =>
    obtain ⟨m, r⟩ := x
    obtain ⟨h1, h2⟩ := numF_inv0 hx
    have h3 : r = l.drop 2 := by rw [h2, List.drop_append_of_le_length (by rw [beN_len]; omega), List.drop_of_length_le (by rw [beN_len]; omega)]; rfl
    refine ⟨m, r, rfl, h1, h3, ?_⟩
    unfold decodeB
    rw [hx]
    simp only []
    rw [← h3]
    have h4 : r.length + 2 = l.length := by rw [h3, List.length_drop]; omega
    by_cases hlt : l.length < m + 2
    · rw [if_pos hlt, if_pos (by omega)]
    · rw [if_neg hlt, if_neg (by omega)]
      cases readB (List.take m r) <;> rfl

set_option maxHeartbeats 1600000 in
theorem decode_any (w : World) (l : List UInt8) :
    Calls Try.prog 9 #[.string ⟨l.toArray⟩] w fun r w' =>
      (∃ ba v n, decodeB l = .ok (ba, n) ∧ r = .returned (.tuple #[baV ba.number v, .int .i64 (n : Nat), .int .i64 0]) ∧ EvSl (w.heap.size ≤ ·) w' v ba.events ∧ Same w w')
      ∨ (∃ no, decodeB l = .error no ∧ no ≠ 0 ∧ r = .returned (.tuple #[baV 0 (.slice none 0 0), .int .i64 0, .int .i64 no]) ∧ Same w w') := by
  have hsz : (⟨l.toArray⟩ : ByteArray).size = l.length := bytes_size l
  by_cases h2 : l.length < 2
  · have HD := hide (decodeB_short h2)
    clear hsz
    have hR := heap_alloc_new (w.alloc (.cells #[.string ⟨l.toArray⟩] 9)) (.cells #[.int .i64 0, .slice none 0 0] 24)
    rw [World.size_alloc] at hR
    obtain ⟨q0, q1⟩ := blk2 hR
    go_enter Try.func9, Try.ntmps9
    go_wp2_with fail
    exact bodyPost_ret (v := .tuple #[baV 0 (.slice none 0 0), .int .i64 0, .int .i64 5]) (by simp [results, Try.results9, go_sem, q0, q1]) rfl (.inr ⟨5, HD.out, by decide, rfl, (by repeat' (first | assumption | exact Kept.refl _ _ | refine Kept.drewN ?_ _ | refine Kept.drew ?_ | refine Kept.alloc ?_ _ | refine Kept.setB ?_ _ _))⟩)
  · obtain ⟨m, r, h3, h4, h5, h6⟩ := decodeB_at (l := l) (by omega)
    have HN := hide h3
    have HD := hide h6
    have h2' : 2 ≤ l.length := by omega
    clear h3 h6 h5 hsz
    -- the text and the answer's block
    obtain ⟨W, hW⟩ : ∃ W, W = (w.alloc (.cells #[.string ⟨l.toArray⟩] 9)).alloc (.cells #[.int .i64 0, .slice none 0 0] 24) := ⟨_, rfl⟩
    have hWz : W.heap.size = w.heap.size + 1 + 1 := by rw [hW]; simp
    have hS0 : W.heap[w.heap.size]? = some (.cells #[.string ⟨l.toArray⟩] 9 (0, 0)) := by
      rw [hW, Below.heap_alloc _ _ _ (by simp)]; exact heap_alloc_new w _
    have hR0 : W.heap[w.heap.size + 1]? = some (.cells #[.int .i64 0, .slice none 0 0] 24 (0, 0)) := by
      have := heap_alloc_new (w.alloc (.cells #[.string ⟨l.toArray⟩] 9)) (.cells #[.int .i64 0, .slice none 0 0] 24)
      rw [World.size_alloc] at this
      rw [hW]; exact this
    have hK0 : Same w W := by rw [hW]; exact ((Kept.refl _ w).alloc _).alloc _
    go_enter Try.func9, Try.ntmps9
    go_wp2_with fail
    rw [← hW]
    clear hW
    refine (tNew W l).mono ?_
    rintro r1 w1 ⟨rfl, hw1⟩
    have hT1 : Txt w1 W.heap.size l := by rw [hw1]; exact heap_alloc_new W _
    have hK1 : Same W w1 := by rw [hw1]; exact (Kept.refl _ W).alloc _
    rw [hWz] at hT1
    clear hw1
    have hS1 := blk_kept hS0 hK1 (fun f => f)
    have hR1 := blk_kept hR0 hK1 (fun f => f)
    have HRd := hide (readNumber_any w1 (w.heap.size + 1 + 1) l 2 hT1 (by omega))
    go_wp2_with fail
    refine HRd.out.mono ?_
    clear HRd
    rintro r2 w2 (⟨m', r', h7, rfl, _, hK2⟩ | ⟨h7, _⟩)
    rotate_left
    · rw [HN.out] at h7; cases h7
    rw [HN.out] at h7
    cases h7
    have hS2 := blk_kept hS1 hK2 (show ¬ w.heap.size = w.heap.size + 1 + 1 by omega)
    have hR2 := blk_kept hR1 hK2 (show ¬ w.heap.size + 1 = w.heap.size + 1 + 1 by omega)
    have hKw : Same w w2 := (hK0.trans hK1 (fun _ _ f => f)).trans hK2 (fun k hk e => by omega)
    have hz2 : w.heap.size + 1 < w2.heap.size := (Array.getElem?_eq_some_iff.1 hR2).1
    clear hS0 hR0 hK0 hS1 hR1 hK1 hK2 hT1 hWz HN
    have hS3 := (Below.heap_alloc w2 (.cells #[.int .i64 (2 + (m : Int))] 3) _ (show w.heap.size < w2.heap.size by omega)).trans hS2
    have hws : w.heap.size < w2.heap.size := by omega
    obtain ⟨s0, s1⟩ := blk1 hS2
    obtain ⟨p0, p1⟩ := blk2 hR2
    have p2 := fro2 hR2
    by_cases hlen : l.length < m + 2
    · have HE := hide (show decodeB l = .error 5 by rw [HD.out, if_pos hlen])
      have hlen' : (l.length : Int) < 2 + (m : Int) := by omega
      have hP := set2b hR2 (.int .i64 0) (.slice none 0 0)
      have hKp : Same w ((w2.setCell ⟨w.heap.size + 1, 0, none⟩ (.int .i64 0)).setCell ⟨w.heap.size + 1, 1, none⟩ (.slice none 0 0)) := (hKw.setCell (fun h => absurd h (by show ¬ w.heap.size + 1 < w.heap.size; omega)) _).setCell (fun h => absurd h (by show ¬ w.heap.size + 1 < w.heap.size; omega)) _
      have hzp : w.heap.size + 1 < ((w2.setCell ⟨w.heap.size + 1, 0, none⟩ (.int .i64 0)).setCell ⟨w.heap.size + 1, 1, none⟩ (.slice none 0 0)).heap.size := by simpa using hz2
      clear HD
      go_wp2_with fail
      generalize (w2.setCell ⟨w.heap.size + 1, 0, none⟩ (.int .i64 0)).setCell ⟨w.heap.size + 1, 1, none⟩ (.slice none 0 0) = w6 at *
      obtain ⟨q0, q1⟩ := blk2 ((Below.heap_alloc w6 (.cells #[.int .i64 (2 + (m : Int))] 3) _ hzp).trans hP)
      exact bodyPost_ret (v := .tuple #[baV 0 (.slice none 0 0), .int .i64 0, .int .i64 5]) (by simp [results, Try.results9, go_sem, q0, q1]) rfl (.inr ⟨5, HE.out, by decide, rfl, hKp.alloc _⟩)
    · have HE : Hid (decodeB l = match readB ((l.drop 2).take m) with | none => .error 1 | some b => if checkBa b ≠ 0 then .error (checkBa b) else .ok (b, m + 2)) := by
        show decodeB l = _
        rw [HD.out, if_neg hlen]
      have hlen' : ¬ (l.length : Int) < 2 + (m : Int) := by omega
      clear HD
      have hmf : ∀ (fn : Fn) (first cap : Array Value) (w : World), (Instr.makeFunc fn first cap).run Try.prog w = .ok (.func fn first cap) w := fun _ _ _ _ => rfl
      -- the world at the closure's call
      obtain ⟨V, hV⟩ : ∃ V, V = (w2.alloc (.cells #[.int .i64 (2 + (m : Int))] 3)).alloc (.cells #[.int .i64 0, .slice none 0 0] 24) := ⟨_, rfl⟩
      have hVz : V.heap.size = w2.heap.size + 1 + 1 := by rw [hV]; simp
      have hKV : Same w2 V := by rw [hV]; exact ((Kept.refl _ w2).alloc _).alloc _
      have hVs := blk_kept hS2 hKV (fun f => f)
      have hVr := blk_kept hR2 hKV (fun f => f)
      have hVe : V.heap[w2.heap.size]? = some (.cells #[.int .i64 (2 + (m : Int))] 3 (0, 0)) := by
        rw [hV, Below.heap_alloc _ _ _ (by simp)]; exact heap_alloc_new w2 _
      have hVb : V.heap[w2.heap.size + 1]? = some (.cells #[.int .i64 0, .slice none 0 0] 24 (0, 0)) := by
        have := heap_alloc_new (w2.alloc (.cells #[.int .i64 (2 + (m : Int))] 3)) (.cells #[.int .i64 0, .slice none 0 0] 24)
        rw [World.size_alloc] at this
        rw [hV]; exact this
      have hKA : Same V (V.alloc (.cells #[.int .i64 0] 25)) := (Kept.refl _ V).alloc _
      have HDe := hide (decode1_any _ w.heap.size w2.heap.size (w2.heap.size + 1) l m (blk_kept hVs hKA (fun f => f)) (blk_kept hVe hKA (fun f => f)) (blk_kept hVb hKA (fun f => f)) (by omega) (by omega))
      have HCa := hide (caught_closure3 34 (.pointer (some ⟨w.heap.size, 0, none⟩)) (.pointer (some ⟨w2.heap.size, 0, none⟩)) (.pointer (some ⟨w2.heap.size + 1, 0, none⟩)) V (· = w2.heap.size + 1) (by intro i hi; omega)
        (fun w' => ∃ ba v, readB ((l.drop 2).take m) = some ba ∧ w'.heap[w2.heap.size + 1]? = some (.cells #[.int .i64 ba.number, v] 24 (0, 0)) ∧ EvSl (V.heap.size + 1 ≤ ·) w' v ba.events)
        (fun n _ => n = 1 ∧ readB ((l.drop 2).take m) = none) enters_d1
        (HDe.out.mono (by
          rintro r w' (⟨ba, v, h1, rfl, h2, h3, h4⟩ | ⟨h1, rfl, h2⟩)
          · exact .inl ⟨rfl, ⟨ba, v, h1, h2, by simpa using h3⟩, h4⟩
          · exact .inr ⟨1, rfl, ⟨rfl, h1⟩, h2⟩)))
      clear HDe hVs hVb hKA
      have hKwV : Same w V := hKw.trans hKV (fun _ _ f => f)
      go_wp2_with fail
      rw [← hV]
      clear hV
      refine HCa.out.mono ?_
      clear HCa
      rw [hVz]
      rintro e w' (⟨w3, rfl, ⟨ba, v, hrb, hB3, hE3⟩, hK3, rfl⟩ | ⟨n, w3, rfl, ⟨rfl, hrb⟩, hK3, rfl⟩)
      · have hK3' := hK3.unA
        have hS : Kept (· = w2.heap.size + 1 + 1) w3 (w3.setCell ⟨w2.heap.size + 1 + 1, 0, none⟩ (.int .i64 0)) := (Kept.refl _ w3).setB 0 _
        have hR4 := blk_kept (blk_kept hVr hK3' (show ¬ w.heap.size + 1 = w2.heap.size + 1 by omega)) hS (show ¬ w.heap.size + 1 = w2.heap.size + 1 + 1 by omega)
        have hE4 := blk_kept (blk_kept hVe hK3' (show ¬ w2.heap.size = w2.heap.size + 1 by omega)) hS (show ¬ w2.heap.size = w2.heap.size + 1 + 1 by omega)
        have hB4 := blk_kept hB3 hS (show ¬ w2.heap.size + 1 = w2.heap.size + 1 + 1 by omega)
        have hV4 := hE3.keep hS (fun k hk e => by omega)
        have hK4 : Same w (w3.setCell ⟨w2.heap.size + 1 + 1, 0, none⟩ (.int .i64 0)) := (hKwV.trans hK3' (fun k hk e => by omega)).trans hS (fun k hk e => by omega)
        generalize w3.setCell ⟨w2.heap.size + 1 + 1, 0, none⟩ (.int .i64 0) = w4 at *
        clear hB3 hE3 hK3 hK3' hS hVr hVe hKwV hKV
        have HE2 : Hid (decodeB l = if checkBa ba ≠ 0 then .error (checkBa ba) else .ok (ba, m + 2)) := by
          show decodeB l = _
          rw [HE.out, hrb]
        clear HE hrb
        have HCk := hide (checkBa_any _ ba v w4 hV4)
        have HV := hide hV4
        obtain ⟨ao, cap, hv⟩ := hV4.form
        subst hv
        clear hV4
        obtain ⟨b0, b1⟩ := blk2 hB4
        have b2 := fro2 hB4
        obtain ⟨e0, e1⟩ := blk1 hE4
        obtain ⟨num, ev⟩ := ba
        simp only at HCk HV b0 b1
        have hz4 : w2.heap.size + 1 < w4.heap.size := (Array.getElem?_eq_some_iff.1 hB4).1
        go_wp2_with fail
        refine HCk.out.mono ?_
        rintro r w5 ⟨rfl, hK5⟩
        have hR5 := blk_kept hR4 hK5 (fun f => f)
        have hE5 := blk_kept hE4 hK5 (fun f => f)
        have hB5 := blk_kept hB4 hK5 (fun f => f)
        have hK6 : Same w w5 := hK4.trans hK5 (fun _ _ f => f)
        have HV5 := hide (HV.out.same hK5)
        clear hR4 hE4 hB4 hK4 b0 b1 b2 e0 e1 HCk HV s0 s1 p0 p1 p2
        obtain ⟨p0, p1⟩ := blk2 hR5
        have p2 := fro2 hR5
        obtain ⟨b0, b1⟩ := blk2 hB5
        obtain ⟨e0, e1⟩ := blk1 hE5
        have hP := fun x y => set2b hR5 x y
        have hKp : ∀ x y, Same w ((w5.setCell ⟨w.heap.size + 1, 0, none⟩ x).setCell ⟨w.heap.size + 1, 1, none⟩ y) := fun x y => (hK6.setCell (fun h => absurd h (by show ¬ w.heap.size + 1 < w.heap.size; omega)) _).setCell (fun h => absurd h (by show ¬ w.heap.size + 1 < w.heap.size; omega)) _
        by_cases hc : checkBa ⟨num, ev⟩ = 0
        · have hc' : (checkBa ⟨num, ev⟩ != 0) = false := by simp [hc]
          have HE3 := hide (show decodeB l = .ok (⟨num, ev⟩, m + 2) by rw [HE2.out, if_neg (by simp [hc])])
          have hKs : Kept (· = w.heap.size + 1) w5 ((w5.setCell ⟨w.heap.size + 1, 0, none⟩ (.int .i64 num)).setCell ⟨w.heap.size + 1, 1, none⟩ (.slice ao ev.length cap)) := ((Kept.refl _ w5).setB 0 _).setB 1 _
          have HV6 := hide (HV5.out.keep hKs (fun k hk e => by omega))
          have HP := hide hP
          have HKp := hide hKp
          clear hc HE2 HV5 hKs hP hKp
          have hd1 : w2.heap.size ≠ w.heap.size + 1 := by omega
          have hd2 : w2.heap.size + 1 ≠ w.heap.size + 1 := by omega
          go_wp2_with fail
          go_region
          all_goals
            go_wp2_with fail
            obtain ⟨q0, q1⟩ := blk2 (HP.out (.int .i64 num) (.slice ao ev.length cap))
            refine bodyPost_ret (v := .tuple #[baV num (.slice ao ev.length cap), .int .i64 ((m + 2 : Nat) : Int), .int .i64 0]) ?_ rfl (.inl ⟨⟨num, ev⟩, _, m + 2, HE3.out, rfl, ?_, (HKp.out _ _).drew⟩)
            · simp [results, Try.results9, go_sem, q0, q1, Int.add_comm]
            · exact (HV6.out.keep (Kept.refl (fun _ => False) _).drew (fun _ _ f => f)).mono (fun k _ hk => by omega)
        · have hc' : (checkBa ⟨num, ev⟩ != 0) = true := by simp [hc]
          have HE3 := hide (show decodeB l = .error (checkBa ⟨num, ev⟩) by rw [HE2.out, if_pos hc])
          have HC0 := hide hc
          obtain ⟨q0, q1⟩ := blk2 (hP (.int .i64 0) (.slice none 0 0))
          clear hc HE2 hP HV5
          generalize checkBa ⟨num, ev⟩ = no at *
          go_wp2_with fail
          exact bodyPost_ret (v := .tuple #[baV 0 (.slice none 0 0), .int .i64 0, .int .i64 no]) (by simp [results, Try.results9, go_sem, q0, q1]) rfl (.inr ⟨no, HE3.out, HC0.out, rfl, hKp _ _⟩)
      · have hK3' := hK3.unA
        have hS : Kept (· = w2.heap.size + 1 + 1) w3 (w3.setCell ⟨w2.heap.size + 1 + 1, 0, none⟩ (.int .i64 1)) := (Kept.refl _ w3).setB 0 _
        have hR4 := blk_kept (blk_kept hVr hK3' (show ¬ w.heap.size + 1 = w2.heap.size + 1 by omega)) hS (show ¬ w.heap.size + 1 = w2.heap.size + 1 + 1 by omega)
        have hK4 : Same w (w3.setCell ⟨w2.heap.size + 1 + 1, 0, none⟩ (.int .i64 1)) := (hKwV.trans hK3' (fun k hk e => by omega)).trans hS (fun k hk e => by omega)
        generalize w3.setCell ⟨w2.heap.size + 1 + 1, 0, none⟩ (.int .i64 1) = w4 at *
        have HE2 := hide (show decodeB l = .error 1 by rw [HE.out, hrb])
        clear hK3 hK3' hS hVr hVe hKwV hKV HE hrb s0 s1 p0 p1 p2
        obtain ⟨p0, p1⟩ := blk2 hR4
        have p2 := fro2 hR4
        obtain ⟨q0, q1⟩ := blk2 (set2b hR4 (.int .i64 0) (.slice none 0 0))
        have hKp : Same w ((w4.setCell ⟨w.heap.size + 1, 0, none⟩ (.int .i64 0)).setCell ⟨w.heap.size + 1, 1, none⟩ (.slice none 0 0)) := (hK4.setCell (fun h => absurd h (by show ¬ w.heap.size + 1 < w.heap.size; omega)) _).setCell (fun h => absurd h (by show ¬ w.heap.size + 1 < w.heap.size; omega)) _
        go_wp2_with fail
        exact bodyPost_ret (v := .tuple #[baV 0 (.slice none 0 0), .int .i64 0, .int .i64 1]) (by simp [results, Try.results9, go_sem, q0, q1]) rfl (.inr ⟨1, HE2.out, by decide, rfl, hKp⟩)

end Go.Proofs.Ytillhpepfpldcaa
