/- query.Read, whatever it is handed. -/
import Derived.Test.YtkkjchfhgjfclaaGreatDoorQuerytellsupto24
import Derived.Test.YtkkjchfhgjfclaaGreatDoorQuerytellsupto19
import Derived.Test.YtkkjchfhgjfclaaGreatDoorQuerytellsupto21
namespace Go.Proofs.YtkkjchfhgjfclaaGreatDoor
open Go.RowKit

theorem SelSlP.mono {P Q : Nat → Prop} {w : World} {v : Value} {f : Sels} (h : SelSlP P w v f) (hx : ∀ b, b < w.heap.size → P b → Q b) : SelSlP Q w v f := h.keep (Kept.refl (fun _ => False) _) (fun b hb hp => ⟨fun f => f, hx b hb hp⟩)

theorem pQuery_no {T : List Tok} (h : isS 123 T = false) : pQuery T = none := by rw [pQuery, if_neg (by rw [h]; simp)]
theorem pQuery_none {t : Tok} {r : List Tok} (h : isS 123 (t :: r) = true) (hp : pSels r.length r = none) : pQuery (t :: r) = none := by
  rw [pQuery, if_pos h, List.tail_cons, hp]
theorem pQuery_more {t : Tok} {r r' : List Tok} {s : Sels} (h : isS 123 (t :: r) = true) (hp : pSels r.length r = some (s, r')) (hr : r' ≠ []) : pQuery (t :: r) = none := by
  rw [pQuery, if_pos h, List.tail_cons, hp]
  cases r' with
  | nil => exact absurd rfl hr
  | cons a r' => rfl
theorem pQuery_some {t : Tok} {r : List Tok} {s : Sels} (h : isS 123 (t :: r) = true) (hp : pSels r.length r = some (s, [])) : pQuery (t :: r) = some s := by
  rw [pQuery, if_pos h, List.tail_cons, hp]

set_option maxRecDepth 20000 in
set_option maxHeartbeats 1600000 in
theorem whole_any (w : World) (q : Nat) (T : List Tok) (h : LineAt w q T) (hT : T.length ≤ 300) :
    Calls Tryz.prog 20 #[.pointer (some ⟨q, 0, none⟩)] w fun e w' =>
      (∃ s v, pQuery T = some s ∧ e = .returned v ∧ SelSlP (fun b => w.heap.size ≤ b) w' v s ∧ Kept (· = q) w w')
      ∨ (pQuery T = none ∧ e = fault 1 ∧ Kept (· = q) w w') := by
  have HS := hide (sign_any w q T 123 h)
  clear h
  go_enter Tryz.func20, Tryz.ntmps20
  go_wp2_with fail
  refine HS.out.mono ?_
  rintro e w1 (⟨t, r, rfl, hs, rfl, hL1, hK1⟩ | ⟨hs, rfl, hK1⟩)
  · have HI := hide hs
    have HR := hide (readList_any r.length w1 q r hL1 (Nat.le_refl _) (by simp at hT; omega))
    have HK1 := hide hK1
    clear hs hL1 hK1 HS
    go_wp2_with fail
    refine HR.out.mono ?_
    rintro e w2 (⟨s, r', v, hp, rfl, hv, hL2, hK2⟩ | ⟨hp, rfl, hK2⟩)
    · have HP := hide hp
      have HV := hide (hv.mono (Q := fun b => w.heap.size ≤ b) (fun b _ hb => Nat.le_trans HK1.out.size hb))
      obtain ⟨ao, cap, rfl, _, _⟩ := id hv
      have HK2 := hide (kq HK1.out hK2)
      have HE := hide (end_any w2 q r' hL2)
      clear hp hv hL2 hK2
      go_wp2_with fail
      refine HE.out.mono ?_
      rintro e w3 (⟨hr, rfl, rfl⟩ | ⟨hr, rfl, rfl⟩)
      · have HQ := hide (show pQuery (t :: r) = some s from pQuery_some HI.out (by have := HP.out; rw [hr] at this; exact this))
        clear hr
        go_wp2_with fail
        go_ret
        exact .inl ⟨s, _, HQ.out, rfl, HV.out, HK2.out⟩
      · have HQ := hide (pQuery_more HI.out HP.out hr)
        clear hr
        go_wp2_with fail
        exact ⟨rfl, .inr ⟨HQ.out, rfl, HK2.out⟩⟩
    · have HQ := hide (pQuery_none HI.out hp)
      clear hp
      go_wp2_with fail
      exact ⟨rfl, .inr ⟨HQ.out, rfl, kq HK1.out hK2⟩⟩
  · have HQ := hide (pQuery_no hs)
    clear hs
    go_wp2_with fail
    exact ⟨rfl, .inr ⟨HQ.out, rfl, hK1⟩⟩

set_option maxRecDepth 20000 in
theorem qRead1_any (w : World) (c1 c2 : Nat) (ao : Option Addr) (cap : Nat) (T : List Tok) (hT : T.length ≤ 300) (hcap : T.length ≤ cap) (ht : TokSl w (.slice ao T.length cap) T)
    (h1 : w.heap[c1]? = some (.cells #[.slice ao T.length cap] 35 (0, 0))) (h2 : w.heap[c2]? = some (.cells #[.slice none 0 0] 22 (0, 0))) :
    Calls Tryz.prog 19 #[.pointer (some ⟨c1, 0, none⟩), .pointer (some ⟨c2, 0, none⟩)] w fun e w' =>
      (∃ l v, pQuery T = some l ∧ e = .returned (.tuple #[]) ∧ w'.heap[c2]? = some (.cells #[v] 22 (0, 0)) ∧ SelSlP (fun b => w.heap.size ≤ b) w' v l ∧ Kept (· = c2) w w')
      ∨ (pQuery T = none ∧ e = fault 1 ∧ Kept (· = c2) w w') := by
  obtain ⟨d1, _⟩ := blk1 h1
  have HL := hide (newLine_any w _ T ht (fun a n c e => by cases e; exact hcap))
  have H2 := hide h2
  have hc2 : c2 < w.heap.size := (Array.getElem?_eq_some_iff.1 h2).1
  clear ht h1 h2
  go_enter Tryz.func19, Tryz.ntmps19
  go_wp2_with fail
  refine HL.out.mono ?_
  rintro e w1 ⟨rfl, hL1, hK1, hs1⟩
  have HS1 := hide hs1
  have HR := hide (whole_any w1 w.heap.size T hL1 hT)
  have H21 := hide (blk_kept H2.out hK1 (fun f => f))
  clear hL1 hs1
  go_wp2_with fail
  refine HR.out.mono ?_
  rintro e w2 (⟨l, v, hp, rfl, hv, hK2⟩ | ⟨hp, rfl, hK2⟩)
  · have HP := hide hp
    have hK3 : Same w w2 := hK1.trans hK2 (fun k hk e => by omega)
    have hB2 := blk_kept H21.out hK2 (show ¬ c2 = w.heap.size by omega)
    obtain ⟨e2, f2⟩ := blk1 hB2
    obtain ⟨av, cv, rfl, _, _⟩ := id hv
    have HV := hide (hv.mono (Q := fun b => w.heap.size ≤ b) (fun b _ hb => by have := HS1.out; omega))
    have hS : Kept (· = c2) w2 (w2.setCell ⟨c2, 0, none⟩ (.slice av l.len cv)) := (Kept.refl _ w2).setB 0 _
    have HX := hide (And.intro (show (w2.setCell ⟨c2, 0, none⟩ (.slice av l.len cv)).heap[c2]? = some (.cells #[.slice av l.len cv] 22 (0, 0)) by simp [World.setCell, Array.getElem?_modify, hB2]) (And.intro (HV.out.keep hS (fun b _ hb => ⟨by omega, hb⟩)) (show Kept (· = c2) w (w2.setCell ⟨c2, 0, none⟩ (.slice av l.len cv)) from hK3.to.trans hS (fun _ _ e => e))))
    clear hp hv hB2 hS hK2 hK3
    go_wp2_with fail
    go_end0
    exact .inl ⟨l, _, HP.out, rfl, HX.out⟩
  · have HP := hide hp
    clear hp
    go_wp2_with fail
    exact ⟨rfl, .inr ⟨HP.out, rfl, Same.to (hK1.trans hK2 (fun k hk e => by omega))⟩⟩

theorem enters_qRead1 (args : Array Value) (w : World) : (callFunc 19 args).run Tryz.prog w = .ok (.enter 19 args) w := by kernel_rfl

theorem readQ_err {l : List UInt8} {n : Int} (h : lexRead l = .error n) : readQ l = .error n := by rw [readQ, h]
theorem readQ_form {l : List UInt8} {T : List Tok} (h : lexRead l = .ok T) (hp : pQuery T = none) : readQ l = .error 1 := by rw [readQ, h]; simp only [hp]
theorem readQ_bad {l : List UInt8} {T : List Tok} {s : Sels} {m : Int} (h : lexRead l = .ok T) (hp : pQuery T = some s) (hm : checkQ s = m) (h0 : m ≠ 0) : readQ l = .error m := by
  rw [readQ, h]; simp only [hp, hm]; rw [if_pos h0]
theorem readQ_good {l : List UInt8} {T : List Tok} {s : Sels} (h : lexRead l = .ok T) (hp : pQuery T = some s) (hm : checkQ s = 0) : readQ l = .ok s := by
  rw [readQ, h]; simp only [hp, hm]; rfl

set_option maxRecDepth 20000 in
set_option maxHeartbeats 1600000 in
theorem qRead_any (w : World) (s : ByteArray) :
    Calls Tryz.prog 7 #[.string s] w fun e w' =>
      (∃ l v, readQ s.data.toList = .ok l ∧ e = .returned (.tuple #[v, .int .i64 0]) ∧ SelSlP (fun b => w.heap.size ≤ b) w' v l ∧ Same w w')
      ∨ (∃ n, readQ s.data.toList = .error n ∧ n ≠ 0 ∧ e = .returned (.tuple #[.slice none 0 0, .int .i64 n]) ∧ Same w w') := by
  have hmf : ∀ (fn : Fn) (first cap : Array Value) (w : World), (Instr.makeFunc fn first cap).run Tryz.prog w = .ok (.func fn first cap) w := fun _ _ _ _ => rfl
  cases hl : lexRead s.data.toList with
  | error n =>
    have HL := hide hl
    clear hl
    go_enter Tryz.func7, Tryz.ntmps7
    go_wp2_with fail
    refine (read_bad _ s n HL.out).mono ?_
    rintro e w1 ⟨rfl, hK1, hn⟩
    have hn' : (n != 0) = true := by simp [hn]
    have HN := hide hn
    clear hn
    go_wp2_with fail
    go_ret2
    exact .inr ⟨n, readQ_err HL.out, HN.out, rfl, hK1.alloc _⟩
  | ok T =>
    have hT := lexRead_len hl
    have HL := hide hl
    clear hl
    go_enter Tryz.func7, Tryz.ntmps7
    go_wp2_with fail
    refine (read_cap _ s T HL.out hT).mono ?_
    rintro e w1 ⟨ao, cap, rfl, hcap, htk, hK1⟩
    have hkk : Same w1 (((w1.alloc (.cells #[.slice ao T.length cap] 35)).alloc (.cells #[.slice none 0 0] 22)).alloc (.cells #[.int .i64 0] 24)) := (((Kept.refl _ w1).alloc _).alloc _).alloc _
    have hW := qRead1_any (((w1.alloc (.cells #[.slice ao T.length cap] 35)).alloc (.cells #[.slice none 0 0] 22)).alloc (.cells #[.int .i64 0] 24)) w1.heap.size (w1.heap.size + 1) ao cap T hT hcap (htk.same hkk)
      (by rw [Below.heap_alloc _ _ _ (by simp; omega), Below.heap_alloc _ _ _ (by simp)]; exact heap_alloc_new w1 _)
      (by rw [Below.heap_alloc _ _ _ (by simp)]; have := heap_alloc_new (w1.alloc (.cells #[.slice ao T.length cap] 35)) (.cells #[.slice none 0 0] 22); simpa using this)
    have HW := hide hW
    clear hW hkk htk
    go_wp2_with fail
    refine (caught_closure 19 (.pointer (some ⟨w1.heap.size, 0, none⟩)) (.pointer (some ⟨w1.heap.size + 1, 0, none⟩)) _ (· = w1.heap.size + 1) (by intro i hi; simp; omega)
      (fun w' => ∃ l v, pQuery T = some l ∧ w'.heap[w1.heap.size + 1]? = some (.cells #[v] 22 (0, 0)) ∧ SelSlP (fun b => w1.heap.size + 3 ≤ b) w' v l)
      (fun n _ => pQuery T = none ∧ n = 1) enters_qRead1 (HW.out.mono ?_)).mono ?_
    · rintro e w' (⟨l, v, h1, h2, h3, h4, h5⟩ | ⟨h1, h2, h3⟩)
      · exact .inl ⟨h2, ⟨l, v, h1, h3, h4.mono (fun b _ hb => by simp at hb; omega)⟩, h5⟩
      · exact .inr ⟨1, h2, ⟨h1, rfl⟩, h3⟩
    · rintro e w' (⟨w2, rfl, ⟨l, v, h1, h3, h4⟩, h5, rfl⟩ | ⟨n, w2, rfl, ⟨h1, rfl⟩, h4, rfl⟩)
      · simp only [World.size_alloc]
        have hK2 : Same w1 w2 := (((Kept.refl (fun _ => False) w1).alloc _).alloc _).trans (Kept.unA h5) (fun i hi e => by have e2 : i = w1.heap.size + 1 := e; omega)
        have hS : Kept (· = w1.heap.size + 1 + 1) w2 (w2.setCell ⟨w1.heap.size + 1 + 1, 0, none⟩ (.int .i64 0)) := (Kept.refl _ w2).setB 0 _
        have hK3 : Same w1 (w2.setCell ⟨w1.heap.size + 1 + 1, 0, none⟩ (.int .i64 0)) := hK2.trans hS (fun i hi e => by omega)
        have hB3 := blk_kept h3 hS (by omega)
        have hT3 := h4.keep hS (fun b _ hb => ⟨by omega, hb⟩)
        obtain ⟨av, cv, rfl, _, _⟩ := id hT3
        obtain ⟨e3, f3⟩ := blk1 hB3
        generalize w2.setCell ⟨w1.heap.size + 1 + 1, 0, none⟩ (.int .i64 0) = w3 at *
        obtain ⟨m, hm⟩ : ∃ m, checkQ l = m := ⟨_, rfl⟩
        have hck := qCheck_any w3 _ l hT3.plain
        rw [hm] at hck
        have HCK := hide hck
        have HP := hide h1
        have HM := hide hm
        have HT3 := hide hT3
        have HK3 := hide (tra hK1 hK3)
        have HSZ := hide hK1.size
        have HB3 := hide hB3
        clear hck h1 hm hT3 h3 h4 h5 hK2 hS hK3 hB3 HW
        go_wp2_with fail
        refine HCK.out.mono ?_
        rintro e w4 ⟨rfl, hK4⟩
        obtain ⟨e4, f4⟩ := blk1 (blk_kept HB3.out hK4 (fun f => f))
        by_cases hm0 : m = 0
        · subst hm0
          go_wp2_with fail
          go_ret2
          exact .inl ⟨l, _, readQ_good HL.out HP.out HM.out, rfl, (HT3.out.keep hK4 (Q := fun b => w1.heap.size + 3 ≤ b) (fun b _ hb => ⟨fun f => f, hb⟩)).mono (fun b _ hb => by have := HSZ.out; omega), tra HK3.out hK4⟩
        · have hm1 : (m != 0) = true := by simp [hm0]
          have HM0 := hide hm0
          clear hm0
          go_wp2_with fail
          go_ret2
          exact .inr ⟨m, readQ_bad HL.out HP.out HM.out HM0.out, HM0.out, rfl, tra HK3.out hK4⟩
      · simp only [World.size_alloc]
        have hK2 : Same w1 w2 := (((Kept.refl (fun _ => False) w1).alloc _).alloc _).trans (Kept.unA h4) (fun i hi e => by have e2 : i = w1.heap.size + 1 := e; omega)
        have hS : Kept (· = w1.heap.size + 1 + 1) w2 (w2.setCell ⟨w1.heap.size + 1 + 1, 0, none⟩ (.int .i64 1)) := (Kept.refl _ w2).setB 0 _
        have hK3 : Same w1 (w2.setCell ⟨w1.heap.size + 1 + 1, 0, none⟩ (.int .i64 1)) := hK2.trans hS (fun i hi e => by omega)
        have HP := hide h1
        have HK3 := hide (tra hK1 hK3)
        generalize w2.setCell ⟨w1.heap.size + 1 + 1, 0, none⟩ (.int .i64 1) = w3 at *
        clear h1 h4 hK2 hS hK3 HW
        go_wp2_with fail
        go_ret2
        exact .inr ⟨1, readQ_form HL.out HP.out, by decide, rfl, HK3.out⟩

end Go.Proofs.YtkkjchfhgjfclaaGreatDoor
