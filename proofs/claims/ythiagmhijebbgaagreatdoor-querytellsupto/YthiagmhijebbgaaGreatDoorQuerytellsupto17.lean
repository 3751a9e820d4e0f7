import Derived.Test.YthiagmhijebbgaaGreatDoorQuerytellsupto15
import Derived.Test.YthiagmhijebbgaaGreatDoorQuerytellsupto16
/- query.putArgs. -/
namespace Go.Proofs.YthiagmhijebbgaaGreatDoor
open Go.RowKit

theorem ArgSlP.kt {P : Nat → Prop} {q : Nat} {w w' : World} {v : Value} {l : List ArgT} (h : ArgSlP P w v l) (hk : KT q w w') (hp : ∀ b, P b → b < q) : ArgSlP P w' v l :=
  h.keep hk (fun b _ hb => ⟨fun e => by have := hp b hb; rcases e with e | e <;> omega, hb⟩)
theorem SelSlP.kt {P : Nat → Prop} {q : Nat} {w w' : World} {v : Value} {l : Sels} (h : SelSlP P w v l) (hk : KT q w w') (hp : ∀ b, P b → b < q) : SelSlP P w' v l :=
  h.keep hk (fun b _ hb => ⟨fun e => by have := hp b hb; rcases e with e | e <;> omega, hb⟩)
theorem ArgSlP.at {P : Nat → Prop} {w : World} {ao : Option Addr} {n cap : Nat} {l : List ArgT} (h : ArgSlP P w (.slice ao n cap) l) (j : Nat) (hj : j < l.length) :
    ∃ b off, ao = some ⟨b, off, none⟩ ∧ P b ∧ w.cell? ⟨b, off + j * 4, none⟩ = some (.string ⟨l[j].name.toArray⟩) ∧ w.cell? ⟨b, off + j * 4 + 1, none⟩ = some (.bool l[j].isText) ∧ w.cell? ⟨b, off + j * 4 + 2, none⟩ = some (.string ⟨l[j].text.toArray⟩) ∧ w.cell? ⟨b, off + j * 4 + 3, none⟩ = some (.int .i64 l[j].n) := by
  obtain ⟨ao', cap', hv, _, hc⟩ := h
  cases hv
  exact hc j l[j] (List.getElem?_eq_getElem hj)

theorem argToks_app (a b : List ArgT) : argToks (a ++ b) = argToks a ++ argToks b := by
  induction a with
  | nil => rfl
  | cons f a ih => simp [argToks, ih]

theorem vtok (w : World) (a : ArgT) (kv : Int) (h : kv = (valueT a).k) : Calls Tryz.prog 78 #[.agg #[.string ⟨a.name.toArray⟩, .bool a.isText, .string ⟨a.text.toArray⟩, .int .i64 a.n]] w fun e w' => e = .returned (.agg #[.int .i64 kv, .string ⟨a.text.toArray⟩, .int .i64 a.n]) ∧ Same w w' := by
  refine (valueToken_any w _ _ a.isText a.n).mono ?_
  rintro e w' ⟨k, h1, h2, h3⟩
  rw [h1, h2, h]
  refine ⟨?_, h3⟩
  unfold valueT
  cases a.isText <;> rfl

def argB (w : World) (g : Nat) (a : ArgT) : Prop := w.heap[g]? = some (.cells #[.string ⟨a.name.toArray⟩, .bool a.isText, .string ⟨a.text.toArray⟩, .int .i64 a.n] 63 (0, 0))
theorem argB.cells {w w' : World} {g : Nat} {a : ArgT} (h : argB w g a) (hk : Same w w') : w'.cell? ⟨g, 0, none⟩ = some (.string ⟨a.name.toArray⟩) ∧ w'.cell? ⟨g, 1, none⟩ = some (.bool a.isText) ∧ w'.cell? ⟨g, 2, none⟩ = some (.string ⟨a.text.toArray⟩) ∧ w'.cell? ⟨g, 3, none⟩ = some (.int .i64 a.n) := by
  have e := blk_kept' h hk
  simp [World.cell?, e]

set_option maxRecDepth 20000 in
set_option maxHeartbeats 3200000 in
theorem putArgs_any (w : World) (q : Nat) (T : List Tok) (l : List ArgT) (ao : Option Addr) (cap : Nat) (h : RowAt w q T) (ha : ArgSlP (· < q) w (.slice ao l.length cap) l) (hb : T.length + 3 * l.length + 2 ≤ 900000) :
    Calls Tryz.prog 67 #[.pointer (some ⟨q, 0, none⟩), .slice ao l.length cap] w fun e w' => e = .returned (.tuple #[]) ∧ RowAt w' q (T ++ (signT [40] :: (argToks l ++ [signT [41]]))) ∧ KT q w w' := by
  have HR := hide h
  have HA := hide ha
  have hll : l.length ≤ 900000 := by omega
  clear h ha
  go_enter Tryz.func67, Tryz.ntmps67
  go_wp2_with fail
  refine (tkSign_any _ _).mono ?_
  rintro e w1 ⟨rfl, hK1⟩
  have HP := hide (put_1 w1 q T 4 0 [40] (HR.out.same hK1) (by omega))
  go_wp2_with fail
  refine HP.out.mono ?_
  rintro e w2 ⟨rfl, hR2, hK2⟩
  have HR2 := hide hR2
  have HK2 := hide ((KT.of_same hK1).trans hK2)
  clear hR2 hK1 hK2 HP
  go_wp2_with fail
  go_loopg [12] l.length (fun g k wr => ∃ j : Nat, j + g = l.length ∧ k = .int .i64 j ∧ Hid (RowAt wr q (T ++ [⟨4, [40], 0⟩] ++ argToks (l.take j))) ∧ Hid (KT q w wr))
  case atStart => exact ⟨0, by omega, rfl, by rw [Hid]; simpa [argToks] using HR2.out, HK2⟩
  case round =>
    obtain ⟨j, hj, rfl, HRr, HKr⟩ := hrel
    have hlenT : (T ++ ([⟨4, [40], 0⟩] : List Tok) ++ argToks (l.take j)).length ≤ 900000 := by
      have h1 := argToks_len (l.take j)
      have h2 : (l.take j).length ≤ l.length := by rw [List.length_take]; omega
      simp only [List.length_append, List.length_cons, List.length_nil]
      omega
    have HLT := hide hlenT
    clear hlenT
    by_cases hlt : j < l.length
    · obtain ⟨b, off, rfl, hbq, x0, x1, x2, x3⟩ := (HA.out.kt HKr.out (fun _ h => h)).at j hlt
      have HT := hide (show argToks (l.take (j + 1)) = argToks (l.take j) ++ [nameT l[j].name, signT [58], valueT l[j]] by
        rw [List.take_succ_eq_append_getElem hlt, argToks_app]; simp [argToks])
      obtain ⟨a, hae⟩ : ∃ a, a = l[j] := ⟨_, rfl⟩
      rw [← hae] at x0 x1 x2 x3 HT
      clear hae
      have hqr := HRr.out.lt
      obtain ⟨kv, hkv⟩ : ∃ kv, kv = (valueT a).k := ⟨_, rfl⟩
      have HKV := hide hkv
      clear hkv
      obtain ⟨w0, hw0⟩ : ∃ w0, w0 = wr.alloc (.cells #[.string ⟨a.name.toArray⟩, .bool a.isText, .string ⟨a.text.toArray⟩, .int .i64 a.n] 63) := ⟨_, rfl⟩
      have HK0 := hide (show Same wr w0 by rw [hw0]; exact (Kept.refl _ wr).alloc _)
      have HB := hide (show argB w0 wr.heap.size a by rw [hw0]; exact heap_alloc_new wr _)
      have HQ := hide (fun w1 (hK1 : Same w0 w1) => put_3 w1 q _ 1 0 4 0 kv a.n a.name [58] a.text (HRr.out.same (tra HK0.out hK1)) HLT.out)
      have hKc : Same w0 w0.drew := (Kept.refl _ _).drew
      obtain ⟨c0, c1, c2, c3⟩ := HB.out.cells (Kept.refl _ w0)
      have c0d : ∀ n, (w0.drewN n).cell? ⟨wr.heap.size, 0, none⟩ = some (.string ⟨a.name.toArray⟩) := fun n => c0
      have c1d : ∀ n, (w0.drewN n).cell? ⟨wr.heap.size, 1, none⟩ = some (.bool a.isText) := fun n => c1
      have c2d : ∀ n, (w0.drewN n).cell? ⟨wr.heap.size, 2, none⟩ = some (.string ⟨a.text.toArray⟩) := fun n => c2
      have c3d : ∀ n, (w0.drewN n).cell? ⟨wr.heap.size, 3, none⟩ = some (.int .i64 a.n) := fun n => c3
      have hws : wr.heap.size < w0.heap.size := by rw [hw0]; simp
      go_upto_region 4 with fail
      rw [← hw0]
      clear hw0
      go_region_with (first
        | (go_at_call 42; refine (tkSign_any _ _).mono ?_; rintro e wn ⟨rfl, hKn⟩; have hKc := tra (by exact hKc) hKn; obtain ⟨c0, c1, c2, c3⟩ := HB.out.cells hKc; clear hKn)
        | (go_at_call 66; refine (tkName_any _ _).mono ?_; rintro e wn ⟨rfl, hKn⟩; have hKc := tra (by exact hKc) hKn; obtain ⟨c0, c1, c2, c3⟩ := HB.out.cells hKc; clear hKn)
        | (go_at_call 78; refine (vtok _ a kv HKV.out).mono ?_; rintro e wn ⟨rfl, hKn⟩; have hKc := tra (by exact hKc) hKn; obtain ⟨c0, c1, c2, c3⟩ := HB.out.cells hKc; clear hKn)
        | (go_at_call 41; refine (HQ.out _ (by exact hKc)).mono ?_; rintro e wl ⟨rfl, hRl, hKl⟩))
      all_goals
        have HRl := hide hRl
        have HKl := hide (HKr.out.trans ((KT.of_same (tra HK0.out (by assumption))).trans hKl))
        clear hRl hKl
        go_wp2_with fail
        go_roundg (gk - 1)
        case measure => omega
        case rel =>
          refine ⟨j + 1, by omega, by go_num, ?_, HKl⟩
          have h1 := HRl.out
          rw [HKV.out] at h1
          rw [Hid, HT.out, ← List.append_assoc]
          exact h1
    · have HT := hide (show l.take j = l from List.take_of_length_le (by omega))
      go_wp2_with fail
      refine (tkSign_any _ _).mono ?_
      rintro e w3 ⟨rfl, hK3⟩
      have HP := hide (put_1 w3 q _ 4 0 [41] (HRr.out.same hK3) HLT.out)
      go_wp2_with fail
      refine HP.out.mono ?_
      rintro e w4 ⟨rfl, hR4, hK4⟩
      have HR4 := hide hR4
      clear hR4
      go_wp2_with fail
      go_end0
      refine ⟨rfl, ?_, HKr.out.trans ((KT.of_same hK3).trans hK4)⟩
      have := HR4.out
      rw [HT.out] at this
      simpa [signT] using this

end Go.Proofs.YthiagmhijebbgaaGreatDoor

/- query.putSelect. -/
namespace Go.Proofs.YthiagmhijebbgaaGreatDoor
open Go.RowKit

def selTok1 (al nm : List UInt8) (args : List ArgT) (k : Sels) : List Tok :=
  (if al = [] then [] else [nameT al, signT [58]]) ++ [nameT nm] ++ (if args = [] then [] else signT [40] :: (argToks args ++ [signT [41]])) ++ (if k.len = 0 then [] else toksQ k)
theorem selToks_1 (al nm : List UInt8) (args : List ArgT) (k r : Sels) : selToks (.cons al nm args k r) = selTok1 al nm args k ++ selToks r := rfl

def PL (w : World) (q : Nat) (T : List Tok) (v : Value) (s : Sels) : Prop :=
  Calls Tryz.prog 22 #[.pointer (some ⟨q, 0, none⟩), v] w fun e w' => e = .returned (.tuple #[]) ∧ RowAt w' q (T ++ toksQ s) ∧ KT q w w'

/-- a select is put: what has been put of it, and where it lies -/
def SelP (w wx : World) (q : Nat) (T : List Tok) (A B : ByteArray) (va vk : Value) : Prop :=
  RowAt wx q T ∧ KT q w wx ∧ wx.heap[w.heap.size]? = some (.cells #[.string A, .string B, va, vk] 28 (0, 0))

section
variable {w wx w' : World} {q : Nat} {T T' : List Tok} {A B : ByteArray} {va vk : Value}
theorem SelP.cells (h : SelP w wx q T A B va vk) : wx.cell? ⟨w.heap.size, 0, none⟩ = some (.string A) ∧ wx.cell? ⟨w.heap.size, 1, none⟩ = some (.string B) ∧ wx.cell? ⟨w.heap.size, 2, none⟩ = some va ∧ wx.cell? ⟨w.heap.size, 3, none⟩ = some vk ∧ w.heap.size < wx.heap.size := by
  have e := h.2.2
  exact ⟨by simp [World.cell?, e], by simp [World.cell?, e], by simp [World.cell?, e], by simp [World.cell?, e], (Array.getElem?_eq_some_iff.1 e).1⟩
theorem SelP.step (h : SelP w wx q T A B va vk) (k : KT q wx w') (hR : RowAt w' q T') (hq : q < w.heap.size) : SelP w w' q T' A B va vk :=
  ⟨hR, h.2.1.trans k, KT.blk k h.2.2 (by omega) (by decide)⟩
theorem SelP.same (h : SelP w wx q T A B va vk) (k : Same wx w') (hq : q < w.heap.size) : SelP w w' q T A B va vk := h.step (KT.of_same k) (h.1.same k) hq
end

set_option maxRecDepth 20000 in
set_option maxHeartbeats 3200000 in
theorem putSelect_any (w : World) (q : Nat) (T : List Tok) (al nm : List UInt8) (args : List ArgT) (k : Sels) (aa ak : Option Addr) (ca ck : Nat) (h : RowAt w q T) (ha : ArgSlP (· < q) w (.slice aa args.length ca) args) (hk : SelSlP (· < q) w (.slice ak k.len ck) k)
    (hb : T.length + (selTok1 al nm args k).length ≤ 800000) (IH : ∀ (w1 : World) (T1 : List Tok), RowAt w1 q T1 → SelSlP (· < q) w1 (.slice ak k.len ck) k → T1.length + (toksQ k).length ≤ 800000 → PL w1 q T1 (.slice ak k.len ck) k) :
    Calls Tryz.prog 43 #[.pointer (some ⟨q, 0, none⟩), .agg #[.string ⟨al.toArray⟩, .string ⟨nm.toArray⟩, .slice aa args.length ca, .slice ak k.len ck]] w fun e w' => e = .returned (.tuple #[]) ∧ RowAt w' q (T ++ selTok1 al nm args k) ∧ KT q w w' := by
  have hq := h.lt
  have hml : args.length ≤ 9223372036854775807 := by obtain ⟨_, _, e, g, _⟩ := ha; exact g.1
  have hmk : k.len ≤ 9223372036854775807 := by obtain ⟨_, _, e, g, _⟩ := hk; exact g.1
  have HAR := hide ha
  have HKS := hide hk
  have HIH := hide IH
  obtain ⟨A, hA⟩ : ∃ A, A = (⟨al.toArray⟩ : ByteArray) := ⟨_, rfl⟩
  obtain ⟨B, hB⟩ : ∃ B, B = (⟨nm.toArray⟩ : ByteArray) := ⟨_, rfl⟩
  rw [← hA, ← hB]
  obtain ⟨a1, ha1⟩ : ∃ a1 : List Tok, a1 = (if al = [] then [] else [nameT al, signT [58]]) := ⟨_, rfl⟩
  obtain ⟨a2, ha2⟩ : ∃ a2 : List Tok, a2 = (if args = [] then [] else signT [40] :: (argToks args ++ [signT [41]])) := ⟨_, rfl⟩
  obtain ⟨a3, ha3⟩ : ∃ a3 : List Tok, a3 = (if k.len = 0 then [] else toksQ k) := ⟨_, rfl⟩
  have hsel : selTok1 al nm args k = a1 ++ [nameT nm] ++ a2 ++ a3 := by rw [ha1, ha2, ha3]; rfl
  have hlen : T.length + (a1.length + 1 + a2.length + a3.length) ≤ 800000 := by
    rw [hsel] at hb
    simp only [List.length_append, List.length_cons, List.length_nil] at hb
    omega
  have HSEL := hide hsel
  have HLEN := hide hlen
  have HA := hide hA
  have HB := hide hB
  have H1 := hide ha1
  have H2 := hide ha2
  have H3 := hide ha3
  obtain ⟨w0, hw0⟩ : ∃ w0, w0 = w.alloc (.cells #[.string A, .string B, .slice aa args.length ca, .slice ak k.len ck] 28) := ⟨_, rfl⟩
  have kA : Same w w0 := by rw [hw0]; exact (Kept.refl _ w).alloc _
  have hS0 : SelP w w0 q T A B (.slice aa args.length ca) (.slice ak k.len ck) := ⟨h.same kA, KT.of_same kA, by rw [hw0]; exact heap_alloc_new w _⟩
  clear h ha hk hb IH hA hB ha1 ha2 ha3 hsel hlen kA
  obtain ⟨c0, c1, c2, c3, hgl⟩ := hS0.cells
  go_enter Tryz.func43, Tryz.ntmps43
  go_upto_if 6 with fail
  rw [← hw0]
  clear hw0
  go_cut [] (fun wx => SelP w wx q (T ++ a1) A B (.slice aa args.length ca) (.slice ak k.len ck))
  case first =>
    cases he : A.toList.isEmpty with
    | true =>
      have hal : al = [] := by
        rw [ByteArray.toList_eq, HA.out] at he
        simpa using he
      go_wp2_with fail
      go_meet
      case rel =>
        have e1 := H1.out
        rw [if_pos hal] at e1
        rw [e1, List.append_nil]
        exact hS0
    | false =>
      have hal : al ≠ [] := by
        intro e
        rw [ByteArray.toList_eq, HA.out, e] at he
        cases he
      have HE1 := hide (show a1 = [nameT al, signT [58]] by rw [H1.out, if_neg hal])
      clear hal
      go_wp2_with fail
      refine (tkName_any _ _).mono ?_
      rintro e w1 ⟨rfl, hK1⟩
      go_wp2_with fail
      refine (tkSign_any _ _).mono ?_
      rintro e w2 ⟨rfl, hK2⟩
      have hS2 := (hS0.same hK1 hq).same hK2 hq
      have hP := put_2 w2 q T 1 0 4 0 al [58] hS2.1 (by have := HLEN.out; omega)
      rw [← HA.out] at hP
      have HP := hide hP
      clear hK1 hK2 hP
      go_wp2_with fail
      refine HP.out.mono ?_
      rintro e w3 ⟨rfl, hR3, hK3⟩
      have hS3 := hS2.step hK3 hR3 hq
      clear hR3 hK3
      go_wp2_with fail
      go_meet
      case rel =>
        rw [HE1.out]
        exact hS3
  case rest =>
  have hS1 := hcut
  clear hS0 c0 c1 c2 c3 hgl hcut
  obtain ⟨c0, c1, c2, c3, hgl⟩ := hS1.cells
  go_wp2_with fail
  refine (tkName_any _ _).mono ?_
  rintro e w1 ⟨rfl, hK1⟩
  have hS2 := hS1.same hK1 hq
  have hP := put_1 w1 q (T ++ a1) 1 0 nm hS2.1 (by have := HLEN.out; rw [List.length_append]; omega)
  rw [← HB.out] at hP
  have HP := hide hP
  clear hK1 hP
  go_wp2_with fail
  refine HP.out.mono ?_
  rintro e w2 ⟨rfl, hR2, hK2⟩
  have hS3 := hS2.step hK2 hR2 hq
  clear hR2 hK2 hS1 hS2 c0 c1 c2 c3 hgl HP
  obtain ⟨c0, c1, c2, c3, hgl⟩ := hS3.cells
  go_upto_if 23 with fail
  go_cut [] (fun wx => SelP w wx q (T ++ a1 ++ [⟨1, nm, 0⟩] ++ a2) A B (.slice aa args.length ca) (.slice ak k.len ck))
  case first =>
    by_cases hz : 0 < args.length
    · have HE2 := hide (show a2 = signT [40] :: (argToks args ++ [signT [41]]) by rw [H2.out, if_neg (by intro e; rw [e] at hz; cases hz)])
      have HPA := hide (putArgs_any w2 q (T ++ a1 ++ [⟨1, nm, 0⟩]) args aa ca hS3.1 (HAR.out.kt hS3.2.1 (fun _ h => h)) (by
        have h1 := HLEN.out
        have h2 := congrArg List.length HE2.out
        have h3 := argToks_len args
        simp only [List.length_append, List.length_cons, List.length_nil] at h2 ⊢
        omega))
      go_wp2_with fail
      refine HPA.out.mono ?_
      rintro e w4 ⟨rfl, hR4, hK4⟩
      have hS4 := hS3.step hK4 hR4 hq
      clear hR4 hK4
      go_wp2_with fail
      go_meet
      case rel => rw [HE2.out]; exact hS4
    · have hz0 : args.length = 0 := by omega
      have HE2 := hide (show a2 = [] by rw [H2.out, if_pos (List.length_eq_zero_iff.1 hz0)])
      clear hz0
      go_wp2_with fail
      go_meet
      case rel => rw [HE2.out, List.append_nil]; exact hS3
  case rest =>
  have hS4 := hcut
  clear hS3 c0 c1 c2 c3 hgl hcut
  obtain ⟨c0, c1, c2, c3, hgl⟩ := hS4.cells
  by_cases hz : 0 < k.len
  · have HE3 := hide (show a3 = toksQ k by rw [H3.out, if_neg (by omega)])
    have HPK := hide (HIH.out wc (T ++ a1 ++ [⟨1, nm, 0⟩] ++ a2) hS4.1 (HKS.out.kt hS4.2.1 (fun _ h => h)) (by
      have h1 := HLEN.out
      have h2 := congrArg List.length HE3.out
      simp only [List.length_append, List.length_cons, List.length_nil]
      omega))
    go_wp2_with fail
    refine HPK.out.mono ?_
    rintro e w5 ⟨rfl, hR5, hK5⟩
    have HS5 := hide (hS4.step hK5 hR5 hq)
    clear hR5 hK5
    go_wp2_with fail
    go_end0
    refine ⟨rfl, ?_, HS5.out.2.1⟩
    have := HS5.out.1
    rw [HSEL.out, HE3.out]
    simpa [nameT] using this
  · have HE3 := hide (show a3 = [] by rw [H3.out, if_pos (by omega)])
    go_wp2_with fail
    go_end0
    refine ⟨rfl, ?_, hS4.2.1⟩
    have := hS4.1
    rw [HSEL.out, HE3.out]
    simpa [nameT] using this

end Go.Proofs.YthiagmhijebbgaaGreatDoor

/- query's closures: the same name. -/
namespace Go.Proofs.YthiagmhijebbgaaGreatDoor
open Go.RowKit

theorem argSame_any (w : World) (g : Nat) (nm nm0 tx : ByteArray) (t : Bool) (n : Int) (hc : w.cell? ⟨g, 0, none⟩ = some (.string nm0)) :
    Calls Tryz.prog 76 #[.agg #[.string nm, .bool t, .string tx, .int .i64 n], .pointer (some ⟨g, 0, none⟩)] w fun e w' => e = .returned (.bool (decide (nm.data.toList = nm0.data.toList))) ∧ Same w w' := by
  have hg := World.block_lt_of_cell? w _ hc
  have hc2 : ∀ ob, (w.alloc ob).cell? ⟨g, 0, none⟩ = some (.string nm0) := fun ob => ((Kept.refl (fun _ => False) w).alloc ob).cell hc (fun f => f)
  go_enter Tryz.func76, Tryz.ntmps76
  go_wp2_with fail
  go_ret
  exact ⟨ret_bool (by rw [ByteArray.toList_eq, ByteArray.toList_eq, Bool.eq_iff_iff]; simp), (by repeat' (first | assumption | exact Kept.refl _ _ | refine Kept.drewN ?_ _ | refine Kept.drew ?_ | refine Kept.alloc ?_ _ | refine Kept.setB ?_ _ _))⟩

theorem argSame_is (w : World) (g : Nat) (nm nm0 tx : ByteArray) (t : Bool) (n : Int) (hc : w.cell? ⟨g, 0, none⟩ = some (.string nm0)) (q : Bool) (hq : decide (nm.data.toList = nm0.data.toList) = q) :
    Calls Tryz.prog 76 #[.agg #[.string nm, .bool t, .string tx, .int .i64 n], .pointer (some ⟨g, 0, none⟩)] w fun e w' => e = .returned (.bool q) ∧ Same w w' := by
  rw [← hq]; exact argSame_any w g nm nm0 tx t n hc

theorem ArgSl.at {w : World} {ao : Option Addr} {n cap : Nat} {l : List ArgT} (h : ArgSl w (.slice ao n cap) l) (i : Nat) (hi : i < l.length) : ∃ b off, ao = some ⟨b, off, none⟩ ∧
    w.cell? ⟨b, off + i * 4, none⟩ = some (.string ⟨l[i].name.toArray⟩) ∧ w.cell? ⟨b, off + i * 4 + 1, none⟩ = some (.bool l[i].isText) ∧ w.cell? ⟨b, off + i * 4 + 2, none⟩ = some (.string ⟨l[i].text.toArray⟩) ∧ w.cell? ⟨b, off + i * 4 + 3, none⟩ = some (.int .i64 l[i].n) := by
  obtain ⟨ao', cap', hv, _, h3⟩ := h
  cases hv
  exact h3 i l[i] (List.getElem?_eq_getElem hi)

set_option maxRecDepth 20000 in
set_option maxHeartbeats 1600000 in
theorem indexArgs_any (w : World) (v : Value) (l : List ArgT) (g : Nat) (nm0 : ByteArray) (h : ArgSl w v l) (hl : l.length ≤ 5) (hc : w.cell? ⟨g, 0, none⟩ = some (.string nm0)) :
    Calls Tryz.prog 99 #[v, .func (.func 76) #[] #[.pointer (some ⟨g, 0, none⟩)]] w fun e w' =>
      (∃ j : Nat, e = .returned (.int .i64 j) ∧ (l.any fun a => decide (a.name = nm0.data.toList)) = true ∧ Same w w') ∨ (e = .returned (.int .i64 (-1)) ∧ (l.any fun a => decide (a.name = nm0.data.toList)) = false ∧ Same w w') := by
  obtain ⟨ao, cap, rfl, _, _⟩ := id h
  have hcf : ∀ (args : Array Value) (w : World), (callFunc 76 args).run Tryz.prog w = .ok (.enter 76 args) w := by intro args w; kernel_rfl
  go_enter Tryz.func99, Tryz.ntmps99
  go_wp2_with fail
  go_loopg [8] l.length (fun gg i wr => ∃ j : Nat, j + gg = l.length ∧ i = .int .i64 j ∧ Same w wr ∧ Hid ((l.take j).any (fun a => decide (a.name = nm0.data.toList)) = false))
  case atStart => exact ⟨0, by omega, rfl, Kept.refl _ _, by simp [Hid]⟩
  case round =>
    obtain ⟨j, hj, rfl, hK, HN⟩ := hrel
    by_cases hlt : j < l.length
    · obtain ⟨b, off, rfl, c0, c1, c2, c3⟩ := (h.same hK).at j hlt
      have hcr := hK.cell hc (fun f => f)
      have HT := hide (show l.take (j + 1) = l.take j ++ [l[j]] from List.take_succ_eq_append_getElem hlt)
      have HM := hide (show l[j] ∈ l from List.getElem_mem hlt)
      obtain ⟨a, ha⟩ : ∃ a, a = l[j] := ⟨_, rfl⟩
      rw [← ha] at c0 c1 c2 c3 HT HM
      clear ha
      obtain ⟨q, hq⟩ : ∃ q, decide (a.name = nm0.data.toList) = q := ⟨_, rfl⟩
      have HS := hide (fun w hc => argSame_is w g ⟨a.name.toArray⟩ nm0 ⟨a.text.toArray⟩ a.isText a.n hc q (by simpa using hq))
      have HQ := hide hq
      clear hq
      go_wp2_with fail
      refine (HS.out _ (by exact hcr)).mono ?_
      rintro e w1 ⟨rfl, hK1⟩
      cases q
      · go_wp2_with fail
        go_roundg (gk - 1)
        case measure => omega
        case rel => exact ⟨j + 1, by omega, by go_num, hK.trans hK1 (fun _ _ f => f.elim), by rw [Hid, HT.out, List.any_append, HN.out]; simp; simpa using HQ.out⟩
      · go_wp2_with fail
        go_ret
        exact .inl ⟨j, rfl, List.any_eq_true.2 ⟨a, HM.out, HQ.out⟩, hK.trans hK1 (fun _ _ f => f.elim)⟩
    · go_wp2_with fail
      go_ret
      exact .inr ⟨rfl, by rw [← HN.out, List.take_of_length_le (by omega)], hK⟩

theorem containsArgs_is (w : World) (v : Value) (l : List ArgT) (g : Nat) (nm0 : ByteArray) (h : ArgSl w v l) (hl : l.length ≤ 5) (hc : w.cell? ⟨g, 0, none⟩ = some (.string nm0)) (q : Bool) (hq : (l.any fun a => decide (a.name = nm0.data.toList)) = q) :
    Calls Tryz.prog 77 #[v, .func (.func 76) #[] #[.pointer (some ⟨g, 0, none⟩)]] w fun e w' => e = .returned (.bool q) ∧ Same w w' := by
  have HI := hide (indexArgs_any w v l g nm0 h hl hc)
  have HQ := hide hq
  clear h hc hq
  go_enter Tryz.func77, Tryz.ntmps77
  go_wp2_with fail
  refine HI.out.mono ?_
  rintro e w1 (⟨j, rfl, ha, hK⟩ | ⟨rfl, ha, hK⟩)
  · have HA := hide ha
    clear ha
    go_wp2_with fail
    go_ret
    exact ⟨ret_bool (by rw [← HQ.out, HA.out]), hK⟩
  · have HA := hide ha
    clear ha
    go_wp2_with fail
    go_ret
    exact ⟨ret_bool (by rw [← HQ.out, HA.out]), hK⟩

end Go.Proofs.YthiagmhijebbgaaGreatDoor
