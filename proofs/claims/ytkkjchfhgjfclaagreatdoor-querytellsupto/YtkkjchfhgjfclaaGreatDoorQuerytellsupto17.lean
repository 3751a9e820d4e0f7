import Derived.Test.YtkkjchfhgjfclaaGreatDoorQuerytellsupto16
import Derived.Test.YtkkjchfhgjfclaaGreatDoorQuerytellsupto08
import Derived.Test.YtkkjchfhgjfclaaGreatDoorQuerytellsupto07
/- query.putSelect. -/
namespace Go.Proofs.YtkkjchfhgjfclaaGreatDoor
open Go.RowKit

def selTok1 (al nm : List UInt8) (args : List ArgT) (k : Sels) : List Tok :=
  (if al = [] then [] else [nameT al, signT [58]]) ++ [nameT nm] ++ (if args = [] then [] else signT [40] :: (argToks args ++ [signT [41]])) ++ (if k.len = 0 then [] else toksQ k)
theorem selToks_1 (al nm : List UInt8) (args : List ArgT) (k r : Sels) : selToks (.cons al nm args k r) = selTok1 al nm args k ++ selToks r := rfl

def PL (w : World) (q : Nat) (T : List Tok) (v : Value) (s : Sels) : Prop :=
  Calls Tryz.prog 22 #[.pointer (some ⟨q, 0, none⟩), v] w fun e w' => e = .returned (.tuple #[]) ∧ RowAt w' q (T ++ toksQ s) ∧ KT q w w'

/-- a select is put: what has been put of it, and where it lies -/
def SelP (w wx : World) (q : Nat) (T : List Tok) (A B : ByteArray) (va vk : Value) : Prop :=
  RowAt wx q T ∧ KT q w wx ∧ wx.heap[w.heap.size]? = some (.cells #[.string A, .string B, va, vk] 28 (0, 0))

section
variable {w wx w' : World} {q : Nat} {T T' : List Tok} {A B : ByteArray} {va vk : Value}
theorem SelP.cells (h : SelP w wx q T A B va vk) : wx.cell? ⟨w.heap.size, 0, none⟩ = some (.string A) ∧ wx.cell? ⟨w.heap.size, 1, none⟩ = some (.string B) ∧ wx.cell? ⟨w.heap.size, 2, none⟩ = some va ∧ wx.cell? ⟨w.heap.size, 3, none⟩ = some vk ∧ w.heap.size < wx.heap.size := by
  have e := h.2.2
  exact ⟨by simp [World.cell?, e], by simp [World.cell?, e], by simp [World.cell?, e], by simp [World.cell?, e], (Array.getElem?_eq_some_iff.1 e).1⟩
theorem SelP.step (h : SelP w wx q T A B va vk) (k : KT q wx w') (hR : RowAt w' q T') (hq : q < w.heap.size) : SelP w w' q T' A B va vk :=
  ⟨hR, h.2.1.trans k, KT.blk k h.2.2 (by omega) (by decide)⟩
theorem SelP.same (h : SelP w wx q T A B va vk) (k : Same wx w') (hq : q < w.heap.size) : SelP w w' q T A B va vk := h.step (KT.of_same k) (h.1.same k) hq
end

set_option maxRecDepth 20000 in
set_option maxHeartbeats 3200000 in
theorem putSelect_any (w : World) (q : Nat) (T : List Tok) (al nm : List UInt8) (args : List ArgT) (k : Sels) (aa ak : Option Addr) (ca ck : Nat) (h : RowAt w q T) (ha : ArgSlP (· < q) w (.slice aa args.length ca) args) (hk : SelSlP (· < q) w (.slice ak k.len ck) k)
    (hb : T.length + (selTok1 al nm args k).length ≤ 800000) (IH : ∀ (w1 : World) (T1 : List Tok), RowAt w1 q T1 → SelSlP (· < q) w1 (.slice ak k.len ck) k → T1.length + (toksQ k).length ≤ 800000 → PL w1 q T1 (.slice ak k.len ck) k) :
    Calls Tryz.prog 44 #[.pointer (some ⟨q, 0, none⟩), .agg #[.string ⟨al.toArray⟩, .string ⟨nm.toArray⟩, .slice aa args.length ca, .slice ak k.len ck]] w fun e w' => e = .returned (.tuple #[]) ∧ RowAt w' q (T ++ selTok1 al nm args k) ∧ KT q w w' := by
  have hq := h.lt
  have hml : args.length ≤ 9223372036854775807 := by obtain ⟨_, _, e, g, _⟩ := ha; exact g.1
  have hmk : k.len ≤ 9223372036854775807 := by obtain ⟨_, _, e, g, _⟩ := hk; exact g.1
  have HAR := hide ha
  have HKS := hide hk
  have HIH := hide IH
  obtain ⟨A, hA⟩ : ∃ A, A = (⟨al.toArray⟩ : ByteArray) := ⟨_, rfl⟩
  obtain ⟨B, hB⟩ : ∃ B, B = (⟨nm.toArray⟩ : ByteArray) := ⟨_, rfl⟩
  rw [← hA, ← hB]
  obtain ⟨a1, ha1⟩ : ∃ a1 : List Tok, a1 = (if al = [] then [] else [nameT al, signT [58]]) := ⟨_, rfl⟩
  obtain ⟨a2, ha2⟩ : ∃ a2 : List Tok, a2 = (if args = [] then [] else signT [40] :: (argToks args ++ [signT [41]])) := ⟨_, rfl⟩
  obtain ⟨a3, ha3⟩ : ∃ a3 : List Tok, a3 = (if k.len = 0 then [] else toksQ k) := ⟨_, rfl⟩
  have hsel : selTok1 al nm args k = a1 ++ [nameT nm] ++ a2 ++ a3 := by rw [ha1, ha2, ha3]; rfl
  have hlen : T.length + (a1.length + 1 + a2.length + a3.length) ≤ 800000 := by
    rw [hsel] at hb
    simp only [List.length_append, List.length_cons, List.length_nil] at hb
    omega
  have HSEL := hide hsel
  have HLEN := hide hlen
  have HA := hide hA
  have HB := hide hB
  have H1 := hide ha1
  have H2 := hide ha2
  have H3 := hide ha3
  obtain ⟨w0, hw0⟩ : ∃ w0, w0 = w.alloc (.cells #[.string A, .string B, .slice aa args.length ca, .slice ak k.len ck] 28) := ⟨_, rfl⟩
  have kA : Same w w0 := by rw [hw0]; exact (Kept.refl _ w).alloc _
  have hS0 : SelP w w0 q T A B (.slice aa args.length ca) (.slice ak k.len ck) := ⟨h.same kA, KT.of_same kA, by rw [hw0]; exact heap_alloc_new w _⟩
  clear h ha hk hb IH hA hB ha1 ha2 ha3 hsel hlen kA
  obtain ⟨c0, c1, c2, c3, hgl⟩ := hS0.cells
  go_enter Tryz.func44, Tryz.ntmps44
  go_upto_if 6 with fail
  rw [← hw0]
  clear hw0
  go_cut [] (fun wx => SelP w wx q (T ++ a1) A B (.slice aa args.length ca) (.slice ak k.len ck))
  case first =>
    cases he : A.toList.isEmpty with
    | true =>
      have hal : al = [] := by
        rw [ByteArray.toList_eq, HA.out] at he
        simpa using he
      go_wp2_with fail
      go_meet
      case rel =>
        have e1 := H1.out
        rw [if_pos hal] at e1
        rw [e1, List.append_nil]
        exact hS0
    | false =>
      have hal : al ≠ [] := by
        intro e
        rw [ByteArray.toList_eq, HA.out, e] at he
        cases he
      have HE1 := hide (show a1 = [nameT al, signT [58]] by rw [H1.out, if_neg hal])
      clear hal
      go_wp2_with fail
      refine (tkName_any _ _).mono ?_
      rintro e w1 ⟨rfl, hK1⟩
      go_wp2_with fail
      refine (tkSign_any _ _).mono ?_
      rintro e w2 ⟨rfl, hK2⟩
      have hS2 := (hS0.same hK1 hq).same hK2 hq
      have hP := put_2 w2 q T 1 0 4 0 al [58] hS2.1 (by have := HLEN.out; omega)
      rw [← HA.out] at hP
      have HP := hide hP
      clear hK1 hK2 hP
      go_wp2_with fail
      refine HP.out.mono ?_
      rintro e w3 ⟨rfl, hR3, hK3⟩
      have hS3 := hS2.step hK3 hR3 hq
      clear hR3 hK3
      go_wp2_with fail
      go_meet
      case rel =>
        rw [HE1.out]
        exact hS3
  case rest =>
  have hS1 := hcut
  clear hS0 c0 c1 c2 c3 hgl hcut
  obtain ⟨c0, c1, c2, c3, hgl⟩ := hS1.cells
  go_wp2_with fail
  refine (tkName_any _ _).mono ?_
  rintro e w1 ⟨rfl, hK1⟩
  have hS2 := hS1.same hK1 hq
  have hP := put_1 w1 q (T ++ a1) 1 0 nm hS2.1 (by have := HLEN.out; rw [List.length_append]; omega)
  rw [← HB.out] at hP
  have HP := hide hP
  clear hK1 hP
  go_wp2_with fail
  refine HP.out.mono ?_
  rintro e w2 ⟨rfl, hR2, hK2⟩
  have hS3 := hS2.step hK2 hR2 hq
  clear hR2 hK2 hS1 hS2 c0 c1 c2 c3 hgl HP
  obtain ⟨c0, c1, c2, c3, hgl⟩ := hS3.cells
  go_upto_if 23 with fail
  go_cut [] (fun wx => SelP w wx q (T ++ a1 ++ [⟨1, nm, 0⟩] ++ a2) A B (.slice aa args.length ca) (.slice ak k.len ck))
  case first =>
    by_cases hz : 0 < args.length
    · have HE2 := hide (show a2 = signT [40] :: (argToks args ++ [signT [41]]) by rw [H2.out, if_neg (by intro e; rw [e] at hz; cases hz)])
      have HPA := hide (putArgs_any w2 q (T ++ a1 ++ [⟨1, nm, 0⟩]) args aa ca hS3.1 (HAR.out.kt hS3.2.1 (fun _ h => h)) (by
        have h1 := HLEN.out
        have h2 := congrArg List.length HE2.out
        have h3 := argToks_len args
        simp only [List.length_append, List.length_cons, List.length_nil] at h2 ⊢
        omega))
      go_wp2_with fail
      refine HPA.out.mono ?_
      rintro e w4 ⟨rfl, hR4, hK4⟩
      have hS4 := hS3.step hK4 hR4 hq
      clear hR4 hK4
      go_wp2_with fail
      go_meet
      case rel => rw [HE2.out]; exact hS4
    · have hz0 : args.length = 0 := by omega
      have HE2 := hide (show a2 = [] by rw [H2.out, if_pos (List.length_eq_zero_iff.1 hz0)])
      clear hz0
      go_wp2_with fail
      go_meet
      case rel => rw [HE2.out, List.append_nil]; exact hS3
  case rest =>
  have hS4 := hcut
  clear hS3 c0 c1 c2 c3 hgl hcut
  obtain ⟨c0, c1, c2, c3, hgl⟩ := hS4.cells
  by_cases hz : 0 < k.len
  · have HE3 := hide (show a3 = toksQ k by rw [H3.out, if_neg (by omega)])
    have HPK := hide (HIH.out wc (T ++ a1 ++ [⟨1, nm, 0⟩] ++ a2) hS4.1 (HKS.out.kt hS4.2.1 (fun _ h => h)) (by
      have h1 := HLEN.out
      have h2 := congrArg List.length HE3.out
      simp only [List.length_append, List.length_cons, List.length_nil]
      omega))
    go_wp2_with fail
    refine HPK.out.mono ?_
    rintro e w5 ⟨rfl, hR5, hK5⟩
    have HS5 := hide (hS4.step hK5 hR5 hq)
    clear hR5 hK5
    go_wp2_with fail
    go_end0
    refine ⟨rfl, ?_, HS5.out.2.1⟩
    have := HS5.out.1
    rw [HSEL.out, HE3.out]
    simpa [nameT] using this
  · have HE3 := hide (show a3 = [] by rw [H3.out, if_pos (by omega)])
    go_wp2_with fail
    go_end0
    refine ⟨rfl, ?_, hS4.2.1⟩
    have := hS4.1
    rw [HSEL.out, HE3.out]
    simpa [nameT] using this

end Go.Proofs.YtkkjchfhgjfclaaGreatDoor

/- query's closures: the same name. -/
namespace Go.Proofs.YtkkjchfhgjfclaaGreatDoor
open Go.RowKit

theorem argSame_any (w : World) (g : Nat) (nm nm0 tx : ByteArray) (t : Bool) (n : Int) (hc : w.cell? ⟨g, 0, none⟩ = some (.string nm0)) :
    Calls Tryz.prog 77 #[.agg #[.string nm, .bool t, .string tx, .int .i64 n], .pointer (some ⟨g, 0, none⟩)] w fun e w' => e = .returned (.bool (decide (nm.data.toList = nm0.data.toList))) ∧ Same w w' := by
  have hg := World.block_lt_of_cell? w _ hc
  have hc2 : ∀ ob, (w.alloc ob).cell? ⟨g, 0, none⟩ = some (.string nm0) := fun ob => ((Kept.refl (fun _ => False) w).alloc ob).cell hc (fun f => f)
  go_enter Tryz.func77, Tryz.ntmps77
  go_wp2_with fail
  go_ret
  exact ⟨ret_bool (by rw [ByteArray.toList_eq, ByteArray.toList_eq, Bool.eq_iff_iff]; simp), (by repeat' (first | assumption | exact Kept.refl _ _ | refine Kept.drewN ?_ _ | refine Kept.drew ?_ | refine Kept.alloc ?_ _ | refine Kept.setB ?_ _ _))⟩

theorem argSame_is (w : World) (g : Nat) (nm nm0 tx : ByteArray) (t : Bool) (n : Int) (hc : w.cell? ⟨g, 0, none⟩ = some (.string nm0)) (q : Bool) (hq : decide (nm.data.toList = nm0.data.toList) = q) :
    Calls Tryz.prog 77 #[.agg #[.string nm, .bool t, .string tx, .int .i64 n], .pointer (some ⟨g, 0, none⟩)] w fun e w' => e = .returned (.bool q) ∧ Same w w' := by
  rw [← hq]; exact argSame_any w g nm nm0 tx t n hc

theorem ArgSl.at {w : World} {ao : Option Addr} {n cap : Nat} {l : List ArgT} (h : ArgSl w (.slice ao n cap) l) (i : Nat) (hi : i < l.length) : ∃ b off, ao = some ⟨b, off, none⟩ ∧
    w.cell? ⟨b, off + i * 4, none⟩ = some (.string ⟨l[i].name.toArray⟩) ∧ w.cell? ⟨b, off + i * 4 + 1, none⟩ = some (.bool l[i].isText) ∧ w.cell? ⟨b, off + i * 4 + 2, none⟩ = some (.string ⟨l[i].text.toArray⟩) ∧ w.cell? ⟨b, off + i * 4 + 3, none⟩ = some (.int .i64 l[i].n) := by
  obtain ⟨ao', cap', hv, _, h3⟩ := h
  cases hv
  exact h3 i l[i] (List.getElem?_eq_getElem hi)

set_option maxRecDepth 20000 in
set_option maxHeartbeats 1600000 in
theorem indexArgs_any (w : World) (v : Value) (l : List ArgT) (g : Nat) (nm0 : ByteArray) (h : ArgSl w v l) (hl : l.length ≤ 5) (hc : w.cell? ⟨g, 0, none⟩ = some (.string nm0)) :
    Calls Tryz.prog 105 #[v, .func (.func 77) #[] #[.pointer (some ⟨g, 0, none⟩)]] w fun e w' =>
      (∃ j : Nat, e = .returned (.int .i64 j) ∧ (l.any fun a => decide (a.name = nm0.data.toList)) = true ∧ Same w w') ∨ (e = .returned (.int .i64 (-1)) ∧ (l.any fun a => decide (a.name = nm0.data.toList)) = false ∧ Same w w') := by
  obtain ⟨ao, cap, rfl, _, _⟩ := id h
  have hcf : ∀ (args : Array Value) (w : World), (callFunc 77 args).run Tryz.prog w = .ok (.enter 77 args) w := by intro args w; kernel_rfl
  go_enter Tryz.func105, Tryz.ntmps105
  go_wp2_with fail
  go_loopg [8] l.length (fun gg i wr => ∃ j : Nat, j + gg = l.length ∧ i = .int .i64 j ∧ Same w wr ∧ Hid ((l.take j).any (fun a => decide (a.name = nm0.data.toList)) = false))
  case atStart => exact ⟨0, by omega, rfl, Kept.refl _ _, by simp [Hid]⟩
  case round =>
    obtain ⟨j, hj, rfl, hK, HN⟩ := hrel
    by_cases hlt : j < l.length
    · obtain ⟨b, off, rfl, c0, c1, c2, c3⟩ := (h.same hK).at j hlt
      have hcr := hK.cell hc (fun f => f)
      have HT := hide (show l.take (j + 1) = l.take j ++ [l[j]] from List.take_succ_eq_append_getElem hlt)
      have HM := hide (show l[j] ∈ l from List.getElem_mem hlt)
      obtain ⟨a, ha⟩ : ∃ a, a = l[j] := ⟨_, rfl⟩
      rw [← ha] at c0 c1 c2 c3 HT HM
      clear ha
      obtain ⟨q, hq⟩ : ∃ q, decide (a.name = nm0.data.toList) = q := ⟨_, rfl⟩
      have HS := hide (fun w hc => argSame_is w g ⟨a.name.toArray⟩ nm0 ⟨a.text.toArray⟩ a.isText a.n hc q (by simpa using hq))
      have HQ := hide hq
      clear hq
      go_wp2_with fail
      refine (HS.out _ (by exact hcr)).mono ?_
      rintro e w1 ⟨rfl, hK1⟩
      cases q
      · go_wp2_with fail
        go_roundg (gk - 1)
        case measure => omega
        case rel => exact ⟨j + 1, by omega, by go_num, hK.trans hK1 (fun _ _ f => f.elim), by rw [Hid, HT.out, List.any_append, HN.out]; simp; simpa using HQ.out⟩
      · go_wp2_with fail
        go_ret
        exact .inl ⟨j, rfl, List.any_eq_true.2 ⟨a, HM.out, HQ.out⟩, hK.trans hK1 (fun _ _ f => f.elim)⟩
    · go_wp2_with fail
      go_ret
      exact .inr ⟨rfl, by rw [← HN.out, List.take_of_length_le (by omega)], hK⟩

theorem containsArgs_is (w : World) (v : Value) (l : List ArgT) (g : Nat) (nm0 : ByteArray) (h : ArgSl w v l) (hl : l.length ≤ 5) (hc : w.cell? ⟨g, 0, none⟩ = some (.string nm0)) (q : Bool) (hq : (l.any fun a => decide (a.name = nm0.data.toList)) = q) :
    Calls Tryz.prog 78 #[v, .func (.func 77) #[] #[.pointer (some ⟨g, 0, none⟩)]] w fun e w' => e = .returned (.bool q) ∧ Same w w' := by
  have HI := hide (indexArgs_any w v l g nm0 h hl hc)
  have HQ := hide hq
  clear h hc hq
  go_enter Tryz.func78, Tryz.ntmps78
  go_wp2_with fail
  refine HI.out.mono ?_
  rintro e w1 (⟨j, rfl, ha, hK⟩ | ⟨rfl, ha, hK⟩)
  · have HA := hide ha
    clear ha
    go_wp2_with fail
    go_ret
    exact ⟨ret_bool (by rw [← HQ.out, HA.out]), hK⟩
  · have HA := hide ha
    clear ha
    go_wp2_with fail
    go_ret
    exact ⟨ret_bool (by rw [← HQ.out, HA.out]), hK⟩

end Go.Proofs.YtkkjchfhgjfclaaGreatDoor

/- query.wrongArgs, whatever it is handed. -/
namespace Go.Proofs.YtkkjchfhgjfclaaGreatDoor
open Go.RowKit

theorem wrongA_step (seen : List (List UInt8)) (a : ArgT) (r : List ArgT) :
    wrongA seen (a :: r) = if wrongT (nameT a.name) ≠ 0 then wrongT (nameT a.name) else if seen.contains a.name then 6 else if wrongT (valueT a) ≠ 0 then wrongT (valueT a) else wrongA (seen ++ [a.name]) r := by rw [wrongA]

/-- what is wrong with arguments, all of them -/
def argsE (l : List ArgT) : Int := if 5 < l.length then 2 else wrongA [] l

theorem ArgSl.take {w : World} {ao : Option Addr} {n cap : Nat} {l : List ArgT} (h : ArgSl w (.slice ao n cap) l) (j : Nat) (hj : j ≤ l.length) : ArgSl w (.slice ao j cap) (l.take j) := by
  obtain ⟨ao', cap', hv, hm, h3⟩ := h
  cases hv
  refine ⟨ao, cap, by rw [List.length_take, Nat.min_eq_left hj], by rw [List.length_take]; exact ⟨by omega, by omega⟩, fun i a ha => ?_⟩
  rw [List.getElem?_take] at ha
  split at ha
  · exact h3 i a ha
  · cases ha

theorem cells4 {w : World} {g : Nat} {x y z u : Value} {t : TypeId} (h : w.heap[g]? = some (.cells #[x, y, z, u] t (0, 0))) :
    w.cell? ⟨g, 0, none⟩ = some x ∧ w.cell? ⟨g, 1, none⟩ = some y ∧ w.cell? ⟨g, 2, none⟩ = some z ∧ w.cell? ⟨g, 3, none⟩ = some u := by
  simp [World.cell?, h]

set_option maxRecDepth 20000 in
set_option maxHeartbeats 3200000 in
theorem wrongArgs_any (w : World) (v : Value) (l : List ArgT) (h : ArgSl w v l) :
    Calls Tryz.prog 58 #[v] w fun e w' => e = .returned (.int .i64 (argsE l)) ∧ Same w w' := by
  obtain ⟨ao, cap, rfl, hmax, _⟩ := id h
  have hmf : ∀ (fn : Fn) (first cap : Array Value) (w : World), (Instr.makeFunc fn first cap).run Tryz.prog w = .ok (.func fn first cap) w := fun _ _ _ _ => rfl
  by_cases hbig : 5 < l.length
  · have HF := hide (show argsE l = 2 by unfold argsE; rw [if_pos hbig])
    clear hmax
    go_enter Tryz.func58, Tryz.ntmps58
    go_wp2_with fail
    go_ret
    exact ⟨ret_int HF.out.symm, Kept.refl _ _⟩
  · have HF := hide (show argsE l = wrongA [] l by unfold argsE; rw [if_neg hbig])
    have hl5 : l.length ≤ 5 := by omega
    have hcap := hmax.2
    clear hmax hbig
    go_enter Tryz.func58, Tryz.ntmps58
    go_wp2_with fail
    go_loopg [13] l.length (fun g i wr => ∃ j : Nat, j + g = l.length ∧ i = .int .i64 j ∧ Same w wr ∧ Hid (wrongA [] l = wrongA ((l.take j).map (·.name)) (l.drop j)))
    case atStart => exact ⟨0, by omega, rfl, Kept.refl _ _, rfl⟩
    case round =>
      obtain ⟨j, hj, rfl, hK, HE⟩ := hrel
      by_cases hlt : j < l.length
      · obtain ⟨b, off, rfl, c0, c1, c2, c3⟩ := (h.same hK).at j hlt
        have HS := hide (show wrongA [] l = _ from by rw [HE.out, List.drop_eq_getElem_cons hlt, wrongA_step])
        have HMEM := hide (show l.take (j + 1) = l.take j ++ [l[j]] from List.take_succ_eq_append_getElem hlt)
        obtain ⟨a, ha⟩ : ∃ a, a = l[j] := ⟨_, rfl⟩
        rw [← ha] at c0 c1 c2 c3 HS HMEM
        clear ha
        obtain ⟨m, hm⟩ : ∃ m, m = wrongT (nameT a.name) := ⟨_, rfl⟩
        have HM := hide hm
        have HWN := hide (fun w => wrongName_is w a.name m hm.symm)
        clear hm
        go_wp2_with fail
        refine (HWN.out _).mono ?_
        rintro e w2 ⟨rfl, hK1⟩
        have hb2 := new_kept hK1 (fun f => f)
        have hKb : Same w w2 := tra (hK.alloc _) hK1
        clear hK1 HWN
        by_cases hm0 : m = 0
        · have HM0 := hide (show wrongT (nameT a.name) = 0 by rw [← HM.out]; exact hm0)
          subst hm0
          obtain ⟨g0, g1, g2, g3⟩ := cells4 hb2
          obtain ⟨q, hq⟩ : ∃ q, ((l.take j).any fun x => decide (x.name = (⟨a.name.toArray⟩ : ByteArray).data.toList)) = q := ⟨_, rfl⟩
          have HCF := hide (containsArgs_is w2 _ (l.take j) wr.heap.size ⟨a.name.toArray⟩ ((h.same hKb).take j (by omega)) (by rw [List.length_take]; omega) g0 q hq)
          have HQ := hide (show ((l.take j).map (·.name)).contains a.name = q by
            rw [← hq, Bool.eq_iff_iff, List.contains_iff_mem, List.mem_map, List.any_eq_true]
            exact ⟨fun ⟨x, h1, h2⟩ => ⟨x, h1, decide_eq_true h2⟩, fun ⟨x, h1, h2⟩ => ⟨x, h1, of_decide_eq_true h2⟩⟩)
          clear hq
          go_wp2_with fail
          refine HCF.out.mono ?_
          rintro e w3 ⟨rfl, hK3⟩
          have hKc : Same w w3 := tra hKb hK3
          have hwz : wr.heap.size < w2.heap.size := World.block_lt_of_cell? w2 _ g0
          have hb3 := (hK3.block wr.heap.size hwz (fun f => f)).trans hb2
          obtain ⟨p0, p1, p2, p3⟩ := cells4 hb3
          clear g0 g1 g2 g3 hb2 hb3 HCF
          cases q
          · go_wp2_with fail
            refine (valueToken_any _ _ _ _ _).mono ?_
            rintro e w4 ⟨kd, rfl, hkd, hK4⟩
            have hKd : Same w w4 := tra hKc hK4
            have hc5 := check_any _ _ _ (tok_new w4 kd a.n a.text)
            rw [check_one] at hc5
            obtain ⟨m2, hm2⟩ : ∃ m2, m2 = wrongT (valueT a) := ⟨_, rfl⟩
            rw [show wrongT ⟨kd, a.text, a.n⟩ = m2 by rw [hm2, hkd]; unfold valueT; cases a.isText <;> rfl] at hc5
            have HM2 := hide hm2
            have HC5 := hide hc5
            clear hc5 hm2 hkd
            go_wp2_with fail
            refine HC5.out.mono ?_
            rintro e w5 ⟨rfl, hK5⟩
            have hKe : Same w w5 := tra (hKd.alloc _) hK5
            by_cases hm20 : m2 = 0
            · have HM20 := hide (show wrongT (valueT a) = 0 by rw [← HM2.out]; exact hm20)
              subst hm20
              go_wp2_with fail
              go_roundg (gk - 1)
              case measure => omega
              case rel => exact ⟨j + 1, by omega, by go_num, hKe, by rw [Hid, HS.out, HM0.out, HQ.out, HM20.out, HMEM.out, List.map_append]; rfl⟩
            · have hm21 : (m2 != 0) = true := by simp [hm20]
              have HM21 := hide hm20
              clear hm20
              go_wp2_with fail
              go_ret
              exact ⟨ret_int (by rw [HF.out, HS.out, HM0.out, HQ.out, if_neg (by simp), if_neg (by simp), if_pos (by rw [← HM2.out]; exact HM21.out), ← HM2.out]), hKe⟩
          · go_wp2_with fail
            go_ret
            exact ⟨ret_int (by rw [HF.out, HS.out, HM0.out, HQ.out]; rfl), hKc⟩
        · have hm1 : (m != 0) = true := by simp [hm0]
          have HM1 := hide hm0
          clear hm0
          go_wp2_with fail
          go_ret
          exact ⟨ret_int (by rw [HF.out, HS.out, if_pos (by rw [← HM.out]; exact HM1.out), HM.out]), hKb⟩
      · go_wp2_with fail
        go_ret
        exact ⟨ret_int (by rw [HF.out, HE.out, List.drop_eq_nil_of_le (by omega)]; rfl), hK⟩

end Go.Proofs.YtkkjchfhgjfclaaGreatDoor
