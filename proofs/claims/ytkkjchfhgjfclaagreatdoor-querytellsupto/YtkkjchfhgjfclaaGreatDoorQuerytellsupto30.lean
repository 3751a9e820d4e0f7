import Derived.Test.YtkkjchfhgjfclaaGreatDoorQuerytellsupto17
import Derived.Test.YtkkjchfhgjfclaaGreatDoorQuerytellsupto19
import Derived.Test.YtkkjchfhgjfclaaGreatDoorQuerytellsupto25
import Derived.Test.YtkkjchfhgjfclaaGreatDoorQuerytellsupto29
import Derived.Test.YtkkjchfhgjfclaaGreatDoorQuerytellsupto18
import Derived.Laws.StructEq
/- query.putList, query.Print. -/
namespace Go.Proofs.YtkkjchfhgjfclaaGreatDoor
open Go.RowKit

theorem selAtP_app {P : Nat → Prop} {w : World} {b : Nat} (p : Sels) : ∀ (s : Sels) (o : Nat), SelAtP P w (appS p s) b o → SelAtP P w s b (o + p.len * 4) := by
  induction p with
  | nil => intro s o h; simpa [Sels.len, appS] using h
  | cons al nm args k r _ ih =>
    rintro s o ⟨h0, h1, h2, h3, h4⟩
    have := ih _ _ h4
    rw [Sels.len, show o + (r.len + 1) * 4 = o + 4 + r.len * 4 from by omega]
    exact this

theorem toksQ_len (s : Sels) : (toksQ s).length = (selToks s).length + 2 := by simp [toksQ]

set_option maxRecDepth 20000 in
set_option maxHeartbeats 3200000 in
theorem putList_step (m : Nat) (IH : ∀ m', m' < m → ∀ (s : Sels), s.size' = m' → ∀ (w : World) (q : Nat) (T : List Tok) (ao : Option Addr) (cap : Nat), RowAt w q T → SelSlP (· < q) w (.slice ao s.len cap) s → T.length + (toksQ s).length ≤ 800000 → PL w q T (.slice ao s.len cap) s)
    (s : Sels) (hs : s.size' = m) (w : World) (q : Nat) (T : List Tok) (ao : Option Addr) (cap : Nat) (h : RowAt w q T) (hv : SelSlP (· < q) w (.slice ao s.len cap) s) (hb : T.length + (toksQ s).length ≤ 800000) : PL w q T (.slice ao s.len cap) s := by
  unfold PL
  have hml : s.len ≤ 9223372036854775807 := by obtain ⟨_, _, e, g, _⟩ := hv; exact g.1
  have HR := hide h
  have HV := hide hv
  have HIH := hide IH
  have HSZ := hide hs
  have HBB := hide (show T.length + ((selToks s).length + 2) ≤ 800000 by rw [toksQ_len] at hb; exact hb)
  clear h hv IH hs hb
  go_enter Tryz.func22, Tryz.ntmps22
  go_wp2_with fail
  refine (tkSign_any _ _).mono ?_
  rintro e w1 ⟨rfl, hK1⟩
  have HP := hide (put_1 w1 q T 4 0 [123] (HR.out.same hK1) (by have := HBB.out; omega))
  go_wp2_with fail
  refine HP.out.mono ?_
  rintro e w2 ⟨rfl, hR2, hK2⟩
  have HR2 := hide hR2
  have HK2 := hide ((KT.of_same hK1).trans hK2)
  clear hR2 hK1 hK2 HP
  go_wp2_with fail
  go_loopg [12] s.len (fun g i wr => ∃ (j : Nat) (p x : Sels), x.len ≤ g ∧ g ≤ x.len ∧ j + x.len ≤ s.len ∧ s.len ≤ j + x.len ∧ i = .int .i64 j ∧ Hid (p.len = j) ∧ Hid (s = appS p x) ∧ Hid (RowAt wr q (T ++ [⟨4, [123], 0⟩] ++ selToks p)) ∧ Hid (KT q w wr))
  case atStart => exact ⟨0, .nil, s, Nat.le_refl _, Nat.le_refl _, by omega, by omega, rfl, rfl, rfl, by rw [Hid]; simpa [selToks] using HR2.out, HK2⟩
  case round =>
    obtain ⟨j, p, x, hg1, hg2, hj1, hj2, rfl, HPL, HFP, HRr, HKr⟩ := hrel
    cases x with
    | nil =>
      have HT := hide (show s = p by rw [HFP.out, appS_nil])
      have HLT := hide (show (T ++ ([⟨4, [123], 0⟩] : List Tok) ++ selToks p).length ≤ 900000 by
        have h1 := HBB.out
        rw [HT.out] at h1
        simp only [List.length_append, List.length_cons, List.length_nil]
        omega)
      simp only [Sels.len] at hg1 hg2 hj1 hj2
      go_wp2_with fail
      refine (tkSign_any _ _).mono ?_
      rintro e w3 ⟨rfl, hK3⟩
      have HP := hide (put_1 w3 q _ 4 0 [125] (HRr.out.same hK3) HLT.out)
      go_wp2_with fail
      refine HP.out.mono ?_
      rintro e w4 ⟨rfl, hR4, hK4⟩
      have HR4 := hide hR4
      clear hR4
      go_wp2_with fail
      go_end0
      refine ⟨rfl, ?_, HKr.out.trans ((KT.of_same hK3).trans hK4)⟩
      have := HR4.out
      rw [HT.out]
      simpa [signT, toksQ] using this
    | cons al nm args k r =>
      simp only [Sels.len] at hg1 hg2 hj1 hj2
      have HTK := hide (show selToks (appS p (.cons al nm args k .nil)) = selToks p ++ selTok1 al nm args k by rw [appS_toks, selToks_1, selToks, List.append_nil])
      have HLS := hide (show T.length + ((selToks p).length + ((selTok1 al nm args k).length + (selToks r).length) + 2) ≤ 800000 by
        have h1 := HBB.out
        rw [HFP.out, appS_toks, selToks_1, List.length_append, List.length_append] at h1
        omega)
      have HKM := hide (show k.size' < m by
        have h1 := congrArg Sels.size' HFP.out
        rw [appS_size, Sels.size', HSZ.out] at h1
        omega)
      obtain ⟨b, o, rfl, hbq, hat⟩ : ∃ b o, ao = some ⟨b, o, none⟩ ∧ b < q ∧ SelAtP (· < q) wr s b o := by
        obtain ⟨ao', cap', e, _, h⟩ := HV.out.kt HKr.out (fun _ h => h)
        cases e
        rcases h with h | ⟨b, o, e, hb, h⟩
        · rw [h] at hj1; simp [Sels.len] at hj1
        · exact ⟨b, o, e, hb, h⟩
      rw [HFP.out] at hat
      obtain ⟨h0, h1, ⟨va, h2, ha⟩, ⟨ao', cap', h3, hl3, hs3⟩, hr⟩ := selAtP_app p _ _ hat
      rw [HPL.out] at h0 h1 h2 h3
      obtain ⟨aoa, capa, rfl, _, _⟩ := id ha
      have kA : ∀ y, Same wr (wr.alloc y) := fun y => (Kept.refl _ wr).alloc y
      have hkeep : ∀ b, b < wr.heap.size → b < q → ¬ False ∧ b < q := fun b _ hb => ⟨fun f => f, hb⟩
      have HPS := hide (fun y => putSelect_any (wr.alloc y) q (T ++ [⟨4, [123], 0⟩] ++ selToks p) al nm args k aoa ao' capa cap' (HRr.out.same (kA y)) (ha.keep (kA y) hkeep) ((show SelSlP (· < q) wr (.slice ao' k.len cap') k from ⟨ao', cap', rfl, hl3, hs3⟩).keep (kA y) hkeep) (by
          have := HLS.out
          simp only [List.length_append, List.length_cons, List.length_nil]
          omega) (fun w1 T1 hR hS hB => HIH.out k.size' HKM.out k rfl w1 q T1 ao' cap' hR hS hB))
      have HKA := hide kA
      clear kA hkeep hr ha hs3 hl3 hat
      go_wp2_with fail
      refine (HPS.out _).mono ?_
      rintro e w3 ⟨rfl, hR3, hK3⟩
      have HR3 := hide hR3
      have HK3 := hide (HKr.out.trans ((KT.of_same (HKA.out _)).trans hK3))
      clear hR3 hK3 HPS
      go_wp2_with fail
      go_roundg (gk - 1)
      case measure => omega
      case rel =>
        refine ⟨j + 1, appS p (.cons al nm args k .nil), r, by omega, by omega, by omega, by omega, by go_num, ?_, ?_, ?_, HK3⟩
        · rw [Hid, appS_len, HPL.out]; rfl
        · rw [Hid, appS_snoc]; exact HFP.out
        · rw [Hid, HTK.out, ← List.append_assoc]; exact HR3.out

theorem putList_any (m : Nat) : ∀ (s : Sels), s.size' = m → ∀ (w : World) (q : Nat) (T : List Tok) (ao : Option Addr) (cap : Nat), RowAt w q T → SelSlP (· < q) w (.slice ao s.len cap) s → T.length + (toksQ s).length ≤ 800000 → PL w q T (.slice ao s.len cap) s := by
  induction m using Nat.strongRecOn with
  | ind m ih => exact fun s hs w q T ao cap h hv hb => putList_step m ih s hs w q T ao cap h hv hb

theorem selToks_max (s : Sels) : eachR s → (selToks s).length ≤ 30 * s.size' := by
  induction s with
  | nil => intro _; simp [selToks]
  | cons al nm args k r ihk ihr =>
    rintro ⟨h1, h2, h3⟩
    have g := (wrongS_ok h1).2.2.1
    have gk := ihk ((wrongQ_iff _ _).1 h2).1
    have gr := ihr h3
    have l1 : (if al = [] then [] else [nameT al, signT [58]]).length ≤ 2 := by split <;> simp
    have l2 : (if args = [] then [] else signT [40] :: (argToks args ++ [signT [41]])).length ≤ 17 := by
      split
      · simp
      · simp [argToks_len]; omega
    have l3 : (if k.len = 0 then [] else toksQ k).length ≤ (selToks k).length + 2 := by
      split
      · simp
      · rw [toksQ_len]; exact Nat.le_refl _
    rw [selToks_1, Sels.size', List.length_append]
    have l4 : (selTok1 al nm args k).length ≤ 2 + 1 + 17 + ((selToks k).length + 2) := by
      rw [selTok1]
      simp only [List.length_append, List.length_cons, List.length_nil]
      omega
    omega

set_option maxRecDepth 20000 in
set_option maxHeartbeats 1600000 in
theorem qPrint_any (w : World) (v : Value) (l : Sels) (h : SelSl w v l) (ht : Tab w) :
    Calls Tryz.prog 8 #[v] w fun e w' =>
      (checkQ l = 0 ∧ e = .returned (.tuple #[.string ⟨(printQ l).toArray⟩, .int .i64 0]) ∧ Same w w') ∨ (checkQ l ≠ 0 ∧ e = .returned (.tuple #[.string ⟨#[]⟩, .int .i64 (checkQ l)]) ∧ Same w w') := by
  obtain ⟨m, hm⟩ : ∃ m, checkQ l = m := ⟨_, rfl⟩
  have hck := qCheck_any w v l h
  rw [hm] at hck ⊢
  have HCK := hide hck
  have HM := hide hm
  have HH := hide h.below
  have HT := hide ht
  obtain ⟨ao, cap, rfl, hlm, _⟩ := id h
  clear hck hm h ht hlm
  go_enter Tryz.func8, Tryz.ntmps8
  go_wp2_with fail
  refine HCK.out.mono ?_
  rintro e w1 ⟨rfl, hK1⟩
  by_cases hm0 : m = 0
  · have hM0 := HM.out
    rw [hm0] at hM0
    obtain ⟨_, _, hsz, hwq⟩ := (checkQ_iff l).1 hM0
    have hmx := selToks_max l ((wrongQ_iff _ _).1 hwq).1
    have HMX := hide (show (toksQ l).length ≤ 2000 by rw [toksQ_len]; omega)
    have HOK := hide (okT_query hM0)
    clear hM0 hsz hwq hmx
    subst hm0
    have HR0 := hide (show RowAt (w1.alloc (.cells #[.slice none 0 0] 49)) w1.heap.size [] from ⟨_, heap_alloc_new w1 _, World.ownsRow_nil _ _ _ _⟩)
    have HTW := hide ((HH.out.keep (tra hK1 ((Kept.refl _ w1).alloc (.cells #[.slice none 0 0] 49))) (Q := (· < w1.heap.size)) (fun b hb _ => ⟨fun f => f, by have := hK1.size; omega⟩)))
    have HPL := hide (putList_any l.size' l rfl (w1.alloc (.cells #[.slice none 0 0] 49)) w1.heap.size [] ao cap HR0.out HTW.out (by have := HMX.out; simp; omega))
    go_wp2_with fail
    refine HPL.out.mono ?_
    rintro e w2 ⟨rfl, hR2, hK2⟩
    have hSr : Same w w2 := hK2.same (tra hK1 ((Kept.refl _ w1).alloc _)) hK1.size
    have HTX := hide (text_any w2 w1.heap.size (toksQ l) hR2 (tab_keep HT.out hSr) HOK.out (by rw [toksQ_len]; omega) (by have := HMX.out; omega))
    have HSR := hide hSr
    clear hR2 hK2 hSr
    go_wp2_with fail
    refine HTX.out.mono ?_
    rintro e w3 ⟨rfl, hK3⟩
    go_wp2_with fail
    go_ret2
    exact ⟨rfl, tra HSR.out hK3⟩
  · have hm1 : (m != 0) = true := by simp [hm0]
    have HM0 := hide hm0
    clear hm0
    go_wp2_with fail
    go_ret2
    exact .inr ⟨HM0.out, rfl, hK1⟩

theorem qPrint_ok (w : World) (v : Value) (l : Sels) (h : SelSl w v l) (ht : Tab w) (hc : checkQ l = 0) :
    Calls Tryz.prog 8 #[v] w fun e w' => e = .returned (.tuple #[.string ⟨(printQ l).toArray⟩, .int .i64 0]) ∧ Same w w' := by
  refine (qPrint_any w v l h ht).mono ?_
  rintro e w' (⟨_, h2, h3⟩ | ⟨h1, _, _⟩)
  · exact ⟨h2, h3⟩
  · exact absurd hc h1
theorem qPrint_bad (w : World) (v : Value) (l : Sels) (h : SelSl w v l) (ht : Tab w) (m : Int) (hm : checkQ l = m) (hc : m ≠ 0) :
    Calls Tryz.prog 8 #[v] w fun e w' => e = .returned (.tuple #[.string ⟨#[]⟩, .int .i64 m]) ∧ Same w w' := by
  refine (qPrint_any w v l h ht).mono ?_
  rintro e w' (⟨h1, _, _⟩ | ⟨_, h2, h3⟩)
  · exact absurd (hm.symm.trans h1) hc
  · rw [hm] at h2; exact ⟨h2, h3⟩
theorem qRead_ok (w : World) (s : ByteArray) (l : Sels) (h : readQ s.data.toList = .ok l) :
    Calls Tryz.prog 7 #[.string s] w fun e w' => ∃ v, e = .returned (.tuple #[v, .int .i64 0]) ∧ SelSlP (fun b => w.heap.size ≤ b) w' v l ∧ Same w w' := by
  refine (qRead_any w s).mono ?_
  rintro e w' (⟨l', v, h1, h2, h3, h4⟩ | ⟨n, h1, _, _, _⟩)
  · rw [h] at h1; cases h1; exact ⟨v, h2, h3, h4⟩
  · rw [h] at h1; cases h1
theorem qRead_bad (w : World) (s : ByteArray) (n : Int) (h : readQ s.data.toList = .error n) :
    Calls Tryz.prog 7 #[.string s] w fun e w' => e = .returned (.tuple #[.slice none 0 0, .int .i64 n]) ∧ Same w w' ∧ n ≠ 0 := by
  refine (qRead_any w s).mono ?_
  rintro e w' (⟨l', v, h1, h2, h3, h4⟩ | ⟨n', h1, h2, h3, h4⟩)
  · rw [h] at h1; cases h1
  · rw [h] at h1; cases h1; exact ⟨h3, h4, h2⟩

end Go.Proofs.YtkkjchfhgjfclaaGreatDoor

/- The laws' own query. -/
namespace Go.Proofs.YtkkjchfhgjfclaaGreatDoor
open Go.RowKit

def ask1 : Sels := .cons [120] [65] [⟨[105, 100], false, [], 3⟩] (.cons [] [105, 100] [] .nil (.cons [] [110] [] .nil .nil)) .nil

theorem rq1 : readQ [123, 32, 120, 58, 32, 65, 40, 105, 100, 58, 32, 51, 41, 32, 123, 32, 105, 100, 32, 110, 32, 125, 32, 125] = .ok ask1 := by kernel_rfl
theorem rq2 : readQ [123, 32, 125] = .error 1 := by kernel_rfl
theorem cq1 : checkQ ask1 = 0 := by kernel_rfl
theorem pq1 : printQ ask1 = [123, 32, 120, 32, 58, 32, 65, 32, 40, 32, 105, 100, 32, 58, 32, 51, 32, 41, 32, 123, 32, 105, 100, 32, 110, 32, 125, 32, 125] := by kernel_rfl

theorem ask_any (w : World) :
    Calls Tryz.prog 14 #[] w fun e w' => ∃ b, e = .returned (.slice (some ⟨b, 0, none⟩) 1 1) ∧ SelSl w' (.slice (some ⟨b, 0, none⟩) 1 1) ask1 ∧ Same w w' := by
  go_enter Tryz.func14, Tryz.ntmps14
  go_wp2
  go_ret
  obtain ⟨w1, hw1⟩ : ∃ w1, w1 = w.alloc (.cells #[.string ⟨#[105, 100]⟩, .bool false, .string ⟨#[]⟩, .int .i64 3] 63) := ⟨_, rfl⟩
  obtain ⟨w2, hw2⟩ : ∃ w2, w2 = w1.alloc (.cells #[.string ⟨#[]⟩, .string ⟨#[105, 100]⟩, .slice none 0 0, .slice none 0 0, .string ⟨#[]⟩, .string ⟨#[110]⟩, .slice none 0 0, .slice none 0 0] 28) := ⟨_, rfl⟩
  obtain ⟨w3, hw3⟩ : ∃ w3, w3 = w2.alloc (.cells #[.string ⟨#[120]⟩, .string ⟨#[65]⟩, .slice (some ⟨w.heap.size, 0, none⟩) 1 1, .slice (some ⟨w.heap.size + 1, 0, none⟩) 2 2] 28) := ⟨_, rfl⟩
  have k01 : Same w w1 := by rw [hw1]; exact (Kept.refl _ _).alloc _
  have k12 : Same w1 w2 := by rw [hw2]; exact (Kept.refl _ _).alloc _
  have k23 : Same w2 w3 := by rw [hw3]; exact (Kept.refl _ _).alloc _
  have s1 : w1.heap.size = w.heap.size + 1 := by rw [hw1]; simp
  have s2 : w2.heap.size = w.heap.size + 1 + 1 := by rw [hw2, World.size_alloc, s1]
  have key1 : ∀ j u, [Value.string ⟨#[105, 100]⟩, .bool false, .string ⟨#[]⟩, .int .i64 3][j]? = some u → w3.cell? ⟨w.heap.size, j, none⟩ = some u := by
    intro j u hj
    refine k23.cell (k12.cell ?_ (fun f => f)) (fun f => f)
    rw [hw1, World.cell?_alloc_new]
    simpa using hj
  have key2 : ∀ j u, [Value.string ⟨#[]⟩, .string ⟨#[105, 100]⟩, .slice none 0 0, .slice none 0 0, .string ⟨#[]⟩, .string ⟨#[110]⟩, .slice none 0 0, .slice none 0 0][j]? = some u → w3.cell? ⟨w.heap.size + 1, j, none⟩ = some u := by
    intro j u hj
    refine k23.cell ?_ (fun f => f)
    rw [hw2, ← s1, World.cell?_alloc_new]
    simpa using hj
  have key3 : ∀ j u, [Value.string ⟨#[120]⟩, .string ⟨#[65]⟩, .slice (some ⟨w.heap.size, 0, none⟩) 1 1, .slice (some ⟨w.heap.size + 1, 0, none⟩) 2 2][j]? = some u → w3.cell? ⟨w.heap.size + 1 + 1, j, none⟩ = some u := by
    intro j u hj
    rw [hw3, ← s2, World.cell?_alloc_new]
    simpa using hj
  have nilA : ArgSl w3 (.slice none 0 0) [] := (ArgSlP.nil (fun _ => True) w3).plain
  have hAll : SelSl w3 (.slice (some ⟨w.heap.size + 1 + 1, 0, none⟩) 1 1) ask1 := by
    refine ⟨_, 1, rfl, ⟨by decide, by decide⟩, .inr ⟨_, 0, rfl, key3 0 _ rfl, key3 1 _ rfl, ⟨_, key3 2 _ rfl, ⟨_, 1, rfl, ⟨by decide, by decide⟩, fun i a ha => ?_⟩⟩, ⟨_, 2, key3 3 _ rfl, ⟨by decide, by decide⟩, .inr ⟨_, 0, rfl, ?_⟩⟩, trivial⟩⟩
    · cases i with
      | zero =>
        simp at ha
        subst ha
        exact ⟨w.heap.size, 0, rfl, key1 0 _ rfl, key1 1 _ rfl, key1 2 _ rfl, key1 3 _ rfl⟩
      | succ i => simp at ha
    · exact ⟨key2 0 _ rfl, key2 1 _ rfl, ⟨_, key2 2 _ rfl, nilA⟩, ⟨none, 0, key2 3 _ rfl, ⟨by decide, by decide⟩, .inl rfl⟩, key2 4 _ rfl, key2 5 _ rfl, ⟨_, key2 6 _ rfl, nilA⟩, ⟨none, 0, key2 7 _ rfl, ⟨by decide, by decide⟩, .inl rfl⟩, trivial⟩
  have hK : Same w w3 := tra (tra k01 k12) k23
  rw [hw3, hw2, hw1] at hAll hK
  exact ⟨w.heap.size + 1 + 1, rfl, hAll, hK⟩

end Go.Proofs.YtkkjchfhgjfclaaGreatDoor

/- A select, an argument of a slice, as it lies. -/
namespace Go.Proofs.YtkkjchfhgjfclaaGreatDoor
open Go.RowKit

theorem ArgSl.at4 {w : World} {ao : Option Addr} {n cap : Nat} {l : List ArgT} (h : ArgSl w (.slice ao n cap) l) (j : Nat) (hj : j < l.length) :
    ∃ b off, ao = some ⟨b, off, none⟩ ∧ w.cell? ⟨b, off + j * 4, none⟩ = some (.string ⟨l[j].name.toArray⟩) ∧ w.cell? ⟨b, off + j * 4 + 1, none⟩ = some (.bool l[j].isText) ∧ w.cell? ⟨b, off + j * 4 + 2, none⟩ = some (.string ⟨l[j].text.toArray⟩) ∧ w.cell? ⟨b, off + j * 4 + 3, none⟩ = some (.int .i64 l[j].n) := by
  obtain ⟨ao', cap', hv, _, hc⟩ := h
  cases hv
  exact hc j l[j] (List.getElem?_eq_getElem hj)

/-- the select behind p, as it lies -/
theorem selSl_nth {w : World} {ao : Option Addr} {n cap : Nat} {f p r k : Sels} {al nm : List UInt8} {args : List ArgT} (h : SelSl w (.slice ao n cap) f) (hf : f = appS p (.cons al nm args k r)) (j : Nat) (hp : p.len = j) :
    ∃ b o aa ca ak ck, ao = some ⟨b, o, none⟩ ∧ w.cell? ⟨b, o + j * 4, none⟩ = some (.string ⟨al.toArray⟩) ∧ w.cell? ⟨b, o + j * 4 + 1, none⟩ = some (.string ⟨nm.toArray⟩) ∧ w.cell? ⟨b, o + j * 4 + 2, none⟩ = some (.slice aa args.length ca) ∧ w.cell? ⟨b, o + j * 4 + 3, none⟩ = some (.slice ak k.len ck) ∧ ArgSl w (.slice aa args.length ca) args ∧ SelSl w (.slice ak k.len ck) k ∧ args.length ≤ 9223372036854775807 := by
  obtain ⟨ao', cap', e, _, hs⟩ := h
  cases e
  rcases hs with hs | ⟨b, o, rfl, hat⟩
  · exfalso
    have := congrArg Sels.len (hs.symm.trans hf)
    rw [appS_len] at this
    simp [Sels.len] at this
  · rw [hf] at hat
    obtain ⟨_, h0, h1, ⟨va, h2, ha⟩, ⟨ak, ck, h3, hl3, hs3⟩, _⟩ := selAt_app p _ _ hat
    rw [hp] at h0 h1 h2 h3
    obtain ⟨aa, ca, rfl, hla, _⟩ := id ha
    exact ⟨b, o, aa, ca, ak, ck, rfl, h0, h1, h2, h3, ha, ⟨ak, ck, rfl, hl3, hs3⟩, hla.1⟩

end Go.Proofs.YtkkjchfhgjfclaaGreatDoor

/- halyardref.SameSelects of the same selects. -/
namespace Go.Proofs.YtkkjchfhgjfclaaGreatDoor
open Go.RowKit

theorem neq_arg (x : ArgT) (w : World) :
    (binOp .neq 63 (.agg #[.string ⟨x.name.toArray⟩, .bool x.isText, .string ⟨x.text.toArray⟩, .int .i64 x.n]) (.agg #[.string ⟨x.name.toArray⟩, .bool x.isText, .string ⟨x.text.toArray⟩, .int .i64 x.n])).run Tryz.prog w = .ok (.bool false) w := by
  rw [run_neq_struct, run_equalIn_agg _ _ _ _ _ (by kernel_rfl) (by kernel_rfl)]
  rw [show (Tryz.prog.fieldsOf 63).toList = [{ name := "Name", type := 9, offset := 0, embedded := false, tag := "", pkgPath := "", byteOffset := 0 }, { name := "IsText", type := 4, offset := 1, embedded := false, tag := "", pkgPath := "", byteOffset := 16 }, { name := "Text", type := 9, offset := 2, embedded := false, tag := "", pkgPath := "", byteOffset := 24 }, { name := "N", type := 3, offset := 3, embedded := false, tag := "", pkgPath := "", byteOffset := 40 }] from by kernel_rfl]
  simp [Op.eqFields, go_sem]

set_option maxRecDepth 20000 in
set_option maxHeartbeats 3200000 in
theorem sameSels_step (m : Nat) (IH : ∀ m', m' < m → ∀ (f : Sels), f.size' = m' → ∀ (w : World) (va vb : Value), SelSl w va f → SelSl w vb f →
      Calls Tryz.prog 13 #[va, vb] w fun e w' => e = .returned (.bool true) ∧ ∃ n, w' = w.drewN n)
    (f : Sels) (hm : f.size' = m) (w : World) (va vb : Value) (ha : SelSl w va f) (hb : SelSl w vb f) :
    Calls Tryz.prog 13 #[va, vb] w fun e w' => e = .returned (.bool true) ∧ ∃ n, w' = w.drewN n := by
  obtain ⟨aa, ca, rfl, ⟨hla, _⟩, _⟩ := id ha
  obtain ⟨ab, cb, rfl, _, _⟩ := id hb
  have hla' : f.len ≤ 9223372036854775807 := hla
  have HA := hide ha
  have HB := hide hb
  have HIH := hide IH
  have HM := hide hm
  clear hla ha hb IH hm
  go_enter Tryz.func13, Tryz.ntmps13
  go_wp2_with fail
  go_loopg [5] f.len (fun g i wr => ∃ (j n : Nat) (p x : Sels), x.len ≤ g ∧ g ≤ x.len ∧ j + x.len ≤ f.len ∧ f.len ≤ j + x.len ∧ i = .int .i64 j ∧ Hid (p.len = j) ∧ Hid (f = appS p x) ∧ wr = w.drewN n)
  case atStart => exact ⟨0, 0, .nil, f, Nat.le_refl _, Nat.le_refl _, by omega, by omega, rfl, rfl, rfl, rfl⟩
  case round =>
    obtain ⟨j, n, p, x, hg1, hg2, hj1, hj2, rfl, HPL, HFP, rfl⟩ := hrel
    cases x with
    | nil =>
      simp only [Sels.len] at hg1 hg2 hj1 hj2
      go_wp2_with fail
      go_ret
      exact ⟨rfl, _, rfl⟩
    | cons al nm args k r =>
      simp only [Sels.len] at hg1 hg2 hj1 hj2
      have hlt : j < f.len := by omega
      obtain ⟨b1, o1, aa1, ca1, ak1, ck1, rfl, p0, p1, p2, p3, ha1, hk1, hal⟩ := selSl_nth HA.out HFP.out j HPL.out
      obtain ⟨b2, o2, aa2, ca2, ak2, ck2, rfl, q0, q1, q2, q3, ha2, hk2, _⟩ := selSl_nth HB.out HFP.out j HPL.out
      have HKM := hide (show k.size' < m by
        have h1 := congrArg Sels.size' HFP.out
        rw [appS_size, Sels.size', HM.out] at h1
        omega)
      have HREC := hide (fun u => (HIH.out k.size' HKM.out k rfl (w.drewN (n + u)) _ _ (hk1.same ((Kept.refl _ w).drewN (n + u))) (hk2.same ((Kept.refl _ w).drewN (n + u)))).mono (R' := fun e w'' => e = .returned (.bool true) ∧ ∃ m, w'' = w.drewN (n + m)) (fun e w'' h => ⟨h.1, by obtain ⟨x, hx⟩ := h.2; exact ⟨u + x, by rw [hx, World.drewN_drewN, Nat.add_assoc]⟩⟩))
      have HA1 := hide ha1
      have HA2 := hide ha2
      clear ha1 ha2 hk1 hk2
      go_wp2_with fail
      go_quiet (first | (go_at_call 13; exact HREC.out _))
      go_wp2_with fail
      obtain ⟨G, hG1, hG2⟩ : ∃ G, G ≤ gk ∧ gk ≤ G := ⟨gk, Nat.le_refl _, Nat.le_refl _⟩
      go_loopg [6] args.length (fun g i wr => ∃ t m : Nat, t + g = args.length ∧ i = .int .i64 t ∧ wr = w.drewN m)
      case atStart => exact ⟨0, n + nq, by omega, rfl, by rw [World.drewN_drewN]⟩
      case round =>
        obtain ⟨t, m, ht, rfl, rfl⟩ := hrel
        by_cases hlj : t < args.length
        · obtain ⟨b3, o3, rfl, r0, r1, r2, r3⟩ := HA1.out.at4 t hlj
          obtain ⟨b4, o4, rfl, s0, s1, s2, s3⟩ := HA2.out.at4 t hlj
          have hnq := neq_arg args[t]
          obtain ⟨y, hye⟩ : ∃ y, y = args[t] := ⟨_, rfl⟩
          rw [← hye] at r0 r1 r2 r3 s0 s1 s2 s3 hnq
          clear hye
          go_wp2_with fail
          go_quiet (fail)
          go_wp2_with fail
          go_roundg (gk - 1)
          case measure => omega
          case rel => exact ⟨t + 1, _, by omega, by go_num, rfl⟩
        · go_wp2_with fail
          go_roundg (G - 1)
          case measure => omega
          case rel => exact ⟨j + 1, m, appS p (.cons al nm args k .nil), r, by omega, by omega, by omega, by omega, by go_num, by rw [Hid, appS_len, HPL.out]; rfl, by rw [Hid, appS_snoc]; exact HFP.out, rfl⟩

theorem sameSels_eq (m : Nat) : ∀ (f : Sels), f.size' = m → ∀ (w : World) (va vb : Value), SelSl w va f → SelSl w vb f →
    Calls Tryz.prog 13 #[va, vb] w fun e w' => e = .returned (.bool true) ∧ ∃ n, w' = w.drewN n := by
  induction m using Nat.strongRecOn with
  | ind m ih => exact fun f hm w va vb ha hb => sameSels_step m ih f hm w va vb ha hb

end Go.Proofs.YtkkjchfhgjfclaaGreatDoor
