import Derived.Test.YtkkjchfhgjfclabGreatDoorQueryback31
import Derived.Test.YtkkjchfhgjfclabGreatDoorQueryback32
import Derived.Test.YtkkjchfhgjfclabGreatDoorQueryback01
import Derived.Test.YtkkjchfhgjfclabGreatDoorQueryback28
import Derived.Test.YtkkjchfhgjfclabGreatDoorQueryback21
import Derived.Test.YtkkjchfhgjfclabGreatDoorCards
import Derived.Test.YtkkjchfhgjfclabGreatDoorTie
import Derived.ProofKit
import Derived.OpenShut
import Derived.SizedLaws
import Derived.Deep.DeepHandedRow
import Derived.Deep.DeepWitnessRowRef
import Derived.Lib.LaidTab
import Derived.Stop.LaidErr
/- The tokens of a right query: what the laws want of them. -/
namespace Go.Proofs.YtkkjchfhgjfclabGreatDoor
open Go.RowKit

theorem STok_right {s : Sels} (h : checkQ s = 0) : STok s = toksQ s := by
  rw [STok, selToksR_eq s (okT_sels s [] (checkQ_ok h).2.2)]; rfl
theorem selToksR_max {s : Sels} (h : checkQ s = 0) : (selToksR s).length ≤ 2000 := by
  rw [selToksR_eq s (okT_sels s [] (checkQ_ok h).2.2)]
  have h1 := selToks_max s ((wrongQ_iff _ _).1 (checkQ_ok h).2.2).1
  have h2 := ((checkQ_iff s).1 h).2.2.1
  omega

theorem bytes_q (l : List UInt8) : (⟨l.toArray⟩ : ByteArray).data.toList = l := by simp

theorem bytes_of (b : ByteArray) (l : List UInt8) (h : b.data.toList = l) : b = ⟨l.toArray⟩ := by
  subst h
  cases b
  simp

end Go.Proofs.YtkkjchfhgjfclabGreatDoor

/- SameTokens, whatever it is handed. -/
namespace Go.Proofs.YtkkjchfhgjfclabGreatDoor
open Go.RowKit

set_option maxHeartbeats 800000 in
theorem sameTokens_any (w : World) (va vb : Value) (a b : List Tok) (ha : TokSl w va a) (hb : TokSl w vb b) :
    Calls Tryz.prog 27 #[va, vb] w fun e w' => e = .returned (.bool (sameT a b)) ∧ ∃ n, w' = w.drewN n := by
  obtain ⟨aa, ca, rfl, hla, hca⟩ := id ha
  obtain ⟨ab, cb, rfl, hlb, hcb⟩ := id hb
  clear hca hcb
  by_cases hne : a.length = b.length
  · have hne' : ((a.length : Int) != (b.length : Int)) = false := by simp; omega
    have hl1 : a.length ≤ b.length := by omega
    have hl2 : b.length ≤ a.length := by omega
    clear hne
    go_enter Tryz.func27, Tryz.ntmps27
    go_wp2_with fail
    go_loopg [5] a.length (fun g i wr => ∃ k n : Nat, k + g = a.length ∧ i = .int .i64 k ∧ wr = w.drewN n ∧ Hid (a.take k = b.take k))
    case atStart => exact ⟨0, 0, by omega, rfl, rfl, rfl⟩
    case round =>
      obtain ⟨k, n, hk, rfl, rfl, HE⟩ := hrel
      by_cases hlt : k < a.length
      · obtain ⟨b1, o1, e1, p0, p1, p2⟩ := ha.at k hlt
        obtain ⟨b2, o2, e2, q0, q1, q2⟩ := hb.at k (by omega)
        subst e1 e2
        have hkb : k < b.length := by omega
        cases he : tokEq a[k] b[k] with
        | true =>
          have hnq := neq_tok a[k] b[k]
          rw [he] at hnq
          have HT := hide ((tokEq_iff _ _).1 he)
          clear he
          go_wp2_with fail
          go_quiet (fail)
          go_wp2_with fail
          go_roundg (gk - 1)
          case measure => omega
          case rel => exact ⟨k + 1, _, by omega, by go_num, rfl, by show a.take (k + 1) = b.take (k + 1); rw [List.take_succ_eq_append_getElem hlt, List.take_succ_eq_append_getElem hkb, HE.out, HT.out]⟩
        | false =>
          have hnq := neq_tok a[k] b[k]
          rw [he] at hnq
          have HT := hide he
          clear he
          go_wp2_with fail
          go_quiet (fail)
          go_wp2_with fail
          go_ret
          refine ⟨ret_bool (sameT_false ?_).symm, n + nq, by rw [World.drewN_drewN]⟩
          intro e
          subst e
          have := (tokEq_iff a[k] a[k]).2 rfl
          rw [HT.out] at this
          cases this
      · go_wp2_with fail
        go_ret
        refine ⟨ret_bool ?_, _, rfl⟩
        have e1 : a.take k = a := List.take_of_length_le (by omega)
        have e2 : b.take k = b := List.take_of_length_le (by omega)
        have := HE.out
        rw [e1, e2] at this
        exact ((sameT_iff a b).2 this).symm
  · have hne' : ((a.length : Int) != (b.length : Int)) = true := by simp; omega
    have HF := hide (sameT_false (a := a) (b := b) (fun e => hne (by rw [e])))
    go_enter Tryz.func27, Tryz.ntmps27
    go_wp2_with fail
    go_ret
    exact ⟨ret_bool HF.out.symm, 0, rfl⟩

end Go.Proofs.YtkkjchfhgjfclabGreatDoor

/- The laws' own: some, lexBegun. -/
namespace Go.Proofs.YtkkjchfhgjfclabGreatDoor
open Go.RowKit

def someT : List Tok := [⟨1, [97, 49], 0⟩, ⟨4, [58], 0⟩, ⟨2, [], -7⟩, ⟨3, [113, 34, 92, 10], 0⟩]

theorem someT_cells (i : Nat) (t : Tok) (h : someT[i]? = some t) : (tokCells someT)[i * 3]? = some (.int .i64 t.k) ∧ (tokCells someT)[i * 3 + 1]? = some (.string ⟨t.s.toArray⟩) ∧ (tokCells someT)[i * 3 + 2]? = some (.int .i64 t.n) := by
  have := tokCells_get someT i t h
  rw [show i * 3 = 3 * i from by omega]
  exact this

theorem some_any (w : World) :
    Calls Tryz.prog 25 #[] w fun e w' => ∃ v, e = .returned v ∧ TokSl w' v someT ∧ Same w w' := by
  go_enter Tryz.func25, Tryz.ntmps25
  go_wp2
  go_ret
  refine ⟨_, rfl, ⟨_, _, rfl, by decide, fun i t ht => ⟨w.heap.size, 0, rfl, ?_⟩⟩, (by repeat' (first | assumption | exact Kept.refl _ _ | refine Kept.drewN ?_ _ | refine Kept.drew ?_ | refine Kept.alloc ?_ _ | refine Kept.setB ?_ _ _))⟩
  obtain ⟨h1, h2, h3⟩ := someT_cells i t ht
  have key : ∀ j u, (tokCells someT)[j]? = some u → (w.alloc (.cells (tokCells someT).toArray 65)).cell? ⟨w.heap.size, j, none⟩ = some u := by
    intro j u hj
    rw [World.cell?_alloc_new]
    simpa using hj
  rw [Nat.zero_add]
  exact ⟨key _ _ h1, key _ _ h2, key _ _ h3⟩

theorem read1 : lexRead [32, 97, 49, 32, 58, 44, 45, 55, 32, 35, 32, 99, 10, 34, 113, 92, 34, 92, 92, 92, 110, 34] = .ok someT := by kernel_rfl
theorem read2 : lexRead [48, 49] = .error 1 := by kernel_rfl
theorem check1 : lexCheck someT = 0 := by kernel_rfl
theorem itoa7 : Lib.itoa (-7) = [45, 55] := by
  rw [Lib.itoa, if_pos (by decide)]
  rw [show (-7 : Int).natAbs = 7 from rfl, Lib.decDigits]
  rfl
theorem print1 : printF someT = [97, 49, 32, 58, 32, 45, 55, 32, 34, 113, 92, 34, 92, 92, 92, 110, 34] := by
  simp [someT, printF, writtenT, itoa7, quoteL, quoteC]


set_option maxHeartbeats 800000 in
theorem lexBegun_any (w : World) (ht : Tab w) :
    Calls Tryz.prog 8 #[] w fun e w' => e = .returned (.bool true) ∧ Same w w' := by
  go_enter Tryz.func8, Tryz.ntmps8
  go_wp2_with fail
  refine (read_ok _ _ someT (by exact read1) (by decide)).mono ?_
  rintro e w1 ⟨v1, rfl, hv1, hK1⟩
  go_wp2_with fail
  refine (some_any _).mono ?_
  rintro e w2 ⟨v2, rfl, hv2, hK2⟩
  go_wp2_with fail
  refine (print_ok _ _ someT (by exact hv2) (tab_keep (tab_keep ht hK1) hK2) check1).mono ?_
  rintro e w3 ⟨rfl, hK3⟩
  rw [print1]
  go_wp2_with fail
  refine (read_bad _ _ 1 (by exact read2)).mono ?_
  rintro e w4 ⟨rfl, hK4, _⟩
  go_wp2_with fail
  refine (some_any _).mono ?_
  rintro e w5 ⟨v5, rfl, hv5, hK5⟩
  go_wp2_with fail
  have hc := check_any w5 v5 someT hv5
  rw [check1] at hc
  have HC := hide hc
  clear hc
  refine HC.out.mono ?_
  rintro e w6 ⟨rfl, hK6⟩
  go_wp2_with fail
  refine (some_any _).mono ?_
  rintro e w7 ⟨v7, rfl, hv7, hK7⟩
  have hv17 := ((((((hv1.same hK2).same hK3).same hK4).same hK5).same hK6).same hK7)
  have hs := sameTokens_any w7 v1 v7 someT someT hv17 hv7
  rw [(sameT_iff someT someT).2 rfl] at hs
  have HS := hide hs
  clear hs
  go_wp2_with fail
  refine HS.out.mono ?_
  rintro e w8 ⟨rfl, n8, rfl⟩
  go_wp2
  go_ret
  refine ⟨rfl, ?_⟩
  have tr : ∀ {a b c : World}, Same a b → Same b c → Same a c := fun h k => h.trans k (fun _ _ f => f.elim)
  exact Kept.drewN (tr (tr (tr (tr (tr (tr hK1 hK2) hK3) hK4) hK5) hK6) hK7) _

end Go.Proofs.YtkkjchfhgjfclabGreatDoor

/- QueryBack: the walk of the law's function. -/
namespace Go.Proofs.YtkkjchfhgjfclabGreatDoor
open Go.RowKit

set_option maxRecDepth 20000 in
set_option maxHeartbeats 3200000 in
theorem queryBack_any (w : World) (s : ByteArray) (v : Value) (l : Sels) (ht : Tab w) (hv : SelSl w v l) :
    Calls Tryz.prog 3 #[.string s, v] w fun e w' => e = .returned (.bool true) ∧ Same w w' := by
  have HT := hide ht
  have HV := hide hv
  obtain ⟨ao, cap, rfl, _, _⟩ := id hv
  clear ht hv
  obtain ⟨c, hc⟩ : ∃ c, checkQ l = c := ⟨_, rfl⟩
  have HC := hide hc
  clear hc
  go_enter Tryz.func3, Tryz.ntmps3
  go_wp2_with fail
  refine (queryBegun_any _ HT.out).mono ?_
  rintro e w1 ⟨rfl, hK1⟩
  go_wp2_with fail
  refine (lexBegun_any _ (tab_keep HT.out hK1)).mono ?_
  rintro e w2 ⟨rfl, hK2⟩
  have hKb := tra hK1 hK2
  clear hK1 hK2
  have HPR := hide (show Calls Tryz.prog 9 #[.slice ao l.len cap] w2 fun e w' => ∃ b : ByteArray, e = .returned (.tuple #[.string b, .int .i64 c]) ∧ Hid (c = 0 → b = ⟨(printQ l).toArray⟩) ∧ Same w2 w' by
    by_cases hc0 : c = 0
    · subst hc0
      refine (qPrint_ok w2 _ l (HV.out.same hKb) (tab_keep HT.out hKb) HC.out).mono ?_
      rintro e w' ⟨h1, h2⟩
      exact ⟨_, h1, fun _ => rfl, h2⟩
    · refine (qPrint_bad w2 _ l (HV.out.same hKb) (tab_keep HT.out hKb) c HC.out hc0).mono ?_
      rintro e w' ⟨h1, h2⟩
      exact ⟨_, h1, fun e => absurd e hc0, h2⟩)
  go_wp2_with fail
  refine HPR.out.mono ?_
  rintro e w3 ⟨b, rfl, HB, hK3⟩
  have HK3 := hide (tra hKb hK3)
  clear hKb hK3 HPR
  obtain ⟨q, hq⟩ : ∃ q, (c == 0) = q := ⟨_, rfl⟩
  have HQ := hide hq
  clear hq
  go_upto_if 23 with fail
  rw [HQ.out]
  go_cut [] (fun wx => Hid (Same w wx))
  case first =>
    cases q
    · go_wp2_with fail
      go_meet
      case rel => exact HK3.out
    · have hc0 : c = 0 := by simpa using HQ.out
      subst hc0
      have hb := HB.out rfl
      subst hb
      have HC0 := HC
      by_cases h1 : (printQ l).length ≤ 2000
      · by_cases h2 : (toksQ l).length ≤ 300
        · have HRD := hide (readQ_print HC0.out h1 h2)
          go_wp2_with fail
          refine (qRead_ok _ _ l (by rw [bytes_q]; exact HRD.out)).mono ?_
          rintro e w4 ⟨v4, rfl, hv4, hK4⟩
          obtain ⟨a4, c4, rfl, _, _⟩ := id hv4
          have HS := hide (sameSels_eq l.size' l rfl w4 _ _ hv4.plain (HV.out.same (tra HK3.out hK4)))
          clear hv4
          go_wp2_with fail
          refine HS.out.mono ?_
          rintro e w5 ⟨rfl, n5, rfl⟩
          go_wp2_with fail
          go_meet
          case rel => exact Kept.drewN (tra HK3.out hK4) _
        · have HRD := hide (readQ_many HC0.out (.inr (by omega)))
          have HST := hide (selTokens_any l.size' l rfl)
          have HTL := hide h2
          have HML := hide (show (STok l).length = (toksQ l).length by rw [STok_right HC0.out])
          clear h2
          have h1' : (⟨(printQ l).toArray⟩ : ByteArray).size ≤ 2000 := by simpa [ByteArray.size] using h1
          go_wp2_with fail
          refine (qRead_bad _ _ 2 (by rw [bytes_q]; exact HRD.out)).mono ?_
          rintro e w4 ⟨rfl, hK4, _⟩
          have HSX := hide (HST.out w4 _ (HV.out.same (tra HK3.out hK4)) (by have := selToksR_max HC0.out; omega))
          go_wp2_with fail
          refine HSX.out.mono ?_
          rintro e w5 ⟨v5, rfl, hown5, hK5⟩
          obtain ⟨a5, c5, hv5⟩ := own_slice hown5
          subst hv5
          have hl5 : 300 < (STok l).length := by rw [HML.out]; have := HTL.out; omega
          clear hown5
          go_wp2_with fail
          go_meet
          case rel => exact tra (tra HK3.out hK4) hK5
      · have HRD := hide (readQ_many HC0.out (.inl (by omega)))
        have h1' : ¬ (⟨(printQ l).toArray⟩ : ByteArray).size ≤ 2000 := by simpa [ByteArray.size] using h1
        go_wp2_with fail
        refine (qRead_bad _ _ 2 (by rw [bytes_q]; exact HRD.out)).mono ?_
        rintro e w4 ⟨rfl, hK4, _⟩
        go_wp2_with fail
        go_meet
        case rel => exact tra HK3.out hK4
  case rest =>
  have HKC : Hid (Same w wc) := hcut
  clear HK3 hcut HB
  cases hr : readQ s.data.toList with
  | error n =>
    have HR := hide hr
    clear hr
    go_wp2_with fail
    refine (qRead_bad _ s n HR.out).mono ?_
    rintro e w5 ⟨rfl, hK5, hn⟩
    have hn' : (n != 0) = true := by simp [hn]
    clear hn
    go_wp2_with fail
    go_ret
    exact ⟨rfl, tra HKC.out hK5⟩
  | ok m =>
    have HR := hide hr
    have HCM := hide (readQ_right hr).1
    have HTM := hide (readQ_right hr).2
    clear hr
    go_wp2_with fail
    refine (qRead_ok _ s m HR.out).mono ?_
    rintro e w5 ⟨v5, rfl, hv5, hK5⟩
    obtain ⟨a5, c5, rfl, _, _⟩ := id hv5
    have HV5 := hide hv5.plain
    have HKE := hide (tra HKC.out hK5)
    have HP5 := hide (qPrint_ok w5 _ m HV5.out (tab_keep HT.out HKE.out) HCM.out)
    clear hv5 hK5
    go_wp2_with fail
    refine HP5.out.mono ?_
    rintro e w6 ⟨rfl, hK6⟩
    have hck := fun w7 (hk : Same w6 w7) => qCheck_any w7 _ m (HV5.out.same (tra hK6 hk))
    rw [HCM.out] at hck
    have HCK := hide hck
    clear hck
    by_cases h1 : (printQ m).length ≤ 2000
    · have HRD := hide (readQ_print HCM.out h1 HTM.out)
      have h1' : ¬ 2000 < (⟨(printQ m).toArray⟩ : ByteArray).size := by simpa [ByteArray.size] using h1
      go_wp2_with fail
      refine (HCK.out _ (Kept.refl _ _)).mono ?_
      rintro e w7 ⟨rfl, hK7⟩
      go_wp2_with fail
      refine (qRead_ok _ _ m (by rw [bytes_q]; exact HRD.out)).mono ?_
      rintro e w8 ⟨v8, rfl, hv8, hK8⟩
      obtain ⟨a8, c8, rfl, _, _⟩ := id hv8
      have HS := hide (sameSels_eq m.size' m rfl w8 _ _ hv8.plain (HV5.out.same (tra (tra hK6 hK7) hK8)))
      clear hv8
      go_wp2_with fail
      refine HS.out.mono ?_
      rintro e w9 ⟨rfl, n9, rfl⟩
      go_wp2_with fail
      go_ret
      exact ⟨rfl, Kept.drewN (tra (tra (tra HKE.out hK6) hK7) hK8) _⟩
    · have h1' : 2000 < (⟨(printQ m).toArray⟩ : ByteArray).size := by simpa [ByteArray.size] using h1
      go_wp2_with fail
      refine (HCK.out _ (Kept.refl _ _)).mono ?_
      rintro e w7 ⟨rfl, hK7⟩
      go_wp2_with fail
      refine (HCK.out _ hK7).mono ?_
      rintro e w8 ⟨rfl, hK8⟩
      go_wp2_with fail
      go_ret
      exact ⟨rfl, tra (tra (tra HKE.out hK6) hK7) hK8⟩

end Go.Proofs.YtkkjchfhgjfclabGreatDoor

/- One start that fits: the listed variables as their initialisers lay them; what the list gives the walks. -/
namespace Go.Proofs.YtkkjchfhgjfclabGreatDoor
open Go.ChangeShapes Go.WideShapes Go.ChangeAt Go.RowKit

theorem own : ownKnob Tryz.prog.godebug = none := by kernel_rfl
theorem gTab : Tryz.prog.globalNamed "internal/strconv.uint64pow10" = some 1 := by kernel_rfl
theorem gTabType : (Tryz.prog.globals[1]?).map (·.type) = some 182 := by kernel_rfl
theorem cellsTab : Tryz.prog.cellsOf 182 = 20 := by kernel_rfl
theorem cellsU64 : Tryz.prog.cellsOf 168 = 1 := by kernel_rfl

/-- WHAT THE ROWS' LIST GIVES: strconv's table of powers. -/
theorem table {W : World} (h : laidMetH Tryz.prog Rows.queryBackRow.laid W) : Tab W :=
  Lib.tabIs_of_head (rest := _) gTab gTabType Tryz.underlying182 Tryz.underlying168 cellsU64 cellsTab (laidMet.tail (laidMet.tail h))

def tabCells : DataW Unit → Array Value
  | .agg l => (l.map fun d => match d with | .lit (.int k n) => Value.int k n | _ => Value.nilIface).toArray
  | _ => #[]
def textOf : DataW Unit → ByteArray
  | .iface _ (.ptr (.agg [.lit (.string b)])) => ⟨b.toArray⟩
  | _ => ⟨#[]⟩

/-- So many blocks has the settled world. -/
noncomputable def low : Nat := (World.holding Tryz.prog default ⟨#[], #[], []⟩).heap.size

/-- The settled world, the listed variables holding what their initialisers lay. -/
noncomputable def laidWorld (os : Os) : World :=
  let w0 := World.holding Tryz.prog os ⟨#[.cells #[.string (textOf Rows.laid_strconv_ErrRange)] 196, .cells #[.string (textOf Rows.laid_strconv_ErrSyntax)] 196], #[], []⟩
  let put (h : Array Obj) (g : Nat) (c : Array Value) : Array Obj := h.modify g fun
    | .cells _ t frozen => .cells c t frozen
    | o => o
  let h1 := put w0.heap 1 (tabCells Rows.laid_internal_strconv_uint64pow10)
  let h2 := put h1 4 (tabCells Rows.laid_math_bits_deBruijn32tab)
  let h3 := put h2 5 (tabCells Rows.laid_math_bits_deBruijn64tab)
  let h4 := put h3 3 #[.iface 194 (.pointer (some ⟨low, 0, none⟩))]
  let h5 := put h4 2 #[.iface 194 (.pointer (some ⟨low + 1, 0, none⟩))]
  { w0 with heap := h5 }

theorem laid_met (os : Os) (args : Array Value) : laidMet Tryz.prog Rows.queryBackRow.laid ((laidWorld os).forCall (fun _ _ => 0) ⟨#[], args, []⟩).memory :=
  laidMet_of_run' 8 (by kernel_rfl) (by kernel_rfl)

end Go.Proofs.YtkkjchfhgjfclabGreatDoor
