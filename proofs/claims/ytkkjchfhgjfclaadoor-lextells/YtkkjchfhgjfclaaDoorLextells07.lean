import Derived.Test.YtkkjchfhgjfclaaDoorLextells06
import Derived.Test.YtkkjchfhgjfclaaDoorChecked
import Derived.Test.YtkkjchfhgjfclaaDoorLextells01
import Derived.Test.YtkkjchfhgjfclaaDoorLextells03
import Derived.Laws.StructEq
import Derived.Test.YtkkjchfhgjfclaaDoorLextells05
/- Walks of lex: what is wrong with a token. -/
namespace Go.Proofs.YtkkjchfhgjfclaaDoor
open Go.RowKit

abbrev tokB (k : Int) (s : ByteArray) (n : Int) : Value := .agg #[.int .i64 k, .string s, .int .i64 n]


def wrongN (s : List UInt8) (n : Int) : Int := if n ≠ 0 then 1 else if 12 < s.length then 2 else if nameOk s then 0 else 1
def wrongNu (s : List UInt8) (n : Int) : Int := if s ≠ [] then 1 else if n < -999999999 ∨ 999999999 < n then 3 else 0
def wrongTe (s : List UInt8) (n : Int) : Int := if n ≠ 0 then 1 else if 40 < s.length then 2 else 0
def wrongSi (s : List UInt8) (n : Int) : Int := if n ≠ 0 ∨ s.length ≠ 1 ∨ sgn (s.head?.getD 0) = false then 1 else 0

theorem wrongName_any (k : Int) (s : ByteArray) (n : Int) (w : World) :
    Calls Tryd.prog 40 #[tokB k s n] w fun e w' => e = .returned (.int .i64 (wrongN s.data.toList n)) ∧ Same w w' := by
  have hsz := size_toList s
  by_cases hn : n = 0
  · have hn' : (n != 0) = false := by simp [hn]
    by_cases hl : 12 < s.size
    · have HF := hide (show wrongN s.data.toList n = 2 by unfold wrongN; rw [if_neg (by simp [hn]), if_pos (by omega)])
      clear hn hsz
      go_enter Tryd.func40, Tryd.ntmps40
      go_wp2_with fail
      go_ret
      exact ⟨ret_int HF.out.symm, (by repeat' (first | assumption | exact Kept.refl _ _ | refine Kept.drewN ?_ _ | refine Kept.drew ?_ | refine Kept.alloc ?_ _ | refine Kept.setB ?_ _ _))⟩
    · have HI := hide (fun w => isName_any s w (by omega))
      have HF := hide (show wrongN s.data.toList n = if nameOk s.data.toList then 0 else 1 by unfold wrongN; rw [if_neg (by simp [hn]), if_neg (by omega)])
      clear hn hsz
      go_enter Tryd.func40, Tryd.ntmps40
      go_wp2_with fail
      refine (HI.out _).mono ?_
      rintro e w1 ⟨rfl, rfl⟩
      cases hb : nameOk s.data.toList
      all_goals
        have HB := hide hb
        clear hb
        go_wp2_with fail
        go_ret
        exact ⟨ret_int (by rw [HF.out, HB.out]; rfl), (by repeat' (first | assumption | exact Kept.refl _ _ | refine Kept.drewN ?_ _ | refine Kept.drew ?_ | refine Kept.alloc ?_ _ | refine Kept.setB ?_ _ _))⟩
  · have hn' : (n != 0) = true := by simp [hn]
    have HF := hide (show wrongN s.data.toList n = 1 by unfold wrongN; rw [if_pos hn])
    clear hn hsz
    go_enter Tryd.func40, Tryd.ntmps40
    go_wp2_with fail
    go_ret
    exact ⟨ret_int HF.out.symm, (by repeat' (first | assumption | exact Kept.refl _ _ | refine Kept.drewN ?_ _ | refine Kept.drew ?_ | refine Kept.alloc ?_ _ | refine Kept.setB ?_ _ _))⟩

theorem wrongNumber_any (k : Int) (s : ByteArray) (n : Int) (w : World) :
    Calls Tryd.prog 41 #[tokB k s n] w fun e w' => e = .returned (.int .i64 (wrongNu s.data.toList n)) ∧ Same w w' := by
  by_cases h0 : s.data.toList = []
  · have he : s.toList.isEmpty = true := by rw [ByteArray.toList_eq, h0]; rfl
    by_cases hr : n < -999999999 ∨ 999999999 < n
    · have HF := hide (show wrongNu s.data.toList n = 3 by unfold wrongNu; rw [if_neg (by simp [h0]), if_pos hr])
      have HI := hide (pIntB_no hr)
      clear h0 hr
      go_enter Tryd.func41, Tryd.ntmps41
      go_wp2_with fail
      refine (pIsInt n _).mono ?_
      rintro e w1 ⟨rfl, rfl⟩
      rw [HI.out]
      go_wp2_with fail
      go_ret
      exact ⟨ret_int HF.out.symm, (by repeat' (first | assumption | exact Kept.refl _ _ | refine Kept.drewN ?_ _ | refine Kept.drew ?_ | refine Kept.alloc ?_ _ | refine Kept.setB ?_ _ _))⟩
    · have HF := hide (show wrongNu s.data.toList n = 0 by unfold wrongNu; rw [if_neg (by simp [h0]), if_neg hr])
      have HI := hide (pIntB_yes (n := n) (by omega) (by omega))
      clear h0 hr
      go_enter Tryd.func41, Tryd.ntmps41
      go_wp2_with fail
      refine (pIsInt n _).mono ?_
      rintro e w1 ⟨rfl, rfl⟩
      rw [HI.out]
      go_wp2_with fail
      go_ret
      exact ⟨ret_int HF.out.symm, (by repeat' (first | assumption | exact Kept.refl _ _ | refine Kept.drewN ?_ _ | refine Kept.drew ?_ | refine Kept.alloc ?_ _ | refine Kept.setB ?_ _ _))⟩
  · have he : s.toList.isEmpty = false := by rw [ByteArray.toList_eq]; cases hx : s.data.toList with | nil => exact absurd hx h0 | cons a b => rfl
    have HF := hide (show wrongNu s.data.toList n = 1 by unfold wrongNu; rw [if_pos h0])
    clear h0
    go_enter Tryd.func41, Tryd.ntmps41
    go_wp2_with fail
    go_ret
    exact ⟨ret_int HF.out.symm, (by repeat' (first | assumption | exact Kept.refl _ _ | refine Kept.drewN ?_ _ | refine Kept.drew ?_ | refine Kept.alloc ?_ _ | refine Kept.setB ?_ _ _))⟩

theorem wrongText_any (k : Int) (s : ByteArray) (n : Int) (w : World) :
    Calls Tryd.prog 42 #[tokB k s n] w fun e w' => e = .returned (.int .i64 (wrongTe s.data.toList n)) ∧ Same w w' := by
  have hsz := size_toList s
  by_cases hn : n = 0
  · have hn' : (n != 0) = false := by simp [hn]
    by_cases hl : 40 < s.size
    · have HF := hide (show wrongTe s.data.toList n = 2 by unfold wrongTe; rw [if_neg (by simp [hn]), if_pos (by omega)])
      clear hn hsz
      go_enter Tryd.func42, Tryd.ntmps42
      go_wp2_with fail
      go_ret
      exact ⟨ret_int HF.out.symm, (by repeat' (first | assumption | exact Kept.refl _ _ | refine Kept.drewN ?_ _ | refine Kept.drew ?_ | refine Kept.alloc ?_ _ | refine Kept.setB ?_ _ _))⟩
    · have HF := hide (show wrongTe s.data.toList n = 0 by unfold wrongTe; rw [if_neg (by simp [hn]), if_neg (by omega)])
      clear hn hsz
      go_enter Tryd.func42, Tryd.ntmps42
      go_wp2_with fail
      go_ret
      exact ⟨ret_int HF.out.symm, (by repeat' (first | assumption | exact Kept.refl _ _ | refine Kept.drewN ?_ _ | refine Kept.drew ?_ | refine Kept.alloc ?_ _ | refine Kept.setB ?_ _ _))⟩
  · have hn' : (n != 0) = true := by simp [hn]
    have HF := hide (show wrongTe s.data.toList n = 1 by unfold wrongTe; rw [if_pos hn])
    clear hn hsz
    go_enter Tryd.func42, Tryd.ntmps42
    go_wp2_with fail
    go_ret
    exact ⟨ret_int HF.out.symm, (by repeat' (first | assumption | exact Kept.refl _ _ | refine Kept.drewN ?_ _ | refine Kept.drew ?_ | refine Kept.alloc ?_ _ | refine Kept.setB ?_ _ _))⟩

theorem wrongSign_any (k : Int) (s : ByteArray) (n : Int) (w : World) :
    Calls Tryd.prog 43 #[tokB k s n] w fun e w' => e = .returned (.int .i64 (wrongSi s.data.toList n)) ∧ Same w w' := by
  have hsz := size_toList s
  by_cases hn : n = 0
  · have hn' : (n != 0) = false := by simp [hn]
    by_cases hl : s.size = 1
    · have hl' : ((s.size : Int) != 1) = false := by simp; omega
      have hp0 : 0 < s.size := by omega
      have hd : s.data.toList.head?.getD 0 = s[0] := by
        have := drop_at (k := 0) hp0
        simp at this
        rw [this]; rfl
      have HS := hide (isSign_any s[0])
      cases hg : sgn s[0]
      · have HG := hide hg
        have HF := hide (show wrongSi s.data.toList n = 1 by unfold wrongSi; rw [if_pos (.inr (.inr (by rw [hd, hg])))])
        clear hn hsz hl hd hg
        go_enter Tryd.func43, Tryd.ntmps43
        go_wp2_with fail
        refine (HS.out _).mono ?_
        rintro e w1 ⟨rfl, rfl⟩
        rw [HG.out]
        go_wp2_with fail
        go_ret
        exact ⟨ret_int HF.out.symm, (by repeat' (first | assumption | exact Kept.refl _ _ | refine Kept.drewN ?_ _ | refine Kept.drew ?_ | refine Kept.alloc ?_ _ | refine Kept.setB ?_ _ _))⟩
      · have HG := hide hg
        have HF := hide (show wrongSi s.data.toList n = 0 by unfold wrongSi; rw [if_neg (by rw [hd, hg]; simp [hn]; simpa [hsz] using hl)])
        clear hn hsz hl hd hg
        go_enter Tryd.func43, Tryd.ntmps43
        go_wp2_with fail
        refine (HS.out _).mono ?_
        rintro e w1 ⟨rfl, rfl⟩
        rw [HG.out]
        go_wp2_with fail
        go_ret
        exact ⟨ret_int HF.out.symm, (by repeat' (first | assumption | exact Kept.refl _ _ | refine Kept.drewN ?_ _ | refine Kept.drew ?_ | refine Kept.alloc ?_ _ | refine Kept.setB ?_ _ _))⟩
    · have hl' : ((s.size : Int) != 1) = true := by simp; omega
      have HF := hide (show wrongSi s.data.toList n = 1 by unfold wrongSi; rw [if_pos (.inr (.inl (by omega)))])
      clear hn hsz hl
      go_enter Tryd.func43, Tryd.ntmps43
      go_wp2_with fail
      go_ret
      exact ⟨ret_int HF.out.symm, (by repeat' (first | assumption | exact Kept.refl _ _ | refine Kept.drewN ?_ _ | refine Kept.drew ?_ | refine Kept.alloc ?_ _ | refine Kept.setB ?_ _ _))⟩
  · have hn' : (n != 0) = true := by simp [hn]
    have HF := hide (show wrongSi s.data.toList n = 1 by unfold wrongSi; rw [if_pos (.inl hn)])
    clear hn hsz
    go_enter Tryd.func43, Tryd.ntmps43
    go_wp2_with fail
    go_ret
    exact ⟨ret_int HF.out.symm, (by repeat' (first | assumption | exact Kept.refl _ _ | refine Kept.drewN ?_ _ | refine Kept.drew ?_ | refine Kept.alloc ?_ _ | refine Kept.setB ?_ _ _))⟩

theorem wrong_any (k : Int) (s : ByteArray) (n : Int) (w : World) :
    Calls Tryd.prog 32 #[tokB k s n] w fun e w' => e = .returned (.int .i64 (wrongT ⟨k, s.data.toList, n⟩)) ∧ Same w w' := by
  by_cases h1 : k = 1
  · have HF := hide (show wrongT ⟨k, s.data.toList, n⟩ = wrongN s.data.toList n by unfold wrongT wrongN; rw [if_pos h1])
    have e1 : (k == 1) = true := by simp [h1]
    clear h1
    go_enter Tryd.func32, Tryd.ntmps32
    go_wp2_with fail
    refine (wrongName_any k s n _).mono ?_
    rintro e w1 ⟨rfl, hK⟩
    go_wp2_with fail
    go_ret
    exact ⟨ret_int HF.out.symm, hK.unA⟩
  have e1 : (k == 1) = false := by simp [h1]
  by_cases h2 : k = 2
  · have HF := hide (show wrongT ⟨k, s.data.toList, n⟩ = wrongNu s.data.toList n by unfold wrongT wrongNu; rw [if_neg h1, if_pos h2])
    have e2 : (k == 2) = true := by simp [h2]
    clear h1 h2
    go_enter Tryd.func32, Tryd.ntmps32
    go_wp2_with fail
    refine (wrongNumber_any k s n _).mono ?_
    rintro e w1 ⟨rfl, hK⟩
    go_wp2_with fail
    go_ret
    exact ⟨ret_int HF.out.symm, hK.unA⟩
  have e2 : (k == 2) = false := by simp [h2]
  by_cases h3 : k = 3
  · have HF := hide (show wrongT ⟨k, s.data.toList, n⟩ = wrongTe s.data.toList n by unfold wrongT wrongTe; rw [if_neg h1, if_neg h2, if_pos h3])
    have e3 : (k == 3) = true := by simp [h3]
    clear h1 h2 h3
    go_enter Tryd.func32, Tryd.ntmps32
    go_wp2_with fail
    refine (wrongText_any k s n _).mono ?_
    rintro e w1 ⟨rfl, hK⟩
    go_wp2_with fail
    go_ret
    exact ⟨ret_int HF.out.symm, hK.unA⟩
  have e3 : (k == 3) = false := by simp [h3]
  by_cases h4 : k = 4
  · have HF := hide (show wrongT ⟨k, s.data.toList, n⟩ = wrongSi s.data.toList n by unfold wrongT wrongSi; rw [if_neg h1, if_neg h2, if_neg h3, if_pos h4])
    have e4 : (k == 4) = true := by simp [h4]
    clear h1 h2 h3 h4
    go_enter Tryd.func32, Tryd.ntmps32
    go_wp2_with fail
    refine (wrongSign_any k s n _).mono ?_
    rintro e w1 ⟨rfl, hK⟩
    go_wp2_with fail
    go_ret
    exact ⟨ret_int HF.out.symm, hK.unA⟩
  have e4 : (k == 4) = false := by simp [h4]
  have HF := hide (show wrongT ⟨k, s.data.toList, n⟩ = 7 by unfold wrongT; rw [if_neg h1, if_neg h2, if_neg h3, if_neg h4])
  clear h1 h2 h3 h4
  go_enter Tryd.func32, Tryd.ntmps32
  go_wp2_with fail
  go_ret
  exact ⟨ret_int HF.out.symm, (by repeat' (first | assumption | exact Kept.refl _ _ | refine Kept.drewN ?_ _ | refine Kept.drew ?_ | refine Kept.alloc ?_ _ | refine Kept.setB ?_ _ _))⟩

end Go.Proofs.YtkkjchfhgjfclaaDoor

/- Slices of tokens in memory; halyardref.SameTokens. -/
namespace Go.Proofs.YtkkjchfhgjfclaaDoor
open Go.RowKit

/-- v is a slice of the tokens l, in w -/
def TokSl (w : World) (v : Value) (l : List Tok) : Prop :=
  ∃ ao cap, v = .slice ao l.length cap ∧ l.length ≤ 9000000000000 ∧ ∀ i t, l[i]? = some t → ∃ b off, ao = some ⟨b, off, none⟩ ∧
    w.cell? ⟨b, off + i * 3, none⟩ = some (.int .i64 t.k) ∧ w.cell? ⟨b, off + i * 3 + 1, none⟩ = some (.string ⟨t.s.toArray⟩) ∧ w.cell? ⟨b, off + i * 3 + 2, none⟩ = some (.int .i64 t.n)

def tokEq (a b : Tok) : Bool := decide (a.k = b.k) && decide (a.s = b.s) && decide (a.n = b.n)

theorem neq_tok (x y : Tok) (w : World) :
    (binOp .neq 41 (.agg #[.int .i64 x.k, .string ⟨x.s.toArray⟩, .int .i64 x.n]) (.agg #[.int .i64 y.k, .string ⟨y.s.toArray⟩, .int .i64 y.n])).run Tryd.prog w = .ok (.bool (!tokEq x y)) w := by
  rw [run_neq_struct, run_equalIn_agg _ _ _ _ _ (by kernel_rfl) (by kernel_rfl)]
  rw [show (Tryd.prog.fieldsOf 41).toList = [{ name := "Kind", type := 3, offset := 0, embedded := false, tag := "", pkgPath := "", byteOffset := 0 }, { name := "Text", type := 9, offset := 1, embedded := false, tag := "", pkgPath := "", byteOffset := 8 }, { name := "N", type := 3, offset := 2, embedded := false, tag := "", pkgPath := "", byteOffset := 24 }] from by kernel_rfl]
  simp [Op.eqFields, go_sem]
  unfold tokEq
  by_cases h1 : x.k = y.k <;> by_cases h2 : x.s = y.s <;> by_cases h3 : x.n = y.n <;> simp [h1, h2, h3]


theorem tokEq_iff (a b : Tok) : tokEq a b = true ↔ a = b := by
  unfold tokEq
  cases a; cases b
  simp [and_assoc]

def sameT : List Tok → List Tok → Bool
  | [], [] => true
  | x :: r, y :: r' => tokEq x y && sameT r r'
  | _, _ => false
theorem sameT_iff (a : List Tok) : ∀ b, sameT a b = true ↔ a = b := by
  induction a with
  | nil => intro b; cases b <;> simp [sameT]
  | cons x r ih => intro b; cases b with
    | nil => simp [sameT]
    | cons y r' => simp [sameT, ih, tokEq_iff]
theorem sameT_false {a b : List Tok} (h : a ≠ b) : sameT a b = false := by
  cases hx : sameT a b with
  | false => rfl
  | true => exact absurd ((sameT_iff a b).1 hx) h

theorem TokSl.at {w : World} {ao : Option Addr} {n cap : Nat} {l : List Tok} (h : TokSl w (.slice ao n cap) l) (i : Nat) (hi : i < l.length) : ∃ b off, ao = some ⟨b, off, none⟩ ∧
    w.cell? ⟨b, off + i * 3, none⟩ = some (.int .i64 l[i].k) ∧ w.cell? ⟨b, off + i * 3 + 1, none⟩ = some (.string ⟨l[i].s.toArray⟩) ∧ w.cell? ⟨b, off + i * 3 + 2, none⟩ = some (.int .i64 l[i].n) := by
  obtain ⟨ao', cap', hv, _, h3⟩ := h
  cases hv
  exact h3 i l[i] (List.getElem?_eq_getElem hi)

theorem TokSl.keep {w w' : World} {v : Value} {l : List Tok} (h : TokSl w v l) {X : Nat → Prop} (hk : Kept X w w') (hX : ∀ k, X k → w.heap.size ≤ k) : TokSl w' v l := by
  obtain ⟨ao, cap, hv, hl, hc⟩ := h
  refine ⟨ao, cap, hv, hl, fun i t ht => ?_⟩
  obtain ⟨b, off, ha, h0, h1, h2⟩ := hc i t ht
  have hb : b < w.heap.size := World.block_lt_of_cell? w _ h0
  have hx : ¬ X b := fun x => by have := hX b x; omega
  exact ⟨b, off, ha, hk.cell h0 hx, hk.cell h1 hx, hk.cell h2 hx⟩

theorem TokSl.same {w w' : World} {v : Value} {l : List Tok} (h : TokSl w v l) (hk : Same w w') : TokSl w' v l := h.keep hk (fun _ f => f.elim)

theorem TokSl.nil (w : World) : TokSl w (.slice none 0 0) [] := ⟨none, 0, rfl, by simp, fun i t h => by simp at h⟩

end Go.Proofs.YtkkjchfhgjfclaaDoor

/- Tokens as cells, and rows of them. -/
namespace Go.Proofs.YtkkjchfhgjfclaaDoor
open Go.RowKit

def tokC (t : Tok) : List Value := [.int .i64 t.k, .string ⟨t.s.toArray⟩, .int .i64 t.n]
def tokCells (l : List Tok) : List Value := l.flatMap tokC
theorem tokCells_snoc (l : List Tok) (t : Tok) : tokCells (l ++ [t]) = tokCells l ++ tokC t := by simp [tokCells]

theorem info39 : (Tryd.prog.info? 41).map (fun i => (i.zero, i.size, i.bytes)) = some (some (.agg #[.int .i64 0, .string ⟨#[]⟩, .int .i64 0]), 3, 32) := by kernel_rfl

theorem new_cells3 (w : World) (x y z : Value) (t : TypeId) : ∀ j u, [x, y, z][j]? = some u → ((w.alloc (.cells #[x, y, z] t)).drew).cell? ((⟨w.heap.size, 0, none⟩ : Addr).add j) = some u := by
  intro j u hj
  have hl : j < 3 := by
    rcases Nat.lt_or_ge j 3 with h | h
    · exact h
    · rw [List.getElem?_eq_none (by simpa using h)] at hj; cases hj
  rw [World.cell?_drew]
  match j, hl, hj with
  | 0, _, hj => simp at hj; subst hj; simp [Addr.add]
  | 1, _, hj => simp at hj; subst hj; simp [Addr.add]
  | 2, _, hj => simp at hj; subst hj; simp [Addr.add]

end Go.Proofs.YtkkjchfhgjfclaaDoor
