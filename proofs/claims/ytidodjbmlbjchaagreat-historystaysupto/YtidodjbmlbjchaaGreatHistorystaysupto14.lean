import Derived.Test.YtidodjbmlbjchaaGreatHistorystaysupto13
import Derived.Test.YtidodjbmlbjchaaGreatHistorystaysupto11
import Derived.Test.YtidodjbmlbjchaaGreatChecked
import Derived.Test.YtidodjbmlbjchaaGreatHistorystaysupto12
import Derived.Test.YtidodjbmlbjchaaGreatHistorystaysupto04
/- Walks of lex: what is wrong with a token. -/
namespace Go.Proofs.YtidodjbmlbjchaaGreat
open Go.RowKit

abbrev tokB (k : Int) (s : ByteArray) (n : Int) : Value := .agg #[.int .i64 k, .string s, .int .i64 n]


def wrongN (s : List UInt8) (n : Int) : Int := if n ≠ 0 then 1 else if 12 < s.length then 2 else if nameOk s then 0 else 1
def wrongNu (s : List UInt8) (n : Int) : Int := if s ≠ [] then 1 else if n < -999999999 ∨ 999999999 < n then 3 else 0
def wrongTe (s : List UInt8) (n : Int) : Int := if n ≠ 0 then 1 else if 40 < s.length then 2 else 0
def wrongSi (s : List UInt8) (n : Int) : Int := if n ≠ 0 ∨ s.length ≠ 1 ∨ sgn (s.head?.getD 0) = false then 1 else 0

theorem wrongName_any (k : Int) (s : ByteArray) (n : Int) (w : World) :
    Calls Tryz.prog 119 #[tokB k s n] w fun e w' => e = .returned (.int .i64 (wrongN s.data.toList n)) ∧ Same w w' := by
  have hsz := size_toList s
  by_cases hn : n = 0
  · have hn' : (n != 0) = false := by simp [hn]
    by_cases hl : 12 < s.size
    · have HF := hide (show wrongN s.data.toList n = 2 by unfold wrongN; rw [if_neg (by simp [hn]), if_pos (by omega)])
      clear hn hsz
      go_enter Tryz.func119, Tryz.ntmps119
      go_wp2_with fail
      go_ret
      exact ⟨ret_int HF.out.symm, (by repeat' (first | assumption | exact Kept.refl _ _ | refine Kept.drewN ?_ _ | refine Kept.drew ?_ | refine Kept.alloc ?_ _ | refine Kept.setB ?_ _ _))⟩
    · have HI := hide (fun w => isName_any s w (by omega))
      have HF := hide (show wrongN s.data.toList n = if nameOk s.data.toList then 0 else 1 by unfold wrongN; rw [if_neg (by simp [hn]), if_neg (by omega)])
      clear hn hsz
      go_enter Tryz.func119, Tryz.ntmps119
      go_wp2_with fail
      refine (HI.out _).mono ?_
      rintro e w1 ⟨rfl, rfl⟩
      cases hb : nameOk s.data.toList
      all_goals
        have HB := hide hb
        clear hb
        go_wp2_with fail
        go_ret
        exact ⟨ret_int (by rw [HF.out, HB.out]; rfl), (by repeat' (first | assumption | exact Kept.refl _ _ | refine Kept.drewN ?_ _ | refine Kept.drew ?_ | refine Kept.alloc ?_ _ | refine Kept.setB ?_ _ _))⟩
  · have hn' : (n != 0) = true := by simp [hn]
    have HF := hide (show wrongN s.data.toList n = 1 by unfold wrongN; rw [if_pos hn])
    clear hn hsz
    go_enter Tryz.func119, Tryz.ntmps119
    go_wp2_with fail
    go_ret
    exact ⟨ret_int HF.out.symm, (by repeat' (first | assumption | exact Kept.refl _ _ | refine Kept.drewN ?_ _ | refine Kept.drew ?_ | refine Kept.alloc ?_ _ | refine Kept.setB ?_ _ _))⟩

theorem wrongNumber_any (k : Int) (s : ByteArray) (n : Int) (w : World) :
    Calls Tryz.prog 120 #[tokB k s n] w fun e w' => e = .returned (.int .i64 (wrongNu s.data.toList n)) ∧ Same w w' := by
  by_cases h0 : s.data.toList = []
  · have he : s.toList.isEmpty = true := by rw [ByteArray.toList_eq, h0]; rfl
    by_cases hr : n < -999999999 ∨ 999999999 < n
    · have HF := hide (show wrongNu s.data.toList n = 3 by unfold wrongNu; rw [if_neg (by simp [h0]), if_pos hr])
      have HI := hide (pIntB_no hr)
      clear h0 hr
      go_enter Tryz.func120, Tryz.ntmps120
      go_wp2_with fail
      refine (pIsInt n _).mono ?_
      rintro e w1 ⟨rfl, rfl⟩
      rw [HI.out]
      go_wp2_with fail
      go_ret
      exact ⟨ret_int HF.out.symm, (by repeat' (first | assumption | exact Kept.refl _ _ | refine Kept.drewN ?_ _ | refine Kept.drew ?_ | refine Kept.alloc ?_ _ | refine Kept.setB ?_ _ _))⟩
    · have HF := hide (show wrongNu s.data.toList n = 0 by unfold wrongNu; rw [if_neg (by simp [h0]), if_neg hr])
      have HI := hide (pIntB_yes (n := n) (by omega) (by omega))
      clear h0 hr
      go_enter Tryz.func120, Tryz.ntmps120
      go_wp2_with fail
      refine (pIsInt n _).mono ?_
      rintro e w1 ⟨rfl, rfl⟩
      rw [HI.out]
      go_wp2_with fail
      go_ret
      exact ⟨ret_int HF.out.symm, (by repeat' (first | assumption | exact Kept.refl _ _ | refine Kept.drewN ?_ _ | refine Kept.drew ?_ | refine Kept.alloc ?_ _ | refine Kept.setB ?_ _ _))⟩
  · have he : s.toList.isEmpty = false := by rw [ByteArray.toList_eq]; cases hx : s.data.toList with | nil => exact absurd hx h0 | cons a b => rfl
    have HF := hide (show wrongNu s.data.toList n = 1 by unfold wrongNu; rw [if_pos h0])
    clear h0
    go_enter Tryz.func120, Tryz.ntmps120
    go_wp2_with fail
    go_ret
    exact ⟨ret_int HF.out.symm, (by repeat' (first | assumption | exact Kept.refl _ _ | refine Kept.drewN ?_ _ | refine Kept.drew ?_ | refine Kept.alloc ?_ _ | refine Kept.setB ?_ _ _))⟩

theorem wrongText_any (k : Int) (s : ByteArray) (n : Int) (w : World) :
    Calls Tryz.prog 121 #[tokB k s n] w fun e w' => e = .returned (.int .i64 (wrongTe s.data.toList n)) ∧ Same w w' := by
  have hsz := size_toList s
  by_cases hn : n = 0
  · have hn' : (n != 0) = false := by simp [hn]
    by_cases hl : 40 < s.size
    · have HF := hide (show wrongTe s.data.toList n = 2 by unfold wrongTe; rw [if_neg (by simp [hn]), if_pos (by omega)])
      clear hn hsz
      go_enter Tryz.func121, Tryz.ntmps121
      go_wp2_with fail
      go_ret
      exact ⟨ret_int HF.out.symm, (by repeat' (first | assumption | exact Kept.refl _ _ | refine Kept.drewN ?_ _ | refine Kept.drew ?_ | refine Kept.alloc ?_ _ | refine Kept.setB ?_ _ _))⟩
    · have HF := hide (show wrongTe s.data.toList n = 0 by unfold wrongTe; rw [if_neg (by simp [hn]), if_neg (by omega)])
      clear hn hsz
      go_enter Tryz.func121, Tryz.ntmps121
      go_wp2_with fail
      go_ret
      exact ⟨ret_int HF.out.symm, (by repeat' (first | assumption | exact Kept.refl _ _ | refine Kept.drewN ?_ _ | refine Kept.drew ?_ | refine Kept.alloc ?_ _ | refine Kept.setB ?_ _ _))⟩
  · have hn' : (n != 0) = true := by simp [hn]
    have HF := hide (show wrongTe s.data.toList n = 1 by unfold wrongTe; rw [if_pos hn])
    clear hn hsz
    go_enter Tryz.func121, Tryz.ntmps121
    go_wp2_with fail
    go_ret
    exact ⟨ret_int HF.out.symm, (by repeat' (first | assumption | exact Kept.refl _ _ | refine Kept.drewN ?_ _ | refine Kept.drew ?_ | refine Kept.alloc ?_ _ | refine Kept.setB ?_ _ _))⟩

theorem wrongSign_any (k : Int) (s : ByteArray) (n : Int) (w : World) :
    Calls Tryz.prog 122 #[tokB k s n] w fun e w' => e = .returned (.int .i64 (wrongSi s.data.toList n)) ∧ Same w w' := by
  have hsz := size_toList s
  by_cases hn : n = 0
  · have hn' : (n != 0) = false := by simp [hn]
    by_cases hl : s.size = 1
    · have hl' : ((s.size : Int) != 1) = false := by simp; omega
      have hp0 : 0 < s.size := by omega
      have hd : s.data.toList.head?.getD 0 = s[0] := by
        have := drop_at (k := 0) hp0
        simp at this
        rw [this]; rfl
      have HS := hide (isSign_any s[0])
      cases hg : sgn s[0]
      · have HG := hide hg
        have HF := hide (show wrongSi s.data.toList n = 1 by unfold wrongSi; rw [if_pos (.inr (.inr (by rw [hd, hg])))])
        clear hn hsz hl hd hg
        go_enter Tryz.func122, Tryz.ntmps122
        go_wp2_with fail
        refine (HS.out _).mono ?_
        rintro e w1 ⟨rfl, rfl⟩
        rw [HG.out]
        go_wp2_with fail
        go_ret
        exact ⟨ret_int HF.out.symm, (by repeat' (first | assumption | exact Kept.refl _ _ | refine Kept.drewN ?_ _ | refine Kept.drew ?_ | refine Kept.alloc ?_ _ | refine Kept.setB ?_ _ _))⟩
      · have HG := hide hg
        have HF := hide (show wrongSi s.data.toList n = 0 by unfold wrongSi; rw [if_neg (by rw [hd, hg]; simp [hn]; simpa [hsz] using hl)])
        clear hn hsz hl hd hg
        go_enter Tryz.func122, Tryz.ntmps122
        go_wp2_with fail
        refine (HS.out _).mono ?_
        rintro e w1 ⟨rfl, rfl⟩
        rw [HG.out]
        go_wp2_with fail
        go_ret
        exact ⟨ret_int HF.out.symm, (by repeat' (first | assumption | exact Kept.refl _ _ | refine Kept.drewN ?_ _ | refine Kept.drew ?_ | refine Kept.alloc ?_ _ | refine Kept.setB ?_ _ _))⟩
    · have hl' : ((s.size : Int) != 1) = true := by simp; omega
      have HF := hide (show wrongSi s.data.toList n = 1 by unfold wrongSi; rw [if_pos (.inr (.inl (by omega)))])
      clear hn hsz hl
      go_enter Tryz.func122, Tryz.ntmps122
      go_wp2_with fail
      go_ret
      exact ⟨ret_int HF.out.symm, (by repeat' (first | assumption | exact Kept.refl _ _ | refine Kept.drewN ?_ _ | refine Kept.drew ?_ | refine Kept.alloc ?_ _ | refine Kept.setB ?_ _ _))⟩
  · have hn' : (n != 0) = true := by simp [hn]
    have HF := hide (show wrongSi s.data.toList n = 1 by unfold wrongSi; rw [if_pos (.inl hn)])
    clear hn hsz
    go_enter Tryz.func122, Tryz.ntmps122
    go_wp2_with fail
    go_ret
    exact ⟨ret_int HF.out.symm, (by repeat' (first | assumption | exact Kept.refl _ _ | refine Kept.drewN ?_ _ | refine Kept.drew ?_ | refine Kept.alloc ?_ _ | refine Kept.setB ?_ _ _))⟩

theorem wrong_any (k : Int) (s : ByteArray) (n : Int) (w : World) :
    Calls Tryz.prog 111 #[tokB k s n] w fun e w' => e = .returned (.int .i64 (wrongT ⟨k, s.data.toList, n⟩)) ∧ Same w w' := by
  by_cases h1 : k = 1
  · have HF := hide (show wrongT ⟨k, s.data.toList, n⟩ = wrongN s.data.toList n by unfold wrongT wrongN; rw [if_pos h1])
    have e1 : (k == 1) = true := by simp [h1]
    clear h1
    go_enter Tryz.func111, Tryz.ntmps111
    go_wp2_with fail
    refine (wrongName_any k s n _).mono ?_
    rintro e w1 ⟨rfl, hK⟩
    go_wp2_with fail
    go_ret
    exact ⟨ret_int HF.out.symm, hK.unA⟩
  have e1 : (k == 1) = false := by simp [h1]
  by_cases h2 : k = 2
  · have HF := hide (show wrongT ⟨k, s.data.toList, n⟩ = wrongNu s.data.toList n by unfold wrongT wrongNu; rw [if_neg h1, if_pos h2])
    have e2 : (k == 2) = true := by simp [h2]
    clear h1 h2
    go_enter Tryz.func111, Tryz.ntmps111
    go_wp2_with fail
    refine (wrongNumber_any k s n _).mono ?_
    rintro e w1 ⟨rfl, hK⟩
    go_wp2_with fail
    go_ret
    exact ⟨ret_int HF.out.symm, hK.unA⟩
  have e2 : (k == 2) = false := by simp [h2]
  by_cases h3 : k = 3
  · have HF := hide (show wrongT ⟨k, s.data.toList, n⟩ = wrongTe s.data.toList n by unfold wrongT wrongTe; rw [if_neg h1, if_neg h2, if_pos h3])
    have e3 : (k == 3) = true := by simp [h3]
    clear h1 h2 h3
    go_enter Tryz.func111, Tryz.ntmps111
    go_wp2_with fail
    refine (wrongText_any k s n _).mono ?_
    rintro e w1 ⟨rfl, hK⟩
    go_wp2_with fail
    go_ret
    exact ⟨ret_int HF.out.symm, hK.unA⟩
  have e3 : (k == 3) = false := by simp [h3]
  by_cases h4 : k = 4
  · have HF := hide (show wrongT ⟨k, s.data.toList, n⟩ = wrongSi s.data.toList n by unfold wrongT wrongSi; rw [if_neg h1, if_neg h2, if_neg h3, if_pos h4])
    have e4 : (k == 4) = true := by simp [h4]
    clear h1 h2 h3 h4
    go_enter Tryz.func111, Tryz.ntmps111
    go_wp2_with fail
    refine (wrongSign_any k s n _).mono ?_
    rintro e w1 ⟨rfl, hK⟩
    go_wp2_with fail
    go_ret
    exact ⟨ret_int HF.out.symm, hK.unA⟩
  have e4 : (k == 4) = false := by simp [h4]
  have HF := hide (show wrongT ⟨k, s.data.toList, n⟩ = 7 by unfold wrongT; rw [if_neg h1, if_neg h2, if_neg h3, if_neg h4])
  clear h1 h2 h3 h4
  go_enter Tryz.func111, Tryz.ntmps111
  go_wp2_with fail
  go_ret
  exact ⟨ret_int HF.out.symm, (by repeat' (first | assumption | exact Kept.refl _ _ | refine Kept.drewN ?_ _ | refine Kept.drew ?_ | refine Kept.alloc ?_ _ | refine Kept.setB ?_ _ _))⟩

end Go.Proofs.YtidodjbmlbjchaaGreat

/- A struct of three cells; a row owned. -/
namespace Go.Proofs.YtidodjbmlbjchaaGreat
open Go.RowKit

theorem cells3 {w : World} {g : Nat} {x y z : Value} {t : TypeId} (h : w.heap[g]? = some (.cells #[x, y, z] t (0, 0))) :
    w.cell? ⟨g, 0, none⟩ = some x ∧ w.cell? ⟨g, 1, none⟩ = some y ∧ w.cell? ⟨g, 2, none⟩ = some z ∧ w.frozen? ⟨g, 0, none⟩ = false ∧ w.frozen? ⟨g, 1, none⟩ = false ∧ w.frozen? ⟨g, 2, none⟩ = false := by
  simp [World.cell?, World.frozen?, h]

theorem set3 {w : World} {g : Nat} {x y z : Value} {t : TypeId} (h : w.heap[g]? = some (.cells #[x, y, z] t (0, 0))) (a b c : Value) :
    (((w.setCell ⟨g, 0, none⟩ a).setCell ⟨g, 1, none⟩ b).setCell ⟨g, 2, none⟩ c).heap[g]? = some (.cells #[a, b, c] t (0, 0)) := by
  simp [World.setCell, Array.getElem?_modify, h]

theorem keep_set3 {X : Nat → Prop} {w w1 : World} (h : Kept X w w1) (x y z : Value) :
    Kept X w (((w1.setCell ⟨w.heap.size, 0, none⟩ x).setCell ⟨w.heap.size, 1, none⟩ y).setCell ⟨w.heap.size, 2, none⟩ z) :=
  ((h.setCell (fun hl => absurd hl (Nat.lt_irrefl _)) _).setCell (fun hl => absurd hl (Nat.lt_irrefl _)) _).setCell (fun hl => absurd hl (Nat.lt_irrefl _)) _

theorem own_base {w : World} {base base' : Nat} {e : TypeId} {size : Nat} {v : Value} {n : Nat} {xs : List Value} (h : w.ownsRow base e size v n xs) (hb : base' ≤ base) : w.ownsRow base' e size v n xs := by
  obtain ⟨h1, h2⟩ := h
  refine ⟨h1, ?_⟩
  rcases h2 with h2 | ⟨g, cap, cur, hv, hg, r⟩
  · exact Or.inl h2
  · exact Or.inr ⟨g, cap, cur, hv, Nat.le_trans hb hg, r⟩

theorem own_slice {w : World} {base : Nat} {e : TypeId} {size : Nat} {v : Value} {n : Nat} {xs : List Value} (h : w.ownsRow base e size v n xs) : ∃ ao cap, v = .slice ao n cap := by
  rcases h.2 with ⟨rfl, rfl⟩ | ⟨g, cap, cur, hv, _⟩
  · exact ⟨none, 0, rfl⟩
  · exact ⟨_, cap, hv⟩

end Go.Proofs.YtidodjbmlbjchaaGreat

/- Tokens as cells, and rows of them. -/
namespace Go.Proofs.YtidodjbmlbjchaaGreat
open Go.RowKit

def tokC (t : Tok) : List Value := [.int .i64 t.k, .string ⟨t.s.toArray⟩, .int .i64 t.n]
def tokCells (l : List Tok) : List Value := l.flatMap tokC
theorem tokCells_snoc (l : List Tok) (t : Tok) : tokCells (l ++ [t]) = tokCells l ++ tokC t := by simp [tokCells]

theorem info39 : (Tryz.prog.info? 126).map (fun i => (i.zero, i.size, i.bytes)) = some (some (.agg #[.int .i64 0, .string ⟨#[]⟩, .int .i64 0]), 3, 32) := by kernel_rfl

theorem new_cells3 (w : World) (x y z : Value) (t : TypeId) : ∀ j u, [x, y, z][j]? = some u → ((w.alloc (.cells #[x, y, z] t)).drew).cell? ((⟨w.heap.size, 0, none⟩ : Addr).add j) = some u := by
  intro j u hj
  have hl : j < 3 := by
    rcases Nat.lt_or_ge j 3 with h | h
    · exact h
    · rw [List.getElem?_eq_none (by simpa using h)] at hj; cases hj
  rw [World.cell?_drew]
  match j, hl, hj with
  | 0, _, hj => simp at hj; subst hj; simp [Addr.add]
  | 1, _, hj => simp at hj; subst hj; simp [Addr.add]
  | 2, _, hj => simp at hj; subst hj; simp [Addr.add]

end Go.Proofs.YtidodjbmlbjchaaGreat

/- lex.Check, whatever it is handed; owned rows are slices of tokens. -/
namespace Go.Proofs.YtidodjbmlbjchaaGreat
open Go.RowKit

theorem tokCells_get (l : List Tok) : ∀ (i : Nat) (t : Tok), l[i]? = some t → (tokCells l)[3 * i]? = some (.int .i64 t.k) ∧ (tokCells l)[3 * i + 1]? = some (.string ⟨t.s.toArray⟩) ∧ (tokCells l)[3 * i + 2]? = some (.int .i64 t.n) := by
  induction l with
  | nil => intro i t h; simp at h
  | cons x r ih =>
    intro i t h
    have e : tokCells (x :: r) = .int .i64 x.k :: .string ⟨x.s.toArray⟩ :: .int .i64 x.n :: tokCells r := by simp [tokCells, tokC]
    cases i with
    | zero => simp at h; subst h; rw [e]; simp
    | succ i =>
      simp at h
      have := ih i t h
      rw [e, show 3 * (i + 1) = 3 * i + 1 + 1 + 1 from by omega, show 3 * i + 1 + 1 + 1 + 1 = (3 * i + 1) + 1 + 1 + 1 from rfl, show 3 * i + 1 + 1 + 1 + 2 = (3 * i + 2) + 1 + 1 + 1 from by omega]
      simpa using this

theorem own_toks {w : World} {base : Nat} {v : Value} {l : List Tok} (h : w.ownsRow base 126 3 v l.length (tokCells l)) (hl : l.length ≤ 9000000000000) : TokSl w v l := by
  have hc := fun g => World.ownsRow.cells h (g := g)
  rcases h.2 with ⟨rfl, h0⟩ | ⟨g, cap, cur, rfl, hg, hb, hc1, hc2, hc3, htk⟩
  · obtain rfl : l = [] := List.length_eq_zero_iff.1 h0
    exact TokSl.nil w
  · refine ⟨_, cap, rfl, hl, fun i t ht => ⟨g, 0, rfl, ?_⟩⟩
    obtain ⟨h1, h2, h3⟩ := tokCells_get l i t ht
    have k1 := hc g rfl _ _ h1
    have k2 := hc g rfl _ _ h2
    have k3 := hc g rfl _ _ h3
    have e : ∀ j, ((⟨g, 0, none⟩ : Addr).add j) = ⟨g, j, none⟩ := by
      intro j
      unfold Addr.add
      split
      · rename_i h; rw [h]
      · simp
    rw [e] at k1 k2 k3
    rw [show 0 + i * 3 = 3 * i from by omega]
    exact ⟨k1, k2, k3⟩

theorem checkF_step (l : List Tok) (k : Nat) (h : k < l.length) : checkF (l.drop k) = if wrongT l[k] ≠ 0 then wrongT l[k] else checkF (l.drop (k + 1)) := by
  rw [List.drop_eq_getElem_cons h, checkF]

set_option maxHeartbeats 800000 in
theorem check_any (w : World) (v : Value) (l : List Tok) (h : TokSl w v l) :
    Calls Tryz.prog 103 #[v] w fun e w' => e = .returned (.int .i64 (lexCheck l)) ∧ Same w w' := by
  obtain ⟨ao, cap, rfl, hl, hc⟩ := id h
  clear hc
  by_cases hbig : 300 < l.length
  · have HF := hide (show lexCheck l = 2 by unfold lexCheck; rw [if_pos hbig])
    go_enter Tryz.func103, Tryz.ntmps103
    go_wp2_with fail
    go_ret
    exact ⟨ret_int HF.out.symm, Kept.refl _ _⟩
  · have HF := hide (show lexCheck l = checkF l by unfold lexCheck; rw [if_neg hbig])
    go_enter Tryz.func103, Tryz.ntmps103
    go_wp2_with fail
    go_loopg [11] l.length (fun g i wr => ∃ k : Nat, k + g = l.length ∧ i = .int .i64 k ∧ Same w wr ∧ Hid (checkF l = checkF (l.drop k)))
    case atStart => exact ⟨0, by omega, rfl, Kept.refl _ _, rfl⟩
    case round =>
      obtain ⟨k, hk, rfl, hK, HE⟩ := hrel
      by_cases hlt : k < l.length
      · obtain ⟨b1, o1, e1, p0, p1, p2⟩ := (h.same hK).at k hlt
        subst e1
        have HS := hide (checkF_step l k hlt)
        go_wp2_with fail
        rw [show (Value.agg #[.int .i64 l[k].k, .string ⟨l[k].s.toArray⟩, .int .i64 l[k].n]) = tokB l[k].k ⟨l[k].s.toArray⟩ l[k].n from rfl]
        refine (wrong_any l[k].k ⟨l[k].s.toArray⟩ l[k].n _).mono ?_
        rintro e w4 ⟨rfl, hK5⟩
        have ew : wrongT ⟨l[k].k, (⟨l[k].s.toArray⟩ : ByteArray).data.toList, l[k].n⟩ = wrongT l[k] := by simp
        rw [ew]
        clear ew
        have hK6 : Same w w4 := (hK.alloc _).trans hK5 (fun _ _ f => f.elim)
        by_cases hw : wrongT l[k] = 0
        · have hw' : (wrongT l[k] != 0) = false := by simp [hw]
          have HW := hide hw
          clear hw
          go_wp2_with fail
          go_roundg (gk - 1)
          case measure => omega
          case rel => exact ⟨k + 1, by omega, by go_num, hK6, by show checkF l = _; rw [HE.out, HS.out, if_neg (by rw [HW.out]; decide)]⟩
        · have hw' : (wrongT l[k] != 0) = true := by simp [hw]
          have HW := hide hw
          clear hw
          go_wp2_with fail
          go_ret
          exact ⟨ret_int (by rw [HF.out, HE.out, HS.out, if_pos HW.out]), hK6⟩
      · go_wp2_with fail
        go_ret
        refine ⟨ret_int ?_, hK⟩
        rw [HF.out, HE.out, List.drop_eq_nil_of_le (by omega)]
        rfl

end Go.Proofs.YtidodjbmlbjchaaGreat

/- tokens.Name, WrongName. -/
namespace Go.Proofs.YtidodjbmlbjchaaGreat
open Go.RowKit

theorem tra {a b c : World} (h : Same a b) (k : Same b c) : Same a c := h.trans k (fun _ _ f => f.elim)

theorem tkName_any (w : World) (s : ByteArray) :
    Calls Tryz.prog 104 #[.string s] w fun e w' => e = .returned (.agg #[.int .i64 1, .string s, .int .i64 0]) ∧ Same w w' := by
  go_enter Tryz.func104, Tryz.ntmps104
  go_wp2_with fail
  refine bodyPost_ret (v := .agg #[.int .i64 1, .string s, .int .i64 0]) (by simp [results, Tryz.results104, go_sem]) rfl ⟨rfl, (by repeat' (first | assumption | exact Kept.refl _ _ | refine Kept.drewN ?_ _ | refine Kept.drew ?_ | refine Kept.alloc ?_ _ | refine Kept.setB ?_ _ _))⟩

theorem check_one (t : Tok) : lexCheck [t] = wrongT t := by
  unfold lexCheck
  rw [if_neg (by simp), checkF, checkF]
  by_cases h : wrongT t = 0
  · rw [if_neg (by simp [h]), h]
  · rw [if_pos h]

/-- one token in a block of its own -/
theorem tok_block {w : World} {g : Nat} {k n : Int} {s : ByteArray} (h0 : w.cell? ⟨g, 0, none⟩ = some (.int .i64 k)) (h1 : w.cell? ⟨g, 1, none⟩ = some (.string s)) (h2 : w.cell? ⟨g, 2, none⟩ = some (.int .i64 n)) :
    TokSl w (.slice (some ⟨g, 0, none⟩) 1 1) [⟨k, s.data.toList, n⟩] := by
  refine ⟨_, 1, rfl, by simp, fun i t ht => ⟨g, 0, rfl, ?_⟩⟩
  cases i with
  | zero => simp at ht; subst ht; exact ⟨by simpa using h0, by simpa using h1, by simpa using h2⟩
  | succ i => simp at ht

theorem tok_new (w : World) (k n : Int) (s : List UInt8) : TokSl (w.alloc (.cells #[.int .i64 k, .string ⟨s.toArray⟩, .int .i64 n] 126)) (.slice (some ⟨w.heap.size, 0, none⟩) 1 1) [⟨k, s, n⟩] := by
  have h := tok_block (w := w.alloc (.cells #[.int .i64 k, .string ⟨s.toArray⟩, .int .i64 n] 126)) (g := w.heap.size) (k := k) (n := n) (s := ⟨s.toArray⟩) (by simp) (by simp) (by simp)
  simpa using h

/-- lex.Check of one name in a slice of its own -/
theorem checkName1 (w1 : World) (s : List UInt8) (m : Int) (hm : wrongT (nameT s) = m) :
    Calls Tryz.prog 103 #[.slice (some ⟨w1.heap.size, 0, none⟩) 1 1] (w1.alloc (.cells #[.int .i64 1, .string ⟨s.toArray⟩, .int .i64 0] 126)) fun e w' => e = .returned (.int .i64 m) ∧ Same w1 w' := by
  have h := check_any _ _ _ (tok_new w1 1 0 s)
  rw [check_one, show wrongT ⟨1, s, 0⟩ = m from hm] at h
  refine h.mono ?_
  rintro e w' ⟨rfl, hK⟩
  exact ⟨rfl, tra ((Kept.refl _ w1).alloc _) hK⟩

/-- what is wrong with a name -/
theorem wrongName_is (w : World) (s : List UInt8) (m : Int) (hm : wrongT (nameT s) = m) :
    Calls Tryz.prog 89 #[.string ⟨s.toArray⟩] w fun e w' => e = .returned (.int .i64 m) ∧ Same w w' := by
  have HC := hide (fun w1 => checkName1 w1 s m hm)
  clear hm
  go_enter Tryz.func89, Tryz.ntmps89
  go_wp2_with fail
  refine (tkName_any _ _).mono ?_
  rintro e w1 ⟨rfl, hK1⟩
  go_wp2_with fail
  refine (HC.out w1).mono ?_
  rintro e w2 ⟨rfl, hK2⟩
  go_wp2_with fail
  go_ret
  exact ⟨rfl, tra hK1 hK2⟩

end Go.Proofs.YtidodjbmlbjchaaGreat
