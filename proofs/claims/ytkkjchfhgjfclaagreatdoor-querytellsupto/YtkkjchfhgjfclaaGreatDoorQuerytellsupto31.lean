import Derived.Test.YtkkjchfhgjfclaaGreatDoorQuerytellsupto30
import Derived.Test.YtkkjchfhgjfclaaGreatDoorQuerytellsupto16
import Derived.Test.YtkkjchfhgjfclaaGreatDoorQuerytellsupto21
import Derived.Deep.CutRange
import Derived.Test.YtkkjchfhgjfclaaGreatDoorQuerytellsupto08
/- What must be in any case, of queries. -/
namespace Go.Proofs.YtkkjchfhgjfclaaGreatDoor
open Go.RowKit

set_option maxRecDepth 20000 in
set_option maxHeartbeats 1600000 in
theorem queryBegun_any (w : World) (ht : Tab w) :
    Calls Tryz.prog 5 #[] w fun e w' => e = .returned (.bool true) ∧ Same w w' := by
  have HT := hide ht
  clear ht
  go_enter Tryz.func5, Tryz.ntmps5
  go_wp2_with fail
  refine (qRead_ok _ _ ask1 (by exact rq1)).mono ?_
  rintro e w1 ⟨v1, rfl, hv1, hK1⟩
  obtain ⟨a1, c1, rfl, _, _⟩ := id hv1
  have HV1 := hide hv1.plain
  clear hv1
  go_wp2_with fail
  refine (ask_any _).mono ?_
  rintro e w2 ⟨b2, rfl, hv2, hK2⟩
  have hP := qPrint_ok w2 _ ask1 hv2 (tab_keep HT.out (tra hK1 hK2)) cq1
  rw [pq1] at hP
  have HP := hide hP
  clear hv2 hP
  go_wp2_with fail
  refine HP.out.mono ?_
  rintro e w3 ⟨rfl, hK3⟩
  go_wp2_with fail
  refine (qRead_bad _ _ 1 (by exact rq2)).mono ?_
  rintro e w4 ⟨rfl, hK4, _⟩
  go_wp2_with fail
  refine (ask_any _).mono ?_
  rintro e w5 ⟨b5, rfl, hv5, hK5⟩
  have hck := qCheck_any w5 _ ask1 hv5
  rw [cq1] at hck
  have HCK := hide hck
  clear hck hv5
  go_wp2_with fail
  refine HCK.out.mono ?_
  rintro e w6 ⟨rfl, hK6⟩
  go_wp2_with fail
  refine (ask_any _).mono ?_
  rintro e w7 ⟨b7, rfl, hv7, hK7⟩
  have HS := hide (sameSels_eq _ ask1 rfl w7 _ _ (HV1.out.same (tra (tra (tra (tra (tra hK2 hK3) hK4) hK5) hK6) hK7)) hv7)
  clear hv7
  go_wp2_with fail
  refine HS.out.mono ?_
  rintro e w8 ⟨rfl, n8, rfl⟩
  go_wp2
  go_ret
  exact ⟨rfl, Kept.drewN (tra (tra (tra (tra (tra (tra hK1 hK2) hK3) hK4) hK5) hK6) hK7) _⟩

end Go.Proofs.YtkkjchfhgjfclaaGreatDoor

/- halyardref.word, sign. -/
namespace Go.Proofs.YtkkjchfhgjfclaaGreatDoor
open Go.RowKit

theorem word_ref (w : World) (s : ByteArray) :
    Calls Tryz.prog 31 #[.string s] w fun e w' => e = .returned (.agg #[.int .i64 1, .string s, .int .i64 0]) ∧ Same w w' := by
  go_enter Tryz.func31, Tryz.ntmps31
  go_wp2_with fail
  refine bodyPost_ret (v := .agg #[.int .i64 1, .string s, .int .i64 0]) (by simp [results, Tryz.results31, go_sem]) rfl ⟨rfl, (by repeat' (first | assumption | exact Kept.refl _ _ | refine Kept.drewN ?_ _ | refine Kept.drew ?_ | refine Kept.alloc ?_ _ | refine Kept.setB ?_ _ _))⟩

theorem sign_ref (w : World) (s : ByteArray) :
    Calls Tryz.prog 30 #[.string s] w fun e w' => e = .returned (.agg #[.int .i64 4, .string s, .int .i64 0]) ∧ Same w w' := by
  go_enter Tryz.func30, Tryz.ntmps30
  go_wp2_with fail
  refine bodyPost_ret (v := .agg #[.int .i64 4, .string s, .int .i64 0]) (by simp [results, Tryz.results30, go_sem]) rfl ⟨rfl, (by repeat' (first | assumption | exact Kept.refl _ _ | refine Kept.drewN ?_ _ | refine Kept.drew ?_ | refine Kept.alloc ?_ _ | refine Kept.setB ?_ _ _))⟩

end Go.Proofs.YtkkjchfhgjfclaaGreatDoor

/- A row of tokens of one's own, and a box beside it. -/
namespace Go.Proofs.YtkkjchfhgjfclaaGreatDoor
open Go.RowKit

theorem tokCells_app (a b : List Tok) : tokCells (a ++ b) = tokCells a ++ tokCells b := by simp [tokCells]

/-- since w there is a row v of the tokens T, new, and a block o at g that is not the row's -/
structure RowB (w wr : World) (v : Value) (T : List Tok) (g : Nat) (o : Obj) : Prop where
  same : Same w wr
  own : wr.ownsRow w.heap.size 58 3 v T.length (tokCells T)
  box : wr.heap[g]? = some o
  ne : v.ownBlock ≠ some g
  low : w.heap.size ≤ g

theorem RowB.lt {w wr : World} {v : Value} {T : List Tok} {g : Nat} {o : Obj} (h : RowB w wr v T g o) : g < wr.heap.size := (Array.getElem?_eq_some_iff.1 h.box).1

theorem RowB.step {w wr w1 : World} {v : Value} {T : List Tok} {g : Nat} {o : Obj} (h : RowB w wr v T g o) (hk : Same wr w1) : RowB w w1 v T g o :=
  ⟨tra h.same hk, own_kept h.own hk (fun _ _ f => f), blk_kept h.box hk (fun f => f), h.ne, h.low⟩

/-- what an owned row is behind an append -/
theorem row_app {w w1 w2 : World} {v v2 : Value} {T : List Tok} (hs : Same w w1) (ho : w1.ownsRow w.heap.size 58 3 v T.length (tokCells T)) (N : List Tok) {cs : List Value} {n : Nat} (hcs : cs = tokCells N) (hn : n = N.length)
    (hown : w2.ownsRow w.heap.size 58 3 v2 (T.length + n) (tokCells T ++ cs)) (hgr : w1.grownBy w2 v.ownBlock) :
    Same w w2 ∧ w2.ownsRow w.heap.size 58 3 v2 (T ++ N).length (tokCells (T ++ N)) := by
  refine ⟨hs.grown hgr (fun k hk hlt => by have := own_row ho k hk; omega), ?_⟩
  rw [tokCells_app, List.length_append, ← hcs, ← hn]
  exact hown

theorem RowB.app {w w1 w2 : World} {v v2 : Value} {T : List Tok} {g : Nat} {o : Obj} (h : RowB w w1 v T g o) (N : List Tok) {cs : List Value} {n : Nat} (hcs : cs = tokCells N) (hn : n = N.length)
    (hown : w2.ownsRow w.heap.size 58 3 v2 (T.length + n) (tokCells T ++ cs)) (hgr : w1.grownBy w2 v.ownBlock) (hat : v2.ownBlock = v.ownBlock ∨ v2.ownBlock = some w1.heap.size) : RowB w w2 v2 (T ++ N) g o := by
  obtain ⟨h1, h2⟩ := row_app h.same h.own N hcs hn hown hgr
  refine ⟨h1, h2, blk_kept h.box (grown_kept hgr) (fun e => h.ne e.symm), fun e => ?_, h.low⟩
  rcases hat with k | k
  · exact h.ne (k.symm.trans e)
  · have e2 := Option.some.inj (k.symm.trans e)
    have := h.lt
    omega

theorem new_cs (w : World) (cs : List Value) (t : TypeId) : ∀ j u, cs[j]? = some u → (w.alloc (.cells cs.toArray t)).cell? ((⟨w.heap.size, 0, none⟩ : Addr).add j) = some u := by
  intro j u hj
  rw [add_none, Nat.zero_add, World.cell?_alloc_new]
  simpa using hj

theorem tokCells_one (l : List Tok) : ∀ u ∈ tokCells l, u.oneCell' = true := by
  intro u hu
  obtain ⟨t, _, ht⟩ := List.mem_flatMap.1 hu
  exact tokC_one t u ht

theorem tokCells_len (l : List Tok) : (tokCells l).length = l.length * 3 := by
  induction l with
  | nil => rfl
  | cons t l ih =>
    have : tokCells (t :: l) = tokC t ++ tokCells l := by simp [tokCells]
    rw [this, List.length_append, ih]
    simp [tokC]
    omega

theorem enters_word (args : Array Value) (w : World) : (callFunc 31 args).run Tryz.prog w = .ok (.enter 31 args) w := by kernel_rfl
theorem enters_sign (args : Array Value) (w : World) : (callFunc 30 args).run Tryz.prog w = .ok (.enter 30 args) w := by kernel_rfl

end Go.Proofs.YtkkjchfhgjfclaaGreatDoor

/- The tokens of a right query as the reference lays them. -/
namespace Go.Proofs.YtkkjchfhgjfclaaGreatDoor

def valR (a : ArgT) : Tok := if a.isText then ⟨3, a.text, 0⟩ else ⟨2, [], a.n⟩
theorem valR_eq {a : ArgT} (h : wrongT (valueT a) = 0) : valR a = valueT a := by
  obtain ⟨nm, t, x, n⟩ := a
  cases t
  · simp only [valueT, valR, wrongT, Bool.false_eq_true, if_false] at h ⊢
    by_cases hx : x = []
    · rw [hx]
    · rw [if_neg (by decide), if_pos trivial, if_pos hx] at h
      cases h
  · simp only [valueT, valR, wrongT, if_true] at h ⊢
    by_cases hn : n = 0
    · rw [hn]
    · rw [if_neg (by decide), if_neg (by decide), if_pos hn] at h
      cases h

def argToksR : List ArgT → List Tok
  | [] => []
  | a :: r => nameT a.name :: signT [58] :: valR a :: argToksR r
theorem argToksR_app (a b : List ArgT) : argToksR (a ++ b) = argToksR a ++ argToksR b := by
  induction a with
  | nil => rfl
  | cons f a ih => simp [argToksR, ih]
theorem argToksR_len (l : List ArgT) : (argToksR l).length = 3 * l.length := by
  induction l with
  | nil => rfl
  | cons a l ih => simp [argToksR, ih]; omega
theorem argToksR_eq (l : List ArgT) (h : okT (argToks l)) : argToksR l = argToks l := by
  induction l with
  | nil => rfl
  | cons a l ih =>
    rw [argToksR, argToks, valR_eq (h (valueT a) (by simp [argToks])), ih (fun t ht => h t (by simp [argToks, ht]))]

def selToksR : Sels → List Tok
  | .nil => []
  | .cons al nm args k r =>
    (if al = [] then [] else [nameT al, signT [58]]) ++ [nameT nm] ++ (if args = [] then [] else signT [40] :: (argToksR args ++ [signT [41]])) ++
      (if k.len = 0 then [] else signT [123] :: (selToksR k ++ [signT [125]])) ++ selToksR r
theorem selToksR_app (a b : Sels) : selToksR (appS a b) = selToksR a ++ selToksR b := by
  induction a with
  | nil => rfl
  | cons al nm args k r _ ih => rw [appS, selToksR, selToksR, ih]; simp only [List.append_assoc]

theorem selToksR_eq (s : Sels) (h : okT (selToks s)) : selToksR s = selToks s := by
  induction s with
  | nil => rfl
  | cons al nm args k r ihk ihr =>
    rw [selToks] at h
    have hr : okT (selToks r) := fun t ht => h t (List.mem_append_right _ ht)
    have hk : k.len ≠ 0 → okT (selToks k) := fun hk t ht => h t (List.mem_append_left _ (List.mem_append_right _ (by rw [if_neg hk]; simp [ht])))
    have ha : args ≠ [] → okT (argToks args) := fun ha t ht => h t (List.mem_append_left _ (List.mem_append_left _ (List.mem_append_right _ (by rw [if_neg ha]; simp [ht]))))
    rw [selToksR, selToks, ihr hr]
    by_cases h1 : args = []
    · by_cases h2 : k.len = 0
      · rw [if_pos h1, if_pos h2, if_pos h1, if_pos h2]
      · rw [if_pos h1, if_neg h2, if_pos h1, if_neg h2, ihk (hk h2)]
    · by_cases h2 : k.len = 0
      · rw [if_neg h1, if_pos h2, if_neg h1, if_pos h2, argToksR_eq _ (ha h1)]
      · rw [if_neg h1, if_neg h2, if_neg h1, if_neg h2, argToksR_eq _ (ha h1), ihk (hk h2)]

end Go.Proofs.YtkkjchfhgjfclaaGreatDoor

/- The tokens of args up to a place. -/
namespace Go.Proofs.YtkkjchfhgjfclaaGreatDoor
open Go.RowKit

/-- the args' tokens up to a place -/
def argPre (l : List ArgT) (t : Nat) : List Tok := if t = 0 then [] else (signT [40] :: argToksR (l.take t)) ++ (if t = l.length then [signT [41]] else [])
theorem argPre_zero (l : List ArgT) : argPre l 0 = [] := rfl
theorem argPre_all (l : List ArgT) : argPre l l.length = if l = [] then [] else signT [40] :: (argToksR l ++ [signT [41]]) := by
  unfold argPre
  cases l with
  | nil => rfl
  | cons a l => simp
/-- the args' tokens at a round, behind its bracket -/
def argMid (l : List ArgT) (t : Nat) : List Tok := signT [40] :: argToksR (l.take t)
theorem argMid_zero (l : List ArgT) : argPre l 0 ++ [signT [40]] = argMid l 0 := rfl
theorem argMid_pos (l : List ArgT) (t : Nat) (h : 0 < t) (h2 : t < l.length) : argPre l t = argMid l t := by
  unfold argPre argMid
  rw [if_neg (by omega), if_neg (by omega), List.append_nil]
theorem argMid_step (l : List ArgT) (t : Nat) (h : t < l.length) : argMid l t ++ [nameT l[t].name, signT [58], valR l[t]] = argMid l (t + 1) := by
  unfold argMid
  rw [List.take_succ_eq_append_getElem h, argToksR_app]
  simp [argToksR]
theorem argPre_last (l : List ArgT) (t : Nat) (h : t + 1 = l.length) : argMid l (t + 1) ++ [signT [41]] = argPre l (t + 1) := by
  unfold argPre argMid
  rw [if_neg (by omega), if_pos h]
theorem argPre_more (l : List ArgT) (t : Nat) (h : t + 1 ≠ l.length) : argMid l (t + 1) = argPre l (t + 1) := by
  unfold argPre argMid
  rw [if_neg (by omega), if_neg h, List.append_nil]
theorem argMid_len (l : List ArgT) (t : Nat) : (argMid l t).length ≤ 1 + 3 * l.length := by
  unfold argMid
  have : (l.take t).length ≤ l.length := by rw [List.length_take]; omega
  simp [argToksR_len]
  omega
theorem argPre_len (l : List ArgT) (t : Nat) : (argPre l t).length ≤ 2 + 3 * l.length := by
  unfold argPre
  have : (l.take t).length ≤ l.length := by rw [List.length_take]; omega
  split
  · simp
  · split <;> simp [argToksR_len] <;> omega

end Go.Proofs.YtkkjchfhgjfclaaGreatDoor
