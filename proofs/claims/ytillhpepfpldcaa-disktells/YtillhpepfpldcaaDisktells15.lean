import Derived.Test.YtillhpepfpldcaaDisktells01
import Derived.Test.YtillhpepfpldcaaDisktells03
/- Slices of strings in memory. -/
namespace Go.Proofs.Ytillhpepfpldcaa
open Go.RowKit

/-- v is a slice of the texts l -/
def StSl (P : Nat → Prop) (w : World) (v : Value) (l : List (List UInt8)) : Prop :=
  ∃ ao cap, v = .slice ao l.length cap ∧ (l.length ≤ maxLen ∧ l.length ≤ cap ∧ (ao = none → cap = 0)) ∧ ∀ i s, l[i]? = some s → ∃ b off, ao = some ⟨b, off, none⟩ ∧ P b ∧ w.cell? ⟨b, off + i, none⟩ = some (.string ⟨s.toArray⟩)

theorem StSl.keep {P X : Nat → Prop} {w w' : World} {v : Value} {l : List (List UInt8)} (h : StSl P w v l) (hk : Kept X w w') (hx : ∀ b, P b → ¬ X b) : StSl P w' v l := by
  obtain ⟨ao, cap, hv, hl, hc⟩ := h
  refine ⟨ao, cap, hv, hl, fun i t ht => ?_⟩
  obtain ⟨b, off, ha, hp, h0⟩ := hc i t ht
  exact ⟨b, off, ha, hp, hk.cell h0 (hx b hp)⟩
theorem StSl.same {P : Nat → Prop} {w w' : World} {v : Value} {l : List (List UInt8)} (h : StSl P w v l) (hk : Same w w') : StSl P w' v l := h.keep hk (fun _ _ f => f)
theorem StSl.mono {P Q : Nat → Prop} {w : World} {v : Value} {l : List (List UInt8)} (h : StSl P w v l) (hq : ∀ b, b < w.heap.size → P b → Q b) : StSl Q w v l := by
  obtain ⟨ao, cap, hv, hl, hc⟩ := h
  refine ⟨ao, cap, hv, hl, fun i t ht => ?_⟩
  obtain ⟨b, off, ha, hp, h0⟩ := hc i t ht
  exact ⟨b, off, ha, hq b (World.block_lt_of_cell? w _ h0) hp, h0⟩
theorem StSl.nil (P : Nat → Prop) (w : World) : StSl P w (.slice none 0 0) [] := ⟨none, 0, rfl, ⟨Nat.zero_le _, Nat.le_refl _, fun _ => rfl⟩, fun i t h => by simp at h⟩
theorem StSl.at {P : Nat → Prop} {w : World} {ao : Option Addr} {n cap : Nat} {l : List (List UInt8)} (h : StSl P w (.slice ao n cap) l) (i : Nat) (hi : i < l.length) : ∃ b off, ao = some ⟨b, off, none⟩ ∧ P b ∧ w.cell? ⟨b, off + i, none⟩ = some (.string ⟨l[i].toArray⟩) := by
  obtain ⟨ao', cap', hv, _, h3⟩ := h
  cases hv
  exact h3 i l[i] (List.getElem?_eq_getElem hi)
theorem StSl.len {P : Nat → Prop} {w : World} {ao : Option Addr} {n cap : Nat} {l : List (List UInt8)} (h : StSl P w (.slice ao n cap) l) : n = l.length ∧ l.length ≤ 9223372036854775807 ∧ l.length ≤ cap := by
  obtain ⟨_, _, hv, hl, _⟩ := h; cases hv; exact ⟨rfl, hl.1, hl.2.1⟩
theorem StSl.form {P : Nat → Prop} {w : World} {v : Value} {l : List (List UInt8)} (h : StSl P w v l) : ∃ ao cap, v = .slice ao l.length cap := by
  obtain ⟨ao, cap, hv, _⟩ := h; exact ⟨ao, cap, hv⟩

theorem StSl.none {P : Nat → Prop} {w : World} {ao : Option Addr} {n cap : Nat} {l : List (List UInt8)} (h : StSl P w (.slice ao n cap) l) : ao = none → l.length = 0 ∧ cap = 0 := by
  obtain ⟨ao', cap', hv, hl, hc⟩ := h
  cases hv
  intro e
  refine ⟨?_, hl.2.2 e⟩
  cases l with
  | nil => rfl
  | cons x t => obtain ⟨b, off, ha, _⟩ := hc 0 x rfl; rw [e] at ha; cases ha

def stCells (l : List (List UInt8)) : List Value := l.map fun s => .string ⟨s.toArray⟩
theorem stCells_len (l : List (List UInt8)) : (stCells l).length = l.length := by simp [stCells]
theorem stCells_one (l : List (List UInt8)) : ∀ u ∈ stCells l, u.oneCell' = true := by
  intro u hu
  simp only [stCells, List.mem_map] at hu
  obtain ⟨s, _, rfl⟩ := hu
  rfl
theorem stCells_get {l : List (List UInt8)} {i : Nat} {s : List UInt8} (h : l[i]? = some s) : (stCells l)[i]? = some (.string ⟨s.toArray⟩) := by
  unfold stCells; rw [List.getElem?_map, h]; rfl

/-- a row of texts that the call owns -/
abbrev OwnS (base : Nat) (w : World) (v : Value) (l : List (List UInt8)) : Prop := w.ownsRow base 9 1 v l.length (stCells l)
theorem own_sts {w : World} {base : Nat} {v : Value} {l : List (List UInt8)} (h : OwnS base w v l) (hl : l.length ≤ maxLen) : StSl (fun k => v.ownBlock = some k ∧ base ≤ k) w v l := by
  rcases h.2 with ⟨rfl, h0⟩ | ⟨g, cap, cur, rfl, hg, hb, hc1, hc2, hc3, htk⟩
  · obtain rfl : l = [] := List.length_eq_zero_iff.1 h0
    exact StSl.nil _ _
  · have hcells := World.ownsRow.cells (v := .slice (some ⟨g, 0, none⟩) l.length cap) h (g := g) rfl
    refine ⟨some ⟨g, 0, none⟩, cap, rfl, ⟨hl, by omega, fun e => (by cases e)⟩, fun i e he => ⟨g, 0, rfl, ⟨rfl, hg⟩, ?_⟩⟩
    have := hcells i _ (stCells_get he)
    rw [addr_add] at this
    exact this

end Go.Proofs.Ytillhpepfpldcaa

/- Disks, in plain Lean: what Check, Open, Append, Sync and Crash of chapter 11 answer. No program is named here. -/
namespace Go.Proofs.Ytillhpepfpldcaa

/-- the batches of a segment, what is left behind the last whole one, and what Decode says of that -/
def segF : Nat → List UInt8 → List BatchT × List UInt8 × Int
  | 0, s => ([], s, 5)
  | f + 1, s => match decodeB s with
    | .error e => ([], s, e)
    | .ok (b, n) => (b :: (segF f (s.drop n)).1, (segF f (s.drop n)).2.1, (segF f (s.drop n)).2.2)
def segT (s : List UInt8) : List BatchT × List UInt8 × Int := segF s.length s

def flatB (l : List BatchT) : List UInt8 := l.flatMap bytesB
def Rights (l : List BatchT) : Prop := ∀ b ∈ l, checkBa b = 0
theorem flatB_cons (b : BatchT) (l : List BatchT) : flatB (b :: l) = bytesB b ++ flatB l := by simp [flatB]
theorem flatB_app (a b : List BatchT) : flatB (a ++ b) = flatB a ++ flatB b := by simp [flatB]
theorem flatB_one (b : BatchT) : flatB [b] = bytesB b := by simp [flatB]

def SegIs (s : List UInt8) (l : List BatchT) (r : List UInt8) (e : Int) : Prop := Rights l ∧ s = flatB l ++ r ∧ decodeB r = .error e

theorem decodeB_nil : decodeB [] = .error 5 := rfl
theorem bytes_two (b : BatchT) : 2 ≤ (bytesB b).length := by unfold bytesB; rw [List.length_append, beN_len]; omega

theorem decode_split {s : List UInt8} {b : BatchT} {n : Nat} (h : decodeB s = .ok (b, n)) : checkBa b = 0 ∧ s = bytesB b ++ s.drop n ∧ n = (bytesB b).length ∧ 2 ≤ n ∧ n ≤ s.length := by
  obtain ⟨h1, h2, h3, h4⟩ := decode_inv h
  refine ⟨h1, by rw [h3, List.take_append_drop], by rw [h3, List.length_take]; omega, h4, h2⟩

theorem segF_is : ∀ (f : Nat) (s : List UInt8), s.length ≤ f → SegIs s (segF f s).1 (segF f s).2.1 (segF f s).2.2 := by
  intro f
  induction f with
  | zero =>
    intro s hs
    obtain rfl : s = [] := List.length_eq_zero_iff.1 (by omega)
    exact ⟨fun b hb => (by cases hb), rfl, decodeB_nil⟩
  | succ f ih =>
    intro s hs
    cases h : decodeB s with
    | error e =>
      simp only [segF, h]
      exact ⟨fun b hb => (by cases hb), rfl, h⟩
    | ok x =>
      obtain ⟨b, n⟩ := x
      obtain ⟨h1, h2, h3, h4, h5⟩ := decode_split h
      obtain ⟨i1, i2, i3⟩ := ih (s.drop n) (by rw [List.length_drop]; omega)
      simp only [segF, h]
      refine ⟨fun c hc => ?_, ?_, i3⟩
      · rcases List.mem_cons.1 hc with rfl | hc
        · exact h1
        · exact i1 c hc
      · rw [flatB_cons, List.append_assoc, ← i2]; exact h2

theorem seg_uniq : ∀ {l l' : List BatchT} {r r' : List UInt8} {e e' : Int}, Rights l → Rights l' → decodeB r = .error e → decodeB r' = .error e' → flatB l ++ r = flatB l' ++ r' → l = l' ∧ r = r' ∧ e = e' := by
  intro l
  induction l with
  | nil =>
    intro l' r r' e e' h1 h2 h3 h4 h5
    cases l' with
    | nil => simp [flatB] at h5; subst h5; rw [h3] at h4; cases h4; exact ⟨rfl, rfl, rfl⟩
    | cons b t =>
      have : decodeB r = .ok (b, (bytesB b).length) := by
        have h6 : r = bytesB b ++ (flatB t ++ r') := by simpa [flatB] using h5
        rw [h6]; exact decode_of (h2 b (by simp)) _
      rw [h3] at this; cases this
  | cons a l ih =>
    intro l' r r' e e' h1 h2 h3 h4 h5
    rw [flatB_cons, List.append_assoc] at h5
    have ha := decode_of (h1 a (by simp)) (flatB l ++ r)
    cases l' with
    | nil => rw [h5] at ha; simp [flatB] at ha; rw [h4] at ha; cases ha
    | cons b t =>
      rw [flatB_cons, List.append_assoc] at h5
      have hb := decode_of (h2 b (by simp)) (flatB t ++ r')
      rw [← h5, ha] at hb
      simp only [Except.ok.injEq, Prod.mk.injEq] at hb
      obtain ⟨rfl, _⟩ := hb
      obtain ⟨e1, e2, e3⟩ := ih (fun c hc => h1 c (by simp [hc])) (fun c hc => h2 c (by simp [hc])) h3 h4 (List.append_cancel_left h5)
      exact ⟨by rw [e1], e2, e3⟩

theorem segT_is (s : List UInt8) : SegIs s (segT s).1 (segT s).2.1 (segT s).2.2 := segF_is _ s (Nat.le_refl _)
theorem segT_of {s : List UInt8} {l : List BatchT} {r : List UInt8} {e : Int} (h : SegIs s l r e) : segT s = (l, r, e) := by
  obtain ⟨a1, a2, a3⟩ := segT_is s
  obtain ⟨b1, b2, b3⟩ := h
  obtain ⟨e1, e2, e3⟩ := seg_uniq a1 b1 a3 b3 (a2.symm.trans b2)
  exact Prod.ext e1 (Prod.ext e2 e3)
theorem segT_cons {b : BatchT} (hb : checkBa b = 0) (s : List UInt8) : segT (bytesB b ++ s) = (b :: (segT s).1, (segT s).2.1, (segT s).2.2) := by
  obtain ⟨a1, a2, a3⟩ := segT_is s
  refine segT_of ⟨fun c hc => ?_, by rw [flatB_cons, List.append_assoc, ← a2], a3⟩
  rcases List.mem_cons.1 hc with rfl | hc
  · exact hb
  · exact a1 c hc
theorem segT_end {s : List UInt8} {e : Int} (h : decodeB s = .error e) : segT s = ([], s, e) := segT_of ⟨fun b hb => (by cases hb), rfl, h⟩

/-- the bytes of whole batches that a segment begins with -/
def wholeS (s : List UInt8) : List UInt8 := flatB (segT s).1
theorem whole_rest (s : List UInt8) : s = wholeS s ++ (segT s).2.1 := (segT_is s).2.1
theorem whole_le (s : List UInt8) : (wholeS s).length ≤ s.length := by
  have := congrArg List.length (whole_rest s)
  rw [List.length_append] at this
  omega
theorem whole_take (s : List UInt8) : s.take (wholeS s).length = wholeS s := by
  have h := whole_rest s
  generalize wholeS s = a at *
  rw [h]; simp
theorem whole_seg (s : List UInt8) : segT (wholeS s) = ((segT s).1, [], 5) := segT_of ⟨(segT_is s).1, by simp [wholeS], decodeB_nil⟩
theorem rest_nil (s : List UInt8) : (segT s).2.1 = [] ↔ (wholeS s).length = s.length := by
  constructor
  · intro h; have := whole_rest s; rw [h, List.append_nil] at this; rw [← this]
  · intro h
    have := congrArg List.length (whole_rest s)
    rw [List.length_append] at this
    exact List.length_eq_zero_iff.1 (by omega)
theorem whole_eq {s : List UInt8} (h : ¬ (wholeS s).length < s.length) : wholeS s = s := by
  have h1 := (rest_nil s).2 (by have := whole_le s; omega)
  have := whole_rest s
  rw [h1, List.append_nil] at this
  exact this.symm

/-- where Synced may be in a segment: its beginning, and the end of each batch -/
def endsB : Nat → List BatchT → List Nat
  | a, [] => [a]
  | a, b :: r => a :: endsB (a + (bytesB b).length) r
def isEnd (s : List UInt8) (n : Int) : Bool := (endsB 0 (segT s).1).any fun k => decide ((k : Int) = n)

theorem endsB_mem : ∀ (l : List BatchT) (a n : Nat), n ∈ endsB a l ↔ ∃ k, k ≤ l.length ∧ n = a + (flatB (l.take k)).length := by
  intro l
  induction l with
  | nil =>
    intro a n
    simp only [endsB, List.mem_singleton, List.take_nil, List.length_nil]
    constructor
    · rintro rfl; exact ⟨0, by omega, by simp [flatB]⟩
    · rintro ⟨k, _, h⟩; simpa [flatB] using h
  | cons b r ih =>
    intro a n
    simp only [endsB, List.mem_cons, ih]
    constructor
    · rintro (rfl | ⟨k, hk, rfl⟩)
      · exact ⟨0, by omega, by simp [flatB]⟩
      · exact ⟨k + 1, by simp; omega, by rw [List.take_succ_cons, flatB_cons, List.length_append]; omega⟩
    · rintro ⟨k, hk, rfl⟩
      cases k with
      | zero => left; simp [flatB]
      | succ k => right; exact ⟨k, by simpa using hk, by rw [List.take_succ_cons, flatB_cons, List.length_append]; omega⟩

theorem isEnd_iff (s : List UInt8) (n : Int) : isEnd s n = true ↔ ∃ k, k ≤ (segT s).1.length ∧ n = ((flatB ((segT s).1.take k)).length : Int) := by
  unfold isEnd
  simp only [List.any_eq_true, decide_eq_true_eq, endsB_mem]
  constructor
  · rintro ⟨m, ⟨k, hk, rfl⟩, rfl⟩; exact ⟨k, hk, by omega⟩
  · rintro ⟨k, hk, rfl⟩; exact ⟨_, ⟨k, hk, rfl⟩, by omega⟩

structure DiskT where
  segs : List (List UInt8)
  synced : Int
deriving DecidableEq

def disk0 : DiskT := ⟨[], 0⟩
def lastS (l : List (List UInt8)) : List UInt8 := l.getLastD []
def setLastS (l : List (List UInt8)) (x : List UInt8) : List (List UInt8) := if l = [] then [] else l.dropLast ++ [x]

def wrongSegs : List (List UInt8) → Int
  | [] => 0
  | s :: t => if (segT s).2.2 ≠ 5 then (segT s).2.2 else if (segT s).2.1 ≠ [] ∧ t ≠ [] then 4 else wrongSegs t
def tooGreatD (l : List (List UInt8)) : Bool := decide (8 < l.length) || l.any fun s => decide (400 < s.length)
def checkD (d : DiskT) : Int :=
  if tooGreatD d.segs then 2 else if wrongSegs d.segs ≠ 0 then wrongSegs d.segs else if isEnd (lastS d.segs) d.synced = false then 3 else 0

def batchesD (l : List (List UInt8)) : List BatchT := l.flatMap fun s => (segT s).1
def openD (d : DiskT) : DiskT := ⟨setLastS d.segs (wholeS (lastS d.segs)), (wholeS (lastS d.segs)).length⟩
def tornD (d : DiskT) : Bool := decide ((wholeS (lastS d.segs)).length < (lastS d.segs).length)
def putD (d : DiskT) (x : List UInt8) : Except Int DiskT :=
  if d.segs ≠ [] ∧ (lastS d.segs).length + x.length ≤ 400 then .ok ⟨setLastS d.segs (lastS d.segs ++ x), d.synced⟩
  else if d.segs.length = 8 then .error 2 else .ok ⟨d.segs ++ [x], 0⟩
def appendD (d : DiskT) (b : BatchT) : Except Int DiskT :=
  if checkD d ≠ 0 then .error (checkD d) else if checkBa b ≠ 0 then .error (checkBa b) else if tornD d then .error 4 else putD d (bytesB b)
def syncD (d : DiskT) : Except Int DiskT :=
  if checkD d ≠ 0 then .error (checkD d) else if tornD d then .error 4 else .ok ⟨d.segs, (lastS d.segs).length⟩
def cutD (d : DiskT) (keep : Int) : DiskT := ⟨setLastS d.segs ((lastS d.segs).take (d.synced + min keep ((lastS d.segs).length - d.synced)).toNat), d.synced⟩
def crashD (d : DiskT) (keep : Int) : Except Int DiskT :=
  if checkD d ≠ 0 then .error (checkD d) else if keep < 0 then .error 3 else .ok (cutD d keep)

/-- a right disk, in its parts -/
inductive RightD : DiskT → Prop
  | none : RightD ⟨[], 0⟩
  | some (ini : List (List UInt8)) (s : List UInt8) (n : Nat) (k : Nat) : ini.length ≤ 7 → (∀ x ∈ ini, x.length ≤ 400 ∧ (segT x).2 = ([], 5)) → s.length ≤ 400 → (segT s).2.2 = 5 → k ≤ (segT s).1.length → n = (flatB ((segT s).1.take k)).length → RightD ⟨ini ++ [s], n⟩

theorem lastS_app (i : List (List UInt8)) (s : List UInt8) : lastS (i ++ [s]) = s := by simp [lastS, List.getLastD_eq_getLast?]
theorem setLastS_app (i : List (List UInt8)) (s x : List UInt8) : setLastS (i ++ [s]) x = i ++ [x] := by simp [setLastS]

theorem decode_no0 (e : List UInt8) : decodeB e ≠ .error 0 := by
  unfold decodeB
  split
  · intro h; cases h
  · split
    · intro h; cases h
    · split
      · intro h; cases h
      · split
        · rename_i hc; intro h; exact hc (Except.error.inj h)
        · intro h; cases h

theorem wrongSegs_app : ∀ (i : List (List UInt8)) (s : List UInt8), wrongSegs (i ++ [s]) = 0 → (∀ x ∈ i, (segT x).2 = ([], 5)) ∧ (segT s).2.2 = 5 := by
  intro i
  induction i with
  | nil =>
    intro s h
    refine ⟨fun x hx => (by cases hx), ?_⟩
    simp only [List.nil_append, wrongSegs] at h
    by_cases he : (segT s).2.2 = 5
    · exact he
    · rw [if_pos he] at h
      -- an error that is nought: none
      exfalso
      have := (segT_is s).2.2
      rw [h] at this
      exact decode_no0 _ this
  | cons x t ih =>
    intro s h
    have h0 : ∀ e, decodeB e ≠ .error 0 := decode_no0
    rw [List.cons_append, wrongSegs] at h
    by_cases he : (segT x).2.2 = 5
    · rw [if_neg (by simp [he])] at h
      by_cases hr : (segT x).2.1 = []
      · rw [if_neg (by simp [hr])] at h
        obtain ⟨i1, i2⟩ := ih s h
        refine ⟨fun y hy => ?_, i2⟩
        rcases List.mem_cons.1 hy with rfl | hy
        · exact Prod.ext hr he
        · exact i1 y hy
      · rw [if_pos ⟨hr, by simp⟩] at h; cases h
    · rw [if_pos he] at h
      have := (segT_is x).2.2
      rw [h] at this
      exact absurd this (h0 _)

theorem wrongSegs_ok : ∀ (i : List (List UInt8)) (s : List UInt8), (∀ x ∈ i, (segT x).2 = ([], 5)) → (segT s).2.2 = 5 → wrongSegs (i ++ [s]) = 0 := by
  intro i
  induction i with
  | nil => intro s _ h; simp [wrongSegs, h]
  | cons x t ih =>
    intro s h1 h2
    have hx := h1 x (by simp)
    rw [List.cons_append, wrongSegs, if_neg (by simp [hx]), if_neg (by simp [hx])]
    exact ih s (fun y hy => h1 y (by simp [hy])) h2

theorem right_of {d : DiskT} (h : checkD d = 0) : RightD d := by
  obtain ⟨segs, synced⟩ := d
  unfold checkD at h
  simp only at h
  cases hg : tooGreatD segs with
  | true => rw [if_pos hg] at h; cases h
  | false =>
    rw [if_neg (by simp [hg])] at h
    by_cases hw : wrongSegs segs = 0
    · rw [if_neg (by simp [hw])] at h
      cases he : isEnd (lastS segs) synced with
      | false => rw [if_pos he] at h; cases h
      | true =>
        obtain ⟨k, hk, rfl⟩ := (isEnd_iff _ _).1 he
        rcases List.eq_nil_or_concat segs with rfl | ⟨i, s, rfl⟩
        · have : segT (lastS []) = ([], [], 5) := segT_end decodeB_nil
          rw [this]
          simpa [flatB] using RightD.none
        · simp only [List.concat_eq_append] at *
          rw [lastS_app] at hk he ⊢
          obtain ⟨w1, w2⟩ := wrongSegs_app i s hw
          unfold tooGreatD at hg
          simp only [Bool.or_eq_false_iff, decide_eq_false_iff_not, List.any_eq_false, decide_eq_true_eq, List.length_append, List.length_singleton] at hg
          refine RightD.some i s _ k (by omega) (fun x hx => ⟨?_, w1 x hx⟩) ?_ w2 hk rfl
          · have := hg.2 x (by simp [hx]); omega
          · have := hg.2 s (by simp); omega
    · rw [if_pos hw] at h; exact absurd h hw

theorem right_ok {d : DiskT} (h : RightD d) : checkD d = 0 := by
  cases h with
  | none => rfl
  | some i s n k h1 h2 h3 h4 h5 h6 =>
    unfold checkD
    simp only
    have hg : tooGreatD (i ++ [s]) = false := by
      unfold tooGreatD
      simp only [Bool.or_eq_false_iff, decide_eq_false_iff_not, List.any_eq_false, decide_eq_true_eq, List.length_append, List.length_singleton]
      refine ⟨by omega, fun x hx => ?_⟩
      rcases List.mem_append.1 hx with hx | hx
      · have := (h2 x hx).1; omega
      · rw [List.mem_singleton] at hx; subst hx; omega
    rw [if_neg (by simp [hg]), if_neg (by simp [wrongSegs_ok i s (fun x hx => (h2 x hx).2) h4]), if_neg]
    rw [lastS_app]
    have := (isEnd_iff s (n : Int)).2 ⟨k, h5, by rw [h6]⟩
    simp [this]

theorem checkD_iff {d : DiskT} : checkD d = 0 ↔ RightD d := ⟨right_of, right_ok⟩

/-- what is cut short of a batch, or of less, is less than a batch -/
theorem err5_iff (s : List UInt8) : decodeB s = .error 5 ↔ (s.length < 2 ∨ ∃ m r, numF 2 0 s = some (m, r) ∧ r.length < m) := by
  have hE : ∀ e, shapeE e ≠ 5 := by intro e; unfold shapeE; repeat' split <;> (try decide)
  have hw : ∀ e, wrongE e ≠ 5 := by intro e; unfold wrongE; split; exact hE e; repeat' split <;> (try decide)
  have hws : ∀ l, wrongEs l ≠ 5 := by
    intro l
    induction l with
    | nil => decide
    | cons x t ih => rw [wrongEs]; split; exact hw x; exact ih
  have hc : ∀ b, checkBa b ≠ 5 := by
    intro b; unfold checkBa
    split; decide
    split; decide
    split; decide
    exact hws _
  cases h : numF 2 0 s with
  | none =>
    have h1 := numF_none.1 h
    constructor
    · intro _; exact .inl h1
    · intro _; unfold decodeB; rw [h]
  | some x =>
    obtain ⟨m, r⟩ := x
    have hl : ¬ s.length < 2 := by intro hx; rw [numF_none.2 hx] at h; cases h
    unfold decodeB
    rw [h]
    simp only
    by_cases hm : r.length < m
    · rw [if_pos hm]; exact ⟨fun _ => .inr ⟨m, r, rfl, hm⟩, fun _ => rfl⟩
    · rw [if_neg hm]
      constructor
      · intro hx
        exfalso
        revert hx
        split
        · intro hx; cases hx
        · split
          · intro hx; exact hc _ (Except.error.inj hx)
          · intro hx; cases hx
      · rintro (hx | ⟨m', r', hx, hx2⟩)
        · exact absurd hx hl
        · cases hx; exact absurd hx2 hm

end Go.Proofs.Ytillhpepfpldcaa
