/- The token that stands at a place, kind by kind; the walk of the document's own reader. -/
import Derived.Test.YtkkjchfhgjfclabGreatDoorSchematells33
import Derived.Test.YtkkjchfhgjfclabGreatDoorSchematells19
namespace Go.Proofs.YtkkjchfhgjfclabGreatDoor
open Go.RowKit

theorem tok_name {s : ByteArray} {k : Nat} (hk : k < s.size) (hb : beg s[k] = true) : tokL (s.data.toList.drop k) = .ok (⟨1, (s.data.toList.drop k).takeWhile onn, 0⟩, run onn s k) := by
  unfold run
  rw [drop_at hk, tokL, if_pos hb]

theorem name_wrong {s : ByteArray} {k : Nat} (hk : k < s.size) (hb : beg s[k] = true) : wrongT ⟨1, (s.data.toList.drop k).takeWhile onn, 0⟩ = if 12 < run onn s k then 2 else 0 := by
  have hn : nameOk ((s.data.toList.drop k).takeWhile onn) = true := by
    unfold nameOk
    rw [List.all_takeWhile, drop_at hk, List.takeWhile_cons, if_pos (by simp only [onn, hb, Bool.true_or])]
    simp only [List.isEmpty_cons, List.head?_cons, Option.getD_some, hb]; rfl
  have e : ∀ l : List UInt8, nameOk l = true → wrongT ⟨1, l, 0⟩ = if 12 < l.length then 2 else 0 := by intro l h; simp [wrongT, h]
  exact e _ hn

theorem run_on {p : UInt8 → Bool} {s : ByteArray} {k j : Nat} (h : j < s.size) (hp : p s[j] = true) (hr : k + run p s k = j + run p s j) : k + run p s k = (j + 1) + run p s (j + 1) := by
  rw [hr, run_step h hp]; omega
theorem run_off {p : UInt8 → Bool} {s : ByteArray} {k j : Nat} (h : j < s.size) (hp : p s[j] = false) (hr : k + run p s k = j + run p s j) : j = k + run p s k := by
  rw [hr, run_stop h hp]; omega
theorem run_out {p : UInt8 → Bool} {s : ByteArray} {k j : Nat} (h : s.size ≤ j) (hr : k + run p s k = j + run p s j) : j = k + run p s k := by
  rw [hr, run_end h]; omega

abbrev digsAt (s : ByteArray) (k : Nat) : List UInt8 := (s.data.toList.drop k).takeWhile dig

theorem digsAt_all (s : ByteArray) (k : Nat) : ∀ c ∈ digsAt s k, dig c = true := fun c hc => List.all_eq_true.1 List.all_takeWhile c hc

theorem tok_neg {s : ByteArray} {k : Nat} (hk : k < s.size) (h45 : s[k].toNat = 45) :
    (isNum true (digsAt s (k + 1)) = true → tokL (s.data.toList.drop k) = .ok (⟨2, [], intV true (digsAt s (k + 1))⟩, 1 + run dig s (k + 1))) ∧ (isNum true (digsAt s (k + 1)) = false → tokL (s.data.toList.drop k) = .error 1) := by
  have e : tokL (s.data.toList.drop k) = if isNum true (digsAt s (k + 1)) then .ok (⟨2, [], -(valD (digsAt s (k + 1)))⟩, (digsAt s (k + 1)).length + 1) else .error 1 := by
    rw [drop_at hk, tokL, if_neg (by simp [beg]; omega), if_pos (by simp [h45]), numL_of _ true (decide_eq_true (by show s[k].toNat = 45; exact h45))]
    rfl
  refine ⟨fun h => ?_, fun h => ?_⟩
  · rw [e, h, if_pos rfl]; unfold intV run; rw [h, Nat.add_comm 1]; rfl
  · rw [e, h]; rfl
theorem tok_dig {s : ByteArray} {k : Nat} (hk : k < s.size) (hd : dig s[k] = true) :
    (isNum false (s[k] :: digsAt s (k + 1)) = true → tokL (s.data.toList.drop k) = .ok (⟨2, [], intV false (s[k] :: digsAt s (k + 1))⟩, 1 + run dig s (k + 1))) ∧ (isNum false (s[k] :: digsAt s (k + 1)) = false → tokL (s.data.toList.drop k) = .error 1) := by
  have hc := dig_iff hd
  have e : tokL (s.data.toList.drop k) = if isNum false (s[k] :: digsAt s (k + 1)) then .ok (⟨2, [], valD (s[k] :: digsAt s (k + 1))⟩, (s[k] :: digsAt s (k + 1)).length + 0) else .error 1 := by
    rw [drop_at hk, tokL, if_neg (by simp [beg]; omega), if_pos (by rw [hd]; simp), numL_of _ false (decide_eq_false (by show s[k].toNat ≠ 45; omega))]
    simp only [Bool.false_eq_true, if_false]
    rw [List.takeWhile_cons, if_pos hd]
  refine ⟨fun h => ?_, fun h => ?_⟩
  · rw [e, h, if_pos rfl]; unfold intV run; rw [h, List.length_cons, Nat.add_zero, Nat.add_comm 1]; rfl
  · rw [e, h]; rfl

theorem int_right {m : Bool} {ds : List UInt8} (h : isNum m ds = true) (ha : ∀ c ∈ ds, dig c = true) : wrongT ⟨2, [], intV m ds⟩ = 0 := by
  have hlen : ds.length ≤ 9 := by unfold isNum at h; simp at h; omega
  have hb := valD_le9 ds hlen ha
  unfold intV
  rw [h, if_pos rfl]
  have e : ∀ z : Int, wrongT ⟨2, [], z⟩ = if z < -999999999 ∨ 999999999 < z then 3 else 0 := by intro z; simp [wrongT]
  rw [e]
  cases m <;> simp <;> omega

theorem ext_num (s : ByteArray) (k : Nat) (hk : k < s.size) : (s.extract k (k + 1 + run dig s (k + 1))).data.toList = s[k] :: digsAt s (k + 1) := by
  simp only [ByteArray.data_extract, Array.toList_extract, List.extract_eq_take_drop]
  rw [drop_at hk, show k + 1 + run dig s (k + 1) - k = run dig s (k + 1) + 1 from by omega, List.take_succ_cons]
  congr 1
  unfold run digsAt
  exact (List.prefix_iff_eq_take.1 (List.takeWhile_prefix _)).symm

/-- how far a text's bytes have been read -/
def wRl (s : ByteArray) (k j : Nat) (b : ByteArray) : Prop :=
  wordsL false (s.data.toList.drop (k + 1)) = (wordsL false (s.data.toList.drop j)).map (fun x => (b.data.toList ++ x.1, x.2 + (j - (k + 1))))

theorem wRl.start (s : ByteArray) (k : Nat) : wRl s k (k + 1) ⟨#[]⟩ := by
  unfold wRl
  cases wordsL false (s.data.toList.drop (k + 1)) <;> simp
theorem wRl.plain {s : ByteArray} {k j : Nat} {b : ByteArray} (h : wRl s k j b) (hkj : k + 1 ≤ j) (hj : j < s.size) (h1 : s[j].toNat ≠ 34) (h2 : s[j].toNat ≠ 10) (h3 : s[j].toNat ≠ 92) : wRl s k (j + 1) (b ++ ⟨#[s[j]]⟩) := by
  unfold wRl at *
  rw [h, drop_at hj, wordsL, if_neg h1, if_neg h2, if_neg h3]
  cases wordsL false (s.data.toList.drop (j + 1)) with
  | none => rfl
  | some x => simp; omega
theorem wRl.esc {s : ByteArray} {k j : Nat} {b : ByteArray} (h : wRl s k j b) (hkj : k + 1 ≤ j) (hj : j < s.size) (h1 : s[j].toNat = 92) (hj1 : j + 1 < s.size) (h2 : s[j + 1].toNat = 34 ∨ s[j + 1].toNat = 92) : wRl s k (j + 1 + 1) (b ++ ⟨#[s[j + 1]]⟩) := by
  unfold wRl at *
  rw [h, drop_at hj, wordsL, if_neg (by omega), if_neg (by omega), if_pos h1, drop_at hj1, wordsL, if_pos h2]
  cases wordsL false (s.data.toList.drop (j + 1 + 1)) with
  | none => rfl
  | some x => simp; omega
theorem wRl.escn {s : ByteArray} {k j : Nat} {b : ByteArray} (h : wRl s k j b) (hkj : k + 1 ≤ j) (hj : j < s.size) (h1 : s[j].toNat = 92) (hj1 : j + 1 < s.size) (h2 : s[j + 1].toNat = 110) : wRl s k (j + 1 + 1) (b ++ ⟨#[10]⟩) := by
  unfold wRl at *
  rw [h, drop_at hj, wordsL, if_neg (by omega), if_neg (by omega), if_pos h1, drop_at hj1, wordsL, if_neg (by omega), if_pos h2]
  cases wordsL false (s.data.toList.drop (j + 1 + 1)) with
  | none => rfl
  | some x => simp; omega
theorem wRl.done {s : ByteArray} {k j : Nat} {b : ByteArray} (h : wRl s k j b) (hkj : k + 1 ≤ j) (hj : j < s.size) (h1 : s[j].toNat = 34) : wordsL false (s.data.toList.drop (k + 1)) = some (b.data.toList, j - k) := by
  unfold wRl at h
  rw [h, drop_at hj, wordsL, if_pos h1]
  simp; omega
theorem wRl.line {s : ByteArray} {k j : Nat} {b : ByteArray} (h : wRl s k j b) (hj : j < s.size) (h1 : s[j].toNat = 10) : wordsL false (s.data.toList.drop (k + 1)) = none := by
  unfold wRl at h
  rw [h, drop_at hj, wordsL, if_neg (by omega), if_pos h1]; rfl
theorem wRl.out {s : ByteArray} {k j : Nat} {b : ByteArray} (h : wRl s k j b) (hj : s.size ≤ j) : wordsL false (s.data.toList.drop (k + 1)) = none := by
  unfold wRl at h
  rw [h, drop_end hj]; rfl
theorem wRl.escout {s : ByteArray} {k j : Nat} {b : ByteArray} (h : wRl s k j b) (hj : j < s.size) (h1 : s[j].toNat = 92) (hj1 : s.size ≤ j + 1) : wordsL false (s.data.toList.drop (k + 1)) = none := by
  unfold wRl at h
  rw [h, drop_at hj, wordsL, if_neg (by omega), if_neg (by omega), if_pos h1, drop_end hj1]; rfl
theorem wRl.escbad {s : ByteArray} {k j : Nat} {b : ByteArray} (h : wRl s k j b) (hj : j < s.size) (h1 : s[j].toNat = 92) (hj1 : j + 1 < s.size) (h2 : s[j + 1].toNat ≠ 34 ∧ s[j + 1].toNat ≠ 92 ∧ s[j + 1].toNat ≠ 110) : wordsL false (s.data.toList.drop (k + 1)) = none := by
  unfold wRl at h
  rw [h, drop_at hj, wordsL, if_neg (by omega), if_neg (by omega), if_pos h1, drop_at hj1, wordsL, if_neg (by omega), if_neg (by omega)]; rfl

theorem tok_text {s : ByteArray} {k : Nat} (hk : k < s.size) (h : s[k].toNat = 34) {x : List UInt8} {n : Nat} (hw : wordsL false (s.data.toList.drop (k + 1)) = some (x, n)) : tokL (s.data.toList.drop k) = .ok (⟨3, x, 0⟩, n + 1) := by
  rw [drop_at hk, tokL, if_neg (by simp [beg]; omega), if_neg (by simp [dig]; omega), if_pos h, hw]
theorem tok_textno {s : ByteArray} {k : Nat} (hk : k < s.size) (h : s[k].toNat = 34) (hw : wordsL false (s.data.toList.drop (k + 1)) = none) : tokL (s.data.toList.drop k) = .error 1 := by
  rw [drop_at hk, tokL, if_neg (by simp [beg]; omega), if_neg (by simp [dig]; omega), if_pos h, hw]
theorem tok_sgn {s : ByteArray} {k : Nat} (hk : k < s.size) (h1 : beg s[k] = false) (h2 : dig s[k] = false) (h3 : s[k].toNat ≠ 45) (h4 : s[k].toNat ≠ 34) (h5 : sgn s[k] = true) : tokL (s.data.toList.drop k) = .ok (⟨4, [s[k]], 0⟩, 1) := by
  rw [drop_at hk, tokL, if_neg (by simp [h1]), if_neg (by simp [h2, h3]), if_neg h4, if_pos h5]
theorem tok_no {s : ByteArray} {k : Nat} (hk : k < s.size) (h1 : beg s[k] = false) (h2 : dig s[k] = false) (h3 : s[k].toNat ≠ 45) (h4 : s[k].toNat ≠ 34) (h5 : sgn s[k] = false) : tokL (s.data.toList.drop k) = .error 1 := by
  rw [drop_at hk, tokL, if_neg (by simp [h1]), if_neg (by simp [h2, h3]), if_neg h4, if_neg (by rw [h5]; decide)]

theorem text_wrong (l : List UInt8) : wrongT ⟨3, l, 0⟩ = if 40 < l.length then 2 else 0 := by simp [wrongT]
theorem sign_right (c : UInt8) (h : sgn c = true) : wrongT ⟨4, [c], 0⟩ = 0 := by
  have e : wrongT ⟨4, [c], 0⟩ = if sgn c = false then 1 else 0 := by unfold wrongT; simp only [List.head?_cons, Option.getD_some, List.length_cons, List.length_nil]; simp
  rw [e, h]; rfl

theorem fresh_cells (W : World) (g : Nat) (x y z : Value) (t : TypeId) (hg : g = W.heap.size) : ∀ j u, [x, y, z][j]? = some u → (W.alloc (.cells #[x, y, z] t)).cell? ((⟨g, 0, none⟩ : Addr).add j) = some u := by
  subst hg
  intro j u hj
  have hl : j < 3 := by
    rcases Nat.lt_or_ge j 3 with h | h
    · exact h
    · rw [List.getElem?_eq_none (by simpa using h)] at hj; cases hj
  match j, hl, hj with
  | 0, _, hj => simp at hj; subst hj; simp [Addr.add]
  | 1, _, hj => simp at hj; subst hj; simp [Addr.add]
  | 2, _, hj => simp at hj; subst hj; simp [Addr.add]

end Go.Proofs.YtkkjchfhgjfclabGreatDoor
