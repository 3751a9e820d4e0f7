import Derived.Test.YtkkjchfhgjfclacValidtellsupto21
import Derived.Test.YtkkjchfhgjfclacValidtellsupto22
import Derived.Test.YtkkjchfhgjfclacValidtellsupto17
import Derived.Test.YtkkjchfhgjfclacValidtellsupto13
import Derived.Deep.CutRange
import Derived.Deep.CutBlock
/- The reference's IsInt. -/
namespace Go.Proofs.Ytkkjchfhgjfclac
open Go.RowKit

theorem isInt_any (n : Int) (w : World) :
    Calls Try.prog 90 #[.int .i64 n] w fun e w' => e = .returned (.bool (decide (-999999999 ≤ n) && decide (n ≤ 999999999))) ∧ w' = w := by
  have H1 := hide (between_is n (-999999999) 999999999 w _ rfl)
  go_enter Try.func90, Try.ntmps90
  go_wp2_with fail
  refine H1.out.mono ?_
  rintro e w' ⟨rfl, rfl⟩
  go_wp2_with fail
  go_ret
  exact ⟨rfl, rfl⟩

end Go.Proofs.Ytkkjchfhgjfclac

/- The reference's CalledOf, checkSelects. -/
namespace Go.Proofs.Ytkkjchfhgjfclac
open Go.RowKit

theorem calledOf_is (w : World) (al nm : List UInt8) (a1 a2 : Option Addr) (n1 n2 c1 c2 : Nat) :
    Calls Try.prog 28 #[.agg #[.string ⟨al.toArray⟩, .string ⟨nm.toArray⟩, .slice a1 n1 c1, .slice a2 n2 c2]] w fun e w' => e = .returned (.string ⟨(calledQ al nm).toArray⟩) ∧ Same w w' := by
  cases he : al.isEmpty with
  | true =>
    have hal : al = [] := List.isEmpty_iff.1 he
    have HA := hide (show calledQ al nm = nm by unfold calledQ; rw [if_pos hal])
    subst hal
    go_enter Try.func28, Try.ntmps28
    go_wp2_with fail
    go_ret
    exact ⟨ret_str (by rw [HA.out]), (by repeat' (first | assumption | exact Kept.refl _ _ | refine Kept.drewN ?_ _ | refine Kept.drew ?_ | refine Kept.alloc ?_ _ | refine Kept.setB ?_ _ _))⟩
  | false =>
    have HA := hide (show calledQ al nm = al by unfold calledQ; rw [if_neg (by intro e; rw [e] at he; cases he)])
    go_enter Try.func28, Try.ntmps28
    go_wp2_with fail
    go_ret
    exact ⟨ret_str (by rw [HA.out]), (by repeat' (first | assumption | exact Kept.refl _ _ | refine Kept.drewN ?_ _ | refine Kept.drew ?_ | refine Kept.alloc ?_ _ | refine Kept.setB ?_ _ _))⟩

def s1Q (al nm : List UInt8) : Int := if wrongT (nameT nm) ≠ 0 then wrongT (nameT nm) else if al ≠ [] then wrongT (nameT al) else 0
def s2Q (al nm : List UInt8) (args : List ArgT) : Int := if s1Q al nm ≠ 0 then s1Q al nm else if 5 < args.length then 2 else 0
theorem wrongS_s (al nm : List UInt8) (args : List ArgT) : wrongS al nm args = if s2Q al nm args ≠ 0 then s2Q al nm args else wrongA [] args := by
  unfold wrongS s2Q s1Q
  by_cases h1 : wrongT (nameT nm) = 0
  · by_cases h2 : al = []
    · by_cases h3 : 5 < args.length <;> simp [h1, h2, h3]
    · by_cases h4 : wrongT (nameT al) = 0
      · by_cases h3 : 5 < args.length <;> simp [h1, h2, h3, h4]
      · simp [h1, h2, h4]
  · simp [h1]

/-- the args' loop -/
def agRel (R : Int) (args : List ArgT) (j : Nat) (E : Int) : Prop := (E ≠ 0 ∧ R = E) ∨ (E = 0 ∧ R = wrongA ((args.take j).map (·.name)) (args.drop j))
theorem agRel.start (al nm : List UInt8) (args : List ArgT) : agRel (wrongS al nm args) args 0 (s2Q al nm args) := by
  rw [wrongS_s]
  by_cases h : s2Q al nm args = 0
  · right
    rw [if_neg (by simp [h])]
    exact ⟨h, rfl⟩
  · left
    rw [if_pos h]
    exact ⟨h, rfl⟩
/-- what is wrong with an arg, those ahead given -/
def argE (args : List ArgT) (j : Nat) (a : ArgT) : Int :=
  if wrongT (nameT a.name) ≠ 0 then wrongT (nameT a.name) else if seenC ((args.take j).map (·.name)) a.name then 6 else wrongT (valueT a)
theorem agRel.step {R : Int} {args : List ArgT} {j : Nat} (h : agRel R args j 0) (hj : j < args.length) : agRel R args (j + 1) (argE args j args[j]) := by
  rcases h with h | ⟨_, h⟩
  · exact absurd rfl h.1
  · rw [List.drop_eq_getElem_cons hj, wrongA] at h
    unfold argE
    by_cases h1 : wrongT (nameT args[j].name) = 0
    · rw [if_neg (not_not_intro h1)] at h ⊢
      by_cases h2 : seenC ((args.take j).map (·.name)) args[j].name = true
      · rw [if_pos h2]
        rw [if_pos (show ((args.take j).map (·.name)).contains args[j].name = true from h2)] at h
        exact .inl ⟨by decide, h⟩
      · rw [if_neg h2]
        rw [if_neg (show ¬ ((args.take j).map (·.name)).contains args[j].name = true from h2)] at h
        by_cases h3 : wrongT (valueT args[j]) = 0
        · rw [if_neg (not_not_intro h3)] at h
          exact .inr ⟨h3, by rw [h, List.take_succ_eq_append_getElem hj, List.map_append]; rfl⟩
        · rw [if_pos h3] at h
          exact .inl ⟨h3, h⟩
    · rw [if_pos h1] at h ⊢
      exact .inl ⟨h1, h⟩
theorem agRel.bad {R : Int} {args : List ArgT} {j : Nat} {E : Int} (h : agRel R args j E) (hE : E ≠ 0) : R = E := h.elim (fun h => h.2) (fun h => absurd h.1 hE)
theorem agRel.done {R : Int} {args : List ArgT} {j : Nat} (h : agRel R args j 0) (hj : args.length ≤ j) : R = 0 := by
  rcases h with h | ⟨_, h⟩
  · exact absurd rfl h.1
  · rw [h, List.drop_eq_nil_of_le hj]; rfl

/-- the loop over the args ahead -/
def bRel (args : List ArgT) (nm : List UInt8) (m : Int) (j h : Nat) (E : Int) : Prop :=
  (m ≠ 0 ∧ E = m) ∨ (m = 0 ∧ E = 0 ∧ ∀ i a, i < h → args[i]? = some a → a.name ≠ nm) ∨ (m = 0 ∧ E = 6 ∧ seenC ((args.take j).map (·.name)) nm = true)
theorem bRel.start (args : List ArgT) (nm : List UInt8) (m : Int) (j : Nat) : bRel args nm m j 0 m := by
  by_cases h : m = 0
  · exact .inr (.inl ⟨h, h, fun i a hi => absurd hi (by omega)⟩)
  · exact .inl ⟨h, rfl⟩
theorem bRel.miss {args : List ArgT} {nm : List UInt8} {m : Int} {j h : Nat} (hb : bRel args nm m j h 0) {a : ArgT} (ha : args[h]? = some a) (hn : a.name ≠ nm) : bRel args nm m j (h + 1) 0 := by
  rcases hb with ⟨h1, h2⟩ | ⟨h1, _, h3⟩ | ⟨_, h2, _⟩
  · exact absurd h2.symm h1
  · refine .inr (.inl ⟨h1, rfl, fun i b hi hb => ?_⟩)
    by_cases e : i = h
    · subst e
      rw [ha] at hb
      cases hb
      exact hn
    · exact h3 i b (by omega) hb
  · cases h2
theorem bRel.hit {args : List ArgT} {nm : List UInt8} {m : Int} {j h : Nat} (hb : bRel args nm m j h 0) (hj : h < j) {a : ArgT} (ha : args[h]? = some a) (hn : a.name = nm) : bRel args nm m j (h + 1) 6 := by
  rcases hb with ⟨h1, h2⟩ | ⟨h1, _, h3⟩ | ⟨_, h2, _⟩
  · exact absurd h2.symm h1
  · refine .inr (.inr ⟨h1, rfl, ?_⟩)
    unfold seenC
    rw [List.contains_iff_mem, ← hn]
    exact List.mem_map.2 ⟨a, List.mem_of_getElem? (i := h) (by rw [List.getElem?_take, if_pos hj]; exact ha), rfl⟩
  · cases h2
theorem bRel.bad {args : List ArgT} {a : ArgT} {j h : Nat} {E : Int} (hb : bRel args a.name (wrongT (nameT a.name)) j h E) (hE : E ≠ 0) : E = argE args j a := by
  unfold argE
  rcases hb with ⟨h1, h2⟩ | ⟨_, h2, _⟩ | ⟨h1, h2, h3⟩
  · rw [if_pos h1]; exact h2
  · exact absurd h2 hE
  · rw [if_neg (not_not_intro h1), if_pos h3]; exact h2
theorem bRel.done {args : List ArgT} {a : ArgT} {j h : Nat} (hb : bRel args a.name (wrongT (nameT a.name)) j h 0) (hj : j ≤ h) : argE args j a = wrongT (valueT a) := by
  unfold argE
  rcases hb with ⟨h1, h2⟩ | ⟨h1, _, h3⟩ | ⟨_, h2, _⟩
  · exact absurd h2.symm h1
  · rw [if_neg (not_not_intro h1), if_neg]
    unfold seenC
    rw [List.contains_iff_mem]
    intro hm
    obtain ⟨b, hb, e⟩ := List.mem_map.1 hm
    obtain ⟨i, hi, rfl⟩ := List.getElem_of_mem hb
    have hi2 := hi
    rw [List.length_take] at hi2
    exact h3 i _ (by omega) (by rw [List.getElem_take]; exact List.getElem?_eq_getElem (by omega)) e
  · cases h2

/-- the loop over the selects ahead -/
def cRel (m : Int) (seen all : List (List UInt8)) (x : List UInt8) (E : Int) : Prop :=
  (m ≠ 0 ∧ E = m) ∨ (m = 0 ∧ E = 0 ∧ seenC seen x = false) ∨ (m = 0 ∧ E = 6 ∧ seenC all x = true)
theorem cRel.start (m : Int) (all : List (List UInt8)) (x : List UInt8) : cRel m [] all x m := by
  by_cases h : m = 0
  · exact .inr (.inl ⟨h, h, rfl⟩)
  · exact .inl ⟨h, rfl⟩
theorem cRel.miss {m : Int} {seen all : List (List UInt8)} {x y : List UInt8} (h : cRel m seen all x 0) (hy : y ≠ x) : cRel m (seen ++ [y]) all x 0 := by
  rcases h with ⟨h1, h2⟩ | ⟨h1, _, h3⟩ | ⟨_, h2, _⟩
  · exact absurd h2.symm h1
  · refine .inr (.inl ⟨h1, rfl, ?_⟩)
    unfold seenC at *
    rw [← Bool.not_eq_true, List.contains_iff_mem] at *
    simp only [List.mem_append, List.mem_singleton]
    rintro (e | e)
    · exact h3 e
    · exact hy e.symm
  · cases h2
theorem cRel.hit {m : Int} {seen all : List (List UInt8)} {x : List UInt8} (h : cRel m seen all x 0) (hx : x ∈ all) : cRel m (seen ++ [x]) all x 6 := by
  rcases h with ⟨h1, h2⟩ | ⟨h1, _, _⟩ | ⟨_, h2, _⟩
  · exact absurd h2.symm h1
  · exact .inr (.inr ⟨h1, rfl, by unfold seenC; rw [List.contains_iff_mem]; exact hx⟩)
  · cases h2
/-- what is wrong with a select, but for what is selected of it -/
def selE (m : Int) (all : List (List UInt8)) (x : List UInt8) : Int := if m ≠ 0 then m else if seenC all x then 6 else 0
theorem cRel.bad {m : Int} {seen all : List (List UInt8)} {x : List UInt8} {E : Int} (h : cRel m seen all x E) (hE : E ≠ 0) : E = selE m all x := by
  unfold selE
  rcases h with ⟨h1, h2⟩ | ⟨_, h2, _⟩ | ⟨h1, h2, h3⟩
  · rw [if_pos h1]; exact h2
  · exact absurd h2 hE
  · rw [if_neg (not_not_intro h1), if_pos h3]; exact h2
theorem cRel.done {m : Int} {all : List (List UInt8)} {x : List UInt8} (h : cRel m all all x 0) : 0 = selE m all x := by
  unfold selE
  rcases h with ⟨h1, h2⟩ | ⟨h1, _, h3⟩ | ⟨_, h2, _⟩
  · exact absurd h2.symm h1
  · rw [if_neg (not_not_intro h1), if_neg (by rw [h3]; simp)]
  · cases h2
theorem wrongQ_sel (seen : List (List UInt8)) (al nm : List UInt8) (args : List ArgT) (k r : Sels) :
    wrongQ seen (.cons al nm args k r) = if selE (wrongS al nm args) seen (calledQ al nm) ≠ 0 then selE (wrongS al nm args) seen (calledQ al nm) else if wrongQ [] k ≠ 0 then wrongQ [] k else wrongQ (seen ++ [calledQ al nm]) r := by
  rw [wrongQ_of seen al nm args k r _ _ _ rfl rfl rfl]
  unfold selE
  by_cases h1 : wrongS al nm args = 0
  · rw [if_neg (not_not_intro h1), if_neg (not_not_intro h1)]
    cases h2 : seenC seen (calledQ al nm)
    · simp
    · simp
  · rw [if_pos h1, if_pos h1, if_pos h1]

theorem val_txt {a : ArgT} (h : a.isText = true) : wrongT (valueT a) = if a.n ≠ 0 then 1 else if 40 < a.text.length then 2 else 0 := by
  simp [valueT, h, wrongT]
theorem val_num {a : ArgT} (h : a.isText = false) : wrongT (valueT a) = if a.text ≠ [] then 1 else if (decide (-999999999 ≤ a.n) && decide (a.n ≤ 999999999)) = false then 3 else 0 := by
  simp only [valueT, h, wrongT]
  by_cases h1 : a.text = []
  · by_cases h2 : -999999999 ≤ a.n ∧ a.n ≤ 999999999
    · simp [h1, h2.1, h2.2]
    · simp [h1]; omega
  · simp [h1]

end Go.Proofs.Ytkkjchfhgjfclac
