/- The walk of the document's own reader. -/
import Derived.Test.YtkkjchfhgjfclabGreatDoorSchematells34
namespace Go.Proofs.YtkkjchfhgjfclabGreatDoor
open Go.RowKit

theorem ext_one (s : ByteArray) (k : Nat) (h : k < s.size) : s.extract k (k + 1) = ⟨#[s[k]]⟩ := by
  have h1 := drop_at h
  have h2 : (s.extract k (k + 1)).data.toList = [s[k]] := by
    simp only [ByteArray.data_extract, Array.toList_extract, List.extract_eq_take_drop]
    rw [h1, show k + 1 - k = 1 from by omega]
    rfl
  apply ByteArray.ext
  exact Array.toList_inj.1 h2
theorem sgn_is (c : UInt8) (w : World) (t : Bool) (ht : sgn c = t) :
    Calls Tryz.prog 81 #[.string ⟨#[c]⟩] w fun e w' => e = .returned (.bool t) ∧ w' = w := by
  rw [← ht]; exact rSign_one c w

set_option maxRecDepth 20000 in
set_option maxHeartbeats 16000000 in
theorem tokensOf_any (w : World) (s : ByteArray) :
    Calls Tryz.prog 43 #[.string s] w fun e w' =>
      (∃ T v, lexRead s.data.toList = .ok T ∧ e = .returned (.tuple #[v, .int .i64 0]) ∧ w'.ownsRow w.heap.size 65 3 v T.length (tokCells T) ∧ Same w w')
      ∨ (∃ n, lexRead s.data.toList = .error n ∧ n ≠ 0 ∧ e = .returned (.tuple #[.slice none 0 0, .int .i64 n]) ∧ Same w w') := by
  by_cases hbig : 2000 < s.size
  · have HE := hide (show lexRead s.data.toList = .error 2 by unfold lexRead; rw [if_pos (by rw [list_size]; exact hbig)])
    go_enter Tryz.func43, Tryz.ntmps43
    go_wp2_with fail
    go_ret2
    exact .inr ⟨2, HE.out, by decide, rfl, Kept.refl _ _⟩
  · have hs : s.size ≤ 2000 := by omega
    clear hbig
    obtain ⟨i0, hi, hz0, hz1, hz2⟩ := info_parts info39
    go_enter Tryz.func43, Tryz.ntmps43
    go_wp2_with fail
    go_loopg [4, 5] (s.size + 1) (fun g out av wr => ∃ (k : Nat) (T : List Tok), av = .int .i64 k ∧ k ≤ s.size ∧ s.size + 1 ≤ k + g ∧ T.length ≤ 300 ∧ Same w wr ∧ Hid (tRel s k T) ∧ wr.ownsRow w.heap.size 65 3 out T.length (tokCells T))
    case atStart => exact ⟨0, [], rfl, by omega, by omega, by simp, Kept.refl _ _, tRel.start s hs, World.ownsRow_nil _ _ _ _⟩
    case round =>
      obtain ⟨k, T, rfl, hk, hg, hT, hK, HR, hown⟩ := hrel
      obtain ⟨wo, hwo⟩ : ∃ wo, wo = wr := ⟨_, rfl⟩
      subst hwo
      by_cases hlt : k < s.size
      · rcases (show (s[k].toNat = 32 ∨ s[k].toNat = 9 ∨ s[k].toNat = 10 ∨ s[k].toNat = 13 ∨ s[k].toNat = 44 ∨ s[k].toNat = 35) ∨ (s[k].toNat ≠ 32 ∧ s[k].toNat ≠ 9 ∧ s[k].toNat ≠ 10 ∧ s[k].toNat ≠ 13 ∧ s[k].toNat ≠ 44 ∧ s[k].toNat ≠ 35) from by omega) with (h | h | h | h | h | h) | hno
        · as_aux_lemma =>
            have f1 : ((s[k].toNat : Int) == 32) = true := by rw [h]; rfl
            have HN := hide (HR.out.blank hlt (by simp [wh, h]))
            clear h
            go_wp2_with fail
            go_roundg (s.size + 1 - (k + 1))
            case measure => omega
            case rel => exact ⟨k + 1, T, by go_num, by omega, by omega, hT, hK, HN, hown⟩
        · as_aux_lemma =>
            have f1 : ((s[k].toNat : Int) == 32) = false := by rw [h]; rfl
            have f2 : ((s[k].toNat : Int) == 9) = true := by rw [h]; rfl
            have HN := hide (HR.out.blank hlt (by simp [wh, h]))
            clear h
            go_wp2_with fail
            go_roundg (s.size + 1 - (k + 1))
            case measure => omega
            case rel => exact ⟨k + 1, T, by go_num, by omega, by omega, hT, hK, HN, hown⟩
        · as_aux_lemma =>
            have f1 : ((s[k].toNat : Int) == 32) = false := by rw [h]; rfl
            have f2 : ((s[k].toNat : Int) == 9) = false := by rw [h]; rfl
            have f3 : ((s[k].toNat : Int) == 10) = true := by rw [h]; rfl
            have HN := hide (HR.out.blank hlt (by simp [wh, h]))
            clear h
            go_wp2_with fail
            go_roundg (s.size + 1 - (k + 1))
            case measure => omega
            case rel => exact ⟨k + 1, T, by go_num, by omega, by omega, hT, hK, HN, hown⟩
        · as_aux_lemma =>
            have f1 : ((s[k].toNat : Int) == 32) = false := by rw [h]; rfl
            have f2 : ((s[k].toNat : Int) == 9) = false := by rw [h]; rfl
            have f3 : ((s[k].toNat : Int) == 10) = false := by rw [h]; rfl
            have f4 : ((s[k].toNat : Int) == 13) = true := by rw [h]; rfl
            have HN := hide (HR.out.blank hlt (by simp [wh, h]))
            clear h
            go_wp2_with fail
            go_roundg (s.size + 1 - (k + 1))
            case measure => omega
            case rel => exact ⟨k + 1, T, by go_num, by omega, by omega, hT, hK, HN, hown⟩
        · as_aux_lemma =>
            have f1 : ((s[k].toNat : Int) == 32) = false := by rw [h]; rfl
            have f2 : ((s[k].toNat : Int) == 9) = false := by rw [h]; rfl
            have f3 : ((s[k].toNat : Int) == 10) = false := by rw [h]; rfl
            have f4 : ((s[k].toNat : Int) == 13) = false := by rw [h]; rfl
            have f5 : ((s[k].toNat : Int) == 44) = true := by rw [h]; rfl
            have HN := hide (HR.out.blank hlt (by simp [wh, h]))
            clear h
            go_wp2_with fail
            go_roundg (s.size + 1 - (k + 1))
            case measure => omega
            case rel => exact ⟨k + 1, T, by go_num, by omega, by omega, hT, hK, HN, hown⟩
        · as_aux_lemma =>
            have f1 : ((s[k].toNat : Int) == 32) = false := by rw [h]; rfl
            have f2 : ((s[k].toNat : Int) == 9) = false := by rw [h]; rfl
            have f3 : ((s[k].toNat : Int) == 10) = false := by rw [h]; rfl
            have f4 : ((s[k].toNat : Int) == 13) = false := by rw [h]; rfl
            have f5 : ((s[k].toNat : Int) == 44) = false := by rw [h]; rfl
            have f6 : ((s[k].toNat : Int) == 35) = true := by rw [h]; rfl
            have HN := hide (HR.out.hash hlt h)
            have hrs : 1 ≤ run nn s k := by rw [run_step hlt (by simp [nn, h])]; omega
            have hrl := run_le nn s k hk
            clear h
            go_wp2_with fail
            go_loopg [5] (s.size + 1 - k) (fun g i wq => wq = wo ∧ ∃ j : Nat, i = .int .i64 j ∧ k ≤ j ∧ j ≤ s.size ∧ j + g = s.size + 1 ∧ Hid (k + run nn s k = j + run nn s j))
            case atStart => exact ⟨rfl, k, rfl, by omega, hk, by omega, rfl⟩
            case round =>
              obtain ⟨hwq, j, rfl, hkj, hjs, hjg, HJ⟩ := hrel
              subst hwq
              by_cases hj : j < s.size
              · by_cases hn : s[j].toNat = 10
                · have t1 : ((s[j].toNat : Int) != 10) = false := by rw [hn]; rfl
                  have HJE := hide (run_off hj (by simp [nn, hn]) HJ.out)
                  have hkj2 : k < j := by have := HJE.out; omega
                  clear hn
                  go_wp2_with fail
                  go_roundg (s.size + 1 - j)
                  case measure => omega
                  case rel => exact ⟨j, T, rfl, by omega, by omega, hT, hK, (by rw [HJE.out]; exact HN), hown⟩
                · have t1 : ((s[j].toNat : Int) != 10) = true := by simp; omega
                  have HNN := hide hn
                  clear hn
                  go_wp2_with fail
                  go_roundg (gk - 1)
                  case measure => omega
                  case rel => exact ⟨rfl, j + 1, by go_num, by omega, by omega, by omega, run_on hj (by simp [nn, HNN.out]) HJ.out⟩
              · have HJE := hide (run_out (by omega) HJ.out)
                have hkj2 : k < j := by have := HJE.out; omega
                go_wp2_with fail
                go_roundg (s.size + 1 - j)
                case measure => omega
                case rel => exact ⟨j, T, rfl, by omega, by omega, hT, hK, (by rw [HJE.out]; exact HN), hown⟩
        · by_cases hb : beg s[k] = true
          · as_aux_lemma =>
              have hbn : (97 ≤ s[k].toNat ∧ s[k].toNat ≤ 122) ∨ (65 ≤ s[k].toNat ∧ s[k].toNat ≤ 90) ∨ s[k].toNat = 95 := by simp [beg] at hb; omega
              have HW1 := hide (show wh s[k] = false by simp [wh]; omega)
              have HW2 := hide (show s[k].toNat ≠ 35 by omega)
              have f1 : ((s[k].toNat : Int) == 32) = false := by simp; omega
              have f2 : ((s[k].toNat : Int) == 9) = false := by simp; omega
              have f3 : ((s[k].toNat : Int) == 10) = false := by simp; omega
              have f4 : ((s[k].toNat : Int) == 13) = false := by simp; omega
              have f5 : ((s[k].toNat : Int) == 44) = false := by simp; omega
              have f6 : ((s[k].toNat : Int) == 35) = false := by simp; omega
              have HTK := hide (tok_name hlt hb)
              have HWR := hide (name_wrong hlt hb)
              have HX := hide (extract_run onn s k)
              have hrl := run_le onn s k hk
              have HB := hide hb
              clear hb hbn
              go_wp2_with fail
              refine (letter_is s[k] _ true HB.out).mono ?_
              rintro e w1 ⟨rfl, rfl⟩
              go_wp2_with fail
              go_loopg [5] (s.size + 1 - k) (fun g i wq => wq = wo.alloc (.cells #[.int .i64 0, .string ⟨#[]⟩, .int .i64 0] 65) ∧ ∃ j : Nat, i = .int .i64 j ∧ k ≤ j ∧ j ≤ s.size ∧ j + g = s.size + 1 ∧ Hid (k + run onn s k = j + run onn s j))
              case atStart => exact ⟨rfl, k, rfl, by omega, hk, by omega, rfl⟩
              case round =>
                obtain ⟨hwq, j, rfl, hkj, hjs, hjg, HJ⟩ := hrel
                subst hwq
                by_cases hj : j < s.size
                · cases hbj : beg s[j] with
                  | true =>
                    have HBJ := hide hbj
                    clear hbj
                    go_wp2_with fail
                    refine (letter_is s[j] _ true HBJ.out).mono ?_
                    rintro e w1 ⟨rfl, rfl⟩
                    go_wp2_with fail
                    go_roundg (gk - 1)
                    case measure => omega
                    case rel => exact ⟨rfl, j + 1, by go_num, by omega, by omega, by omega, run_on hj (by rw [onn, HBJ.out]; rfl) HJ.out⟩
                  | false =>
                    have HBJ := hide hbj
                    clear hbj
                    cases hdj : dig s[j] with
                    | true =>
                      have HDJ := hide hdj
                      clear hdj
                      go_wp2_with fail
                      refine (letter_is s[j] _ false HBJ.out).mono ?_
                      rintro e w1 ⟨rfl, rfl⟩
                      go_wp2_with fail
                      refine (digit_is s[j] _ true HDJ.out).mono ?_
                      rintro e w1 ⟨rfl, rfl⟩
                      go_wp2_with fail
                      go_roundg (gk - 1)
                      case measure => omega
                      case rel => exact ⟨rfl, j + 1, by go_num, by omega, by omega, by omega, run_on hj (by rw [onn, HBJ.out, HDJ.out]; rfl) HJ.out⟩
                    | false =>
                      have HDJ := hide hdj
                      clear hdj
                      have HJE := hide (run_off hj (by rw [onn, HBJ.out, HDJ.out]; rfl) HJ.out)
                      go_wp2_with fail
                      refine (letter_is s[j] _ false HBJ.out).mono ?_
                      rintro e w1 ⟨rfl, rfl⟩
                      go_wp2_with fail
                      refine (digit_is s[j] _ false HDJ.out).mono ?_
                      rintro e w1 ⟨rfl, rfl⟩
                      by_cases h12 : 12 < j - k
                      · have HE := hide (show lexRead s.data.toList = .error 2 by
                          have hq : 12 < run onn s k := by have := HJE.out; omega
                          have h1 := HWR.out
                          rw [if_pos hq] at h1
                          have h2 := HR.out.wrong hlt HW1.out HW2.out HTK.out (by rw [h1]; decide)
                          rw [h1] at h2
                          exact h2)
                        go_wp2_with fail
                        go_ret2
                        exact .inr ⟨2, HE.out, by decide, rfl, (by repeat' (first | assumption | exact Kept.refl _ _ | refine Kept.drewN ?_ _ | refine Kept.drew ?_ | refine Kept.alloc ?_ _ | refine Kept.setB ?_ _ _))⟩
                      · have HWZ := hide (show wrongT (⟨1, (s.data.toList.drop k).takeWhile onn, 0⟩ : Tok) = 0 by
                          have h1 := HWR.out
                          rw [if_neg (by have := HJE.out; omega)] at h1
                          exact h1)
                        have HCELL := hide (show tokC (⟨1, (s.data.toList.drop k).takeWhile onn, 0⟩ : Tok) = [.int .i64 1, .string (s.extract k j), .int .i64 0] by
                          have h1 := HX.out
                          rw [← HJE.out] at h1
                          rw [h1]; rfl)
                        have hkj2 : k < j := by
                          have h1 := (tok_pos HTK.out).1
                          have h2 := HJE.out
                          omega
                        go_wp2_with (at_builtin; refine wpList_append_own _ rfl _ _ 29 rfl w.heap.size 65 i0 _ 3 32 Tryz.underlying29 hi hz0 hz1 hz2 rfl (by decide) _ _ _ rfl (own_kept hown (X := fun _ => False) (by repeat' (first | assumption | exact Kept.refl _ _ | refine Kept.drewN ?_ _ | refine Kept.drew ?_ | refine Kept.alloc ?_ _ | refine Kept.setCell ?_ (fun h => absurd (show wo.heap.size < _ from h) (by have := hK.size; omega)) _)) (fun _ _ f => f)) ⟨_, 0, none⟩ 1 1 [.int .i64 1, .string (s.extract k j), .int .i64 0] rfl rfl ?a1x1 ?a2x1 ?a3x1 ?a4x1 ?a5x1 ?_)
                        case a1x1 => exact fresh_cells _ _ _ _ _ _ (by simp)
                        case a2x1 => intro u hu; simp at hu; rcases hu with rfl | rfl | rfl <;> rfl
                        case a3x1 => unfold maxLen; omega
                        case a4x1 => omega
                        case a5x1 => have := hK.size; simp; omega
                        intro v5 w5 hown5 hgr5 _
                        have hS5 : Same w w5 := by
                          refine Kept.grown (X := fun _ => False) ?_ hgr5 (fun q hq hlq => by have := own_row hown q hq; omega)
                          exact (by repeat' (first | assumption | exact Kept.refl _ _ | refine Kept.drewN ?_ _ | refine Kept.drew ?_ | refine Kept.alloc ?_ _ | refine Kept.setCell ?_ (fun h => absurd (show wo.heap.size < _ from h) (by have := hK.size; omega)) _))
                        have hT5 : w5.ownsRow w.heap.size 65 3 v5 (T ++ [(⟨1, (s.data.toList.drop k).takeWhile onn, 0⟩ : Tok)]).length (tokCells (T ++ [(⟨1, (s.data.toList.drop k).takeWhile onn, 0⟩ : Tok)])) := by
                          rw [tokCells_snoc, List.length_append, HCELL.out]; exact hown5
                        obtain ⟨a5, c5, e5⟩ := own_slice hown5
                        subst e5
                        clear hown5 hgr5
                        by_cases h300 : T.length < 300
                        · have HST := hide (HR.out.step hlt HW1.out HW2.out HTK.out HWZ.out h300)
                          go_wp2_with fail
                          go_roundg (s.size + 1 - (j))
                          case measure => omega
                          case rel => exact ⟨j, T ++ [(⟨1, (s.data.toList.drop k).takeWhile onn, 0⟩ : Tok)], by go_num, by omega, by omega, by rw [List.length_append]; simp; omega, hS5, (by have h := HST.out; rw [← HJE.out] at h; exact h), hT5⟩
                        · have HFL := hide (HR.out.full hlt HW1.out HW2.out HTK.out HWZ.out (by omega) hT)
                          go_wp2_with fail
                          go_ret2
                          exact .inr ⟨2, HFL.out, by decide, rfl, hS5⟩
                · have HJE := hide (run_out (by omega) HJ.out)
                  by_cases h12 : 12 < j - k
                  · have HE := hide (show lexRead s.data.toList = .error 2 by
                      have hq : 12 < run onn s k := by have := HJE.out; omega
                      have h1 := HWR.out
                      rw [if_pos hq] at h1
                      have h2 := HR.out.wrong hlt HW1.out HW2.out HTK.out (by rw [h1]; decide)
                      rw [h1] at h2
                      exact h2)
                    go_wp2_with fail
                    go_ret2
                    exact .inr ⟨2, HE.out, by decide, rfl, (by repeat' (first | assumption | exact Kept.refl _ _ | refine Kept.drewN ?_ _ | refine Kept.drew ?_ | refine Kept.alloc ?_ _ | refine Kept.setB ?_ _ _))⟩
                  · have HWZ := hide (show wrongT (⟨1, (s.data.toList.drop k).takeWhile onn, 0⟩ : Tok) = 0 by
                      have h1 := HWR.out
                      rw [if_neg (by have := HJE.out; omega)] at h1
                      exact h1)
                    have HCELL := hide (show tokC (⟨1, (s.data.toList.drop k).takeWhile onn, 0⟩ : Tok) = [.int .i64 1, .string (s.extract k j), .int .i64 0] by
                      have h1 := HX.out
                      rw [← HJE.out] at h1
                      rw [h1]; rfl)
                    have hkj2 : k < j := by
                      have h1 := (tok_pos HTK.out).1
                      have h2 := HJE.out
                      omega
                    go_wp2_with (at_builtin; refine wpList_append_own _ rfl _ _ 29 rfl w.heap.size 65 i0 _ 3 32 Tryz.underlying29 hi hz0 hz1 hz2 rfl (by decide) _ _ _ rfl (own_kept hown (X := fun _ => False) (by repeat' (first | assumption | exact Kept.refl _ _ | refine Kept.drewN ?_ _ | refine Kept.drew ?_ | refine Kept.alloc ?_ _ | refine Kept.setCell ?_ (fun h => absurd (show wo.heap.size < _ from h) (by have := hK.size; omega)) _)) (fun _ _ f => f)) ⟨_, 0, none⟩ 1 1 [.int .i64 1, .string (s.extract k j), .int .i64 0] rfl rfl ?a1x2 ?a2x2 ?a3x2 ?a4x2 ?a5x2 ?_)
                    case a1x2 => exact fresh_cells _ _ _ _ _ _ (by simp)
                    case a2x2 => intro u hu; simp at hu; rcases hu with rfl | rfl | rfl <;> rfl
                    case a3x2 => unfold maxLen; omega
                    case a4x2 => omega
                    case a5x2 => have := hK.size; simp; omega
                    intro v5 w5 hown5 hgr5 _
                    have hS5 : Same w w5 := by
                      refine Kept.grown (X := fun _ => False) ?_ hgr5 (fun q hq hlq => by have := own_row hown q hq; omega)
                      exact (by repeat' (first | assumption | exact Kept.refl _ _ | refine Kept.drewN ?_ _ | refine Kept.drew ?_ | refine Kept.alloc ?_ _ | refine Kept.setCell ?_ (fun h => absurd (show wo.heap.size < _ from h) (by have := hK.size; omega)) _))
                    have hT5 : w5.ownsRow w.heap.size 65 3 v5 (T ++ [(⟨1, (s.data.toList.drop k).takeWhile onn, 0⟩ : Tok)]).length (tokCells (T ++ [(⟨1, (s.data.toList.drop k).takeWhile onn, 0⟩ : Tok)])) := by
                      rw [tokCells_snoc, List.length_append, HCELL.out]; exact hown5
                    obtain ⟨a5, c5, e5⟩ := own_slice hown5
                    subst e5
                    clear hown5 hgr5
                    by_cases h300 : T.length < 300
                    · have HST := hide (HR.out.step hlt HW1.out HW2.out HTK.out HWZ.out h300)
                      go_wp2_with fail
                      go_roundg (s.size + 1 - (j))
                      case measure => omega
                      case rel => exact ⟨j, T ++ [(⟨1, (s.data.toList.drop k).takeWhile onn, 0⟩ : Tok)], by go_num, by omega, by omega, by rw [List.length_append]; simp; omega, hS5, (by have h := HST.out; rw [← HJE.out] at h; exact h), hT5⟩
                    · have HFL := hide (HR.out.full hlt HW1.out HW2.out HTK.out HWZ.out (by omega) hT)
                      go_wp2_with fail
                      go_ret2
                      exact .inr ⟨2, HFL.out, by decide, rfl, hS5⟩
          · have hb : beg s[k] = false := by simpa using hb
            by_cases h45 : s[k].toNat = 45
            · as_aux_lemma =>
                have HW1 := hide (show wh s[k] = false by simp [wh]; omega)
                have HW2 := hide (show s[k].toNat ≠ 35 by omega)
                have f1 : ((s[k].toNat : Int) == 32) = false := by simp; omega
                have f2 : ((s[k].toNat : Int) == 9) = false := by simp; omega
                have f3 : ((s[k].toNat : Int) == 10) = false := by simp; omega
                have f4 : ((s[k].toNat : Int) == 13) = false := by simp; omega
                have f5 : ((s[k].toNat : Int) == 44) = false := by simp; omega
                have f6 : ((s[k].toNat : Int) == 35) = false := by simp; omega
                have g1 : ((s[k].toNat : Int) == 45) = true := by rw [h45]; rfl
                have HB := hide (show beg s[k] = false by simp [beg]; omega)
                have HD := hide (show dig s[k] = false by simp [dig]; omega)
                have HTN := hide (tok_neg hlt h45)
                have HEX := hide (show (s.extract k (k + 1 + run dig s (k + 1))).data.toList = 45 :: digsAt s (k + 1) by rw [ext_num s k hlt, show s[k] = 45 from UInt8.toNat_inj.1 h45])
                have HALL := hide (digsAt_all s (k + 1))
                clear h45
                have hrl := run_le dig s (k + 1) (by omega)
                go_wp2_with fail
                refine (letter_is s[k] _ false HB.out).mono ?_
                rintro e w1 ⟨rfl, rfl⟩
                go_wp2_with fail
                refine (digit_is s[k] _ false HD.out).mono ?_
                rintro e w1 ⟨rfl, rfl⟩
                go_wp2_with fail
                go_loopg [5] (s.size - k) (fun g i wq => wq = wo.alloc (.cells #[.int .i64 0, .string ⟨#[]⟩, .int .i64 0] 65) ∧ ∃ j : Nat, i = .int .i64 j ∧ k + 1 ≤ j ∧ j ≤ s.size ∧ j + g = s.size + 1 ∧ Hid (k + 1 + run dig s (k + 1) = j + run dig s j))
                case atStart => exact ⟨rfl, k + 1, by go_num, by omega, by omega, by omega, rfl⟩
                case round =>
                  obtain ⟨hwq, j, rfl, hkj, hjs, hjg, HJ⟩ := hrel
                  subst hwq
                  by_cases hj : j < s.size
                  · cases hdj : dig s[j] with
                    | true =>
                      have HDJ := hide hdj
                      clear hdj
                      go_wp2_with fail
                      refine (digit_is s[j] _ true HDJ.out).mono ?_
                      rintro e w1 ⟨rfl, rfl⟩
                      go_wp2_with fail
                      go_roundg (gk - 1)
                      case measure => omega
                      case rel => exact ⟨rfl, j + 1, by go_num, by omega, by omega, by omega, run_on hj HDJ.out HJ.out⟩
                    | false =>
                      have HDJ := hide hdj
                      clear hdj
                      have HJE0 := hide (run_off hj HDJ.out HJ.out)
                      go_wp2_with fail
                      refine (digit_is s[j] _ false HDJ.out).mono ?_
                      rintro e w1 ⟨rfl, rfl⟩
                      have hkj3 : k < j := by
                        have := HJE0.out
                        omega
                      have hxs : (s.extract k j).size ≤ 2000 := by simp; omega
                      have HIN := hide (fun w => intOf_neg w (s.extract k j) (digsAt s (k + 1)) (by rw [HJE0.out]; exact HEX.out) HALL.out hxs)
                      clear hxs
                      obtain ⟨q, hq⟩ : ∃ q, q = isNum true (digsAt s (k + 1)) := ⟨_, rfl⟩
                      obtain ⟨z, hz⟩ : ∃ z, z = intV true (digsAt s (k + 1)) := ⟨_, rfl⟩
                      rw [← hq, ← hz] at HIN
                      have HQ := hide hq
                      have HZ := hide hz
                      clear hq hz
                      go_wp2_with fail
                      refine (HIN.out _).mono ?_
                      rintro e w2 ⟨rfl, n2, rfl⟩
                      cases q
                      · have HE := hide (HR.out.bad hlt HW1.out HW2.out (HTN.out.2 HQ.out.symm))
                        go_wp2_with fail
                        go_ret2
                        exact .inr ⟨1, HE.out, by decide, rfl, (by repeat' (first | assumption | exact Kept.refl _ _ | refine Kept.drewN ?_ _ | refine Kept.drew ?_ | refine Kept.alloc ?_ _ | refine Kept.setB ?_ _ _))⟩
                      · have HTK : Hid (tokL (s.data.toList.drop k) = .ok ((⟨2, [], z⟩ : Tok), 1 + run dig s (k + 1))) := by rw [HZ.out]; exact HTN.out.1 HQ.out.symm
                        have HWZ : Hid (wrongT (⟨2, [], z⟩ : Tok) = 0) := by rw [HZ.out]; exact int_right HQ.out.symm HALL.out
                        have HCELL := hide (show tokC (⟨2, [], z⟩ : Tok) = [.int .i64 2, .string ⟨#[]⟩, .int .i64 z] from rfl)
                        have HJE := hide (show j = k + (1 + run dig s (k + 1)) by rw [HJE0.out]; omega)
                        have hkj2 : k < j := by
                          have h1 := (tok_pos HTK.out).1
                          have h2 := HJE.out
                          omega
                        go_wp2_with (at_builtin; refine wpList_append_own _ rfl _ _ 29 rfl w.heap.size 65 i0 _ 3 32 Tryz.underlying29 hi hz0 hz1 hz2 rfl (by decide) _ _ _ rfl (own_kept hown (X := fun _ => False) (by repeat' (first | assumption | exact Kept.refl _ _ | refine Kept.drewN ?_ _ | refine Kept.drew ?_ | refine Kept.alloc ?_ _ | refine Kept.setCell ?_ (fun h => absurd (show wo.heap.size < _ from h) (by have := hK.size; omega)) _)) (fun _ _ f => f)) ⟨_, 0, none⟩ 1 1 [.int .i64 2, .string ⟨#[]⟩, .int .i64 z] rfl rfl ?a1x4 ?a2x4 ?a3x4 ?a4x4 ?a5x4 ?_)
                        case a1x4 => exact fresh_cells _ _ _ _ _ _ (by simp)
                        case a2x4 => intro u hu; simp at hu; rcases hu with rfl | rfl | rfl <;> rfl
                        case a3x4 => unfold maxLen; omega
                        case a4x4 => omega
                        case a5x4 => have := hK.size; simp; omega
                        intro v5 w5 hown5 hgr5 _
                        have hS5 : Same w w5 := by
                          refine Kept.grown (X := fun _ => False) ?_ hgr5 (fun q hq hlq => by have := own_row hown q hq; omega)
                          exact (by repeat' (first | assumption | exact Kept.refl _ _ | refine Kept.drewN ?_ _ | refine Kept.drew ?_ | refine Kept.alloc ?_ _ | refine Kept.setCell ?_ (fun h => absurd (show wo.heap.size < _ from h) (by have := hK.size; omega)) _))
                        have hT5 : w5.ownsRow w.heap.size 65 3 v5 (T ++ [(⟨2, [], z⟩ : Tok)]).length (tokCells (T ++ [(⟨2, [], z⟩ : Tok)])) := by
                          rw [tokCells_snoc, List.length_append, HCELL.out]; exact hown5
                        obtain ⟨a5, c5, e5⟩ := own_slice hown5
                        subst e5
                        clear hown5 hgr5
                        by_cases h300 : T.length < 300
                        · have HST := hide (HR.out.step hlt HW1.out HW2.out HTK.out HWZ.out h300)
                          go_wp2_with fail
                          go_roundg (s.size + 1 - (j))
                          case measure => omega
                          case rel => exact ⟨j, T ++ [(⟨2, [], z⟩ : Tok)], by go_num, by omega, by omega, by rw [List.length_append]; simp; omega, hS5, (by have h := HST.out; rw [← HJE.out] at h; exact h), hT5⟩
                        · have HFL := hide (HR.out.full hlt HW1.out HW2.out HTK.out HWZ.out (by omega) hT)
                          go_wp2_with fail
                          go_ret2
                          exact .inr ⟨2, HFL.out, by decide, rfl, hS5⟩
                  · have HJE0 := hide (run_out (by omega) HJ.out)
                    have hkj3 : k < j := by
                      have := HJE0.out
                      omega
                    have hxs : (s.extract k j).size ≤ 2000 := by simp; omega
                    have HIN := hide (fun w => intOf_neg w (s.extract k j) (digsAt s (k + 1)) (by rw [HJE0.out]; exact HEX.out) HALL.out hxs)
                    clear hxs
                    obtain ⟨q, hq⟩ : ∃ q, q = isNum true (digsAt s (k + 1)) := ⟨_, rfl⟩
                    obtain ⟨z, hz⟩ : ∃ z, z = intV true (digsAt s (k + 1)) := ⟨_, rfl⟩
                    rw [← hq, ← hz] at HIN
                    have HQ := hide hq
                    have HZ := hide hz
                    clear hq hz
                    go_wp2_with fail
                    refine (HIN.out _).mono ?_
                    rintro e w2 ⟨rfl, n2, rfl⟩
                    cases q
                    · have HE := hide (HR.out.bad hlt HW1.out HW2.out (HTN.out.2 HQ.out.symm))
                      go_wp2_with fail
                      go_ret2
                      exact .inr ⟨1, HE.out, by decide, rfl, (by repeat' (first | assumption | exact Kept.refl _ _ | refine Kept.drewN ?_ _ | refine Kept.drew ?_ | refine Kept.alloc ?_ _ | refine Kept.setB ?_ _ _))⟩
                    · have HTK : Hid (tokL (s.data.toList.drop k) = .ok ((⟨2, [], z⟩ : Tok), 1 + run dig s (k + 1))) := by rw [HZ.out]; exact HTN.out.1 HQ.out.symm
                      have HWZ : Hid (wrongT (⟨2, [], z⟩ : Tok) = 0) := by rw [HZ.out]; exact int_right HQ.out.symm HALL.out
                      have HCELL := hide (show tokC (⟨2, [], z⟩ : Tok) = [.int .i64 2, .string ⟨#[]⟩, .int .i64 z] from rfl)
                      have HJE := hide (show j = k + (1 + run dig s (k + 1)) by rw [HJE0.out]; omega)
                      have hkj2 : k < j := by
                        have h1 := (tok_pos HTK.out).1
                        have h2 := HJE.out
                        omega
                      go_wp2_with (at_builtin; refine wpList_append_own _ rfl _ _ 29 rfl w.heap.size 65 i0 _ 3 32 Tryz.underlying29 hi hz0 hz1 hz2 rfl (by decide) _ _ _ rfl (own_kept hown (X := fun _ => False) (by repeat' (first | assumption | exact Kept.refl _ _ | refine Kept.drewN ?_ _ | refine Kept.drew ?_ | refine Kept.alloc ?_ _ | refine Kept.setCell ?_ (fun h => absurd (show wo.heap.size < _ from h) (by have := hK.size; omega)) _)) (fun _ _ f => f)) ⟨_, 0, none⟩ 1 1 [.int .i64 2, .string ⟨#[]⟩, .int .i64 z] rfl rfl ?a1x5 ?a2x5 ?a3x5 ?a4x5 ?a5x5 ?_)
                      case a1x5 => exact fresh_cells _ _ _ _ _ _ (by simp)
                      case a2x5 => intro u hu; simp at hu; rcases hu with rfl | rfl | rfl <;> rfl
                      case a3x5 => unfold maxLen; omega
                      case a4x5 => omega
                      case a5x5 => have := hK.size; simp; omega
                      intro v5 w5 hown5 hgr5 _
                      have hS5 : Same w w5 := by
                        refine Kept.grown (X := fun _ => False) ?_ hgr5 (fun q hq hlq => by have := own_row hown q hq; omega)
                        exact (by repeat' (first | assumption | exact Kept.refl _ _ | refine Kept.drewN ?_ _ | refine Kept.drew ?_ | refine Kept.alloc ?_ _ | refine Kept.setCell ?_ (fun h => absurd (show wo.heap.size < _ from h) (by have := hK.size; omega)) _))
                      have hT5 : w5.ownsRow w.heap.size 65 3 v5 (T ++ [(⟨2, [], z⟩ : Tok)]).length (tokCells (T ++ [(⟨2, [], z⟩ : Tok)])) := by
                        rw [tokCells_snoc, List.length_append, HCELL.out]; exact hown5
                      obtain ⟨a5, c5, e5⟩ := own_slice hown5
                      subst e5
                      clear hown5 hgr5
                      by_cases h300 : T.length < 300
                      · have HST := hide (HR.out.step hlt HW1.out HW2.out HTK.out HWZ.out h300)
                        go_wp2_with fail
                        go_roundg (s.size + 1 - (j))
                        case measure => omega
                        case rel => exact ⟨j, T ++ [(⟨2, [], z⟩ : Tok)], by go_num, by omega, by omega, by rw [List.length_append]; simp; omega, hS5, (by have h := HST.out; rw [← HJE.out] at h; exact h), hT5⟩
                      · have HFL := hide (HR.out.full hlt HW1.out HW2.out HTK.out HWZ.out (by omega) hT)
                        go_wp2_with fail
                        go_ret2
                        exact .inr ⟨2, HFL.out, by decide, rfl, hS5⟩
            · by_cases hd : dig s[k] = true
              · as_aux_lemma =>
                  have hdn := dig_iff hd
                  have HW1 := hide (show wh s[k] = false by simp [wh]; omega)
                  have HW2 := hide (show s[k].toNat ≠ 35 by omega)
                  have f1 : ((s[k].toNat : Int) == 32) = false := by simp; omega
                  have f2 : ((s[k].toNat : Int) == 9) = false := by simp; omega
                  have f3 : ((s[k].toNat : Int) == 10) = false := by simp; omega
                  have f4 : ((s[k].toNat : Int) == 13) = false := by simp; omega
                  have f5 : ((s[k].toNat : Int) == 44) = false := by simp; omega
                  have f6 : ((s[k].toNat : Int) == 35) = false := by simp; omega
                  have HB := hide (show beg s[k] = false by simp [beg]; omega)
                  have HD := hide hd
                  have HTN := hide (tok_dig hlt hd)
                  have HEX := hide (ext_num s k hlt)
                  have HALL := hide (show ∀ c ∈ s[k] :: digsAt s (k + 1), dig c = true by
                    intro c hc
                    rcases List.mem_cons.1 hc with h | h
                    · rw [h]; exact HD.out
                    · exact digsAt_all s (k + 1) c h)
                  clear hd hdn
                  have hrl := run_le dig s (k + 1) (by omega)
                  go_wp2_with fail
                  refine (letter_is s[k] _ false HB.out).mono ?_
                  rintro e w1 ⟨rfl, rfl⟩
                  go_wp2_with fail
                  refine (digit_is s[k] _ true HD.out).mono ?_
                  rintro e w1 ⟨rfl, rfl⟩
                  go_wp2_with fail
                  go_loopg [5] (s.size - k) (fun g i wq => wq = wo.alloc (.cells #[.int .i64 0, .string ⟨#[]⟩, .int .i64 0] 65) ∧ ∃ j : Nat, i = .int .i64 j ∧ k + 1 ≤ j ∧ j ≤ s.size ∧ j + g = s.size + 1 ∧ Hid (k + 1 + run dig s (k + 1) = j + run dig s j))
                  case atStart => exact ⟨rfl, k + 1, by go_num, by omega, by omega, by omega, rfl⟩
                  case round =>
                    obtain ⟨hwq, j, rfl, hkj, hjs, hjg, HJ⟩ := hrel
                    subst hwq
                    by_cases hj : j < s.size
                    · cases hdj : dig s[j] with
                      | true =>
                        have HDJ := hide hdj
                        clear hdj
                        go_wp2_with fail
                        refine (digit_is s[j] _ true HDJ.out).mono ?_
                        rintro e w1 ⟨rfl, rfl⟩
                        go_wp2_with fail
                        go_roundg (gk - 1)
                        case measure => omega
                        case rel => exact ⟨rfl, j + 1, by go_num, by omega, by omega, by omega, run_on hj HDJ.out HJ.out⟩
                      | false =>
                        have HDJ := hide hdj
                        clear hdj
                        have HJE0 := hide (run_off hj HDJ.out HJ.out)
                        go_wp2_with fail
                        refine (digit_is s[j] _ false HDJ.out).mono ?_
                        rintro e w1 ⟨rfl, rfl⟩
                        have hkj3 : k < j := by
                          have := HJE0.out
                          omega
                        have hxs : (s.extract k j).size ≤ 2000 := by simp; omega
                        have HIN := hide (fun w => intOf_pos w (s.extract k j) (s[k] :: digsAt s (k + 1)) (by rw [HJE0.out]; exact HEX.out) (by simp) HALL.out hxs)
                        clear hxs
                        obtain ⟨q, hq⟩ : ∃ q, q = isNum false (s[k] :: digsAt s (k + 1)) := ⟨_, rfl⟩
                        obtain ⟨z, hz⟩ : ∃ z, z = intV false (s[k] :: digsAt s (k + 1)) := ⟨_, rfl⟩
                        rw [← hq, ← hz] at HIN
                        have HQ := hide hq
                        have HZ := hide hz
                        clear hq hz
                        go_wp2_with fail
                        refine (HIN.out _).mono ?_
                        rintro e w2 ⟨rfl, rfl⟩
                        cases q
                        · have HE := hide (HR.out.bad hlt HW1.out HW2.out (HTN.out.2 HQ.out.symm))
                          go_wp2_with fail
                          go_ret2
                          exact .inr ⟨1, HE.out, by decide, rfl, (by repeat' (first | assumption | exact Kept.refl _ _ | refine Kept.drewN ?_ _ | refine Kept.drew ?_ | refine Kept.alloc ?_ _ | refine Kept.setB ?_ _ _))⟩
                        · have HTK : Hid (tokL (s.data.toList.drop k) = .ok ((⟨2, [], z⟩ : Tok), 1 + run dig s (k + 1))) := by rw [HZ.out]; exact HTN.out.1 HQ.out.symm
                          have HWZ : Hid (wrongT (⟨2, [], z⟩ : Tok) = 0) := by rw [HZ.out]; exact int_right HQ.out.symm HALL.out
                          have HCELL := hide (show tokC (⟨2, [], z⟩ : Tok) = [.int .i64 2, .string ⟨#[]⟩, .int .i64 z] from rfl)
                          have HJE := hide (show j = k + (1 + run dig s (k + 1)) by rw [HJE0.out]; omega)
                          have hkj2 : k < j := by
                            have h1 := (tok_pos HTK.out).1
                            have h2 := HJE.out
                            omega
                          go_wp2_with (at_builtin; refine wpList_append_own _ rfl _ _ 29 rfl w.heap.size 65 i0 _ 3 32 Tryz.underlying29 hi hz0 hz1 hz2 rfl (by decide) _ _ _ rfl (own_kept hown (X := fun _ => False) (by repeat' (first | assumption | exact Kept.refl _ _ | refine Kept.drewN ?_ _ | refine Kept.drew ?_ | refine Kept.alloc ?_ _ | refine Kept.setCell ?_ (fun h => absurd (show wo.heap.size < _ from h) (by have := hK.size; omega)) _)) (fun _ _ f => f)) ⟨_, 0, none⟩ 1 1 [.int .i64 2, .string ⟨#[]⟩, .int .i64 z] rfl rfl ?a1x6 ?a2x6 ?a3x6 ?a4x6 ?a5x6 ?_)
                          case a1x6 => exact fresh_cells _ _ _ _ _ _ (by simp)
                          case a2x6 => intro u hu; simp at hu; rcases hu with rfl | rfl | rfl <;> rfl
                          case a3x6 => unfold maxLen; omega
                          case a4x6 => omega
                          case a5x6 => have := hK.size; simp; omega
                          intro v5 w5 hown5 hgr5 _
                          have hS5 : Same w w5 := by
                            refine Kept.grown (X := fun _ => False) ?_ hgr5 (fun q hq hlq => by have := own_row hown q hq; omega)
                            exact (by repeat' (first | assumption | exact Kept.refl _ _ | refine Kept.drewN ?_ _ | refine Kept.drew ?_ | refine Kept.alloc ?_ _ | refine Kept.setCell ?_ (fun h => absurd (show wo.heap.size < _ from h) (by have := hK.size; omega)) _))
                          have hT5 : w5.ownsRow w.heap.size 65 3 v5 (T ++ [(⟨2, [], z⟩ : Tok)]).length (tokCells (T ++ [(⟨2, [], z⟩ : Tok)])) := by
                            rw [tokCells_snoc, List.length_append, HCELL.out]; exact hown5
                          obtain ⟨a5, c5, e5⟩ := own_slice hown5
                          subst e5
                          clear hown5 hgr5
                          by_cases h300 : T.length < 300
                          · have HST := hide (HR.out.step hlt HW1.out HW2.out HTK.out HWZ.out h300)
                            go_wp2_with fail
                            go_roundg (s.size + 1 - (j))
                            case measure => omega
                            case rel => exact ⟨j, T ++ [(⟨2, [], z⟩ : Tok)], by go_num, by omega, by omega, by rw [List.length_append]; simp; omega, hS5, (by have h := HST.out; rw [← HJE.out] at h; exact h), hT5⟩
                          · have HFL := hide (HR.out.full hlt HW1.out HW2.out HTK.out HWZ.out (by omega) hT)
                            go_wp2_with fail
                            go_ret2
                            exact .inr ⟨2, HFL.out, by decide, rfl, hS5⟩
                    · have HJE0 := hide (run_out (by omega) HJ.out)
                      have hkj3 : k < j := by
                        have := HJE0.out
                        omega
                      have hxs : (s.extract k j).size ≤ 2000 := by simp; omega
                      have HIN := hide (fun w => intOf_pos w (s.extract k j) (s[k] :: digsAt s (k + 1)) (by rw [HJE0.out]; exact HEX.out) (by simp) HALL.out hxs)
                      clear hxs
                      obtain ⟨q, hq⟩ : ∃ q, q = isNum false (s[k] :: digsAt s (k + 1)) := ⟨_, rfl⟩
                      obtain ⟨z, hz⟩ : ∃ z, z = intV false (s[k] :: digsAt s (k + 1)) := ⟨_, rfl⟩
                      rw [← hq, ← hz] at HIN
                      have HQ := hide hq
                      have HZ := hide hz
                      clear hq hz
                      go_wp2_with fail
                      refine (HIN.out _).mono ?_
                      rintro e w2 ⟨rfl, rfl⟩
                      cases q
                      · have HE := hide (HR.out.bad hlt HW1.out HW2.out (HTN.out.2 HQ.out.symm))
                        go_wp2_with fail
                        go_ret2
                        exact .inr ⟨1, HE.out, by decide, rfl, (by repeat' (first | assumption | exact Kept.refl _ _ | refine Kept.drewN ?_ _ | refine Kept.drew ?_ | refine Kept.alloc ?_ _ | refine Kept.setB ?_ _ _))⟩
                      · have HTK : Hid (tokL (s.data.toList.drop k) = .ok ((⟨2, [], z⟩ : Tok), 1 + run dig s (k + 1))) := by rw [HZ.out]; exact HTN.out.1 HQ.out.symm
                        have HWZ : Hid (wrongT (⟨2, [], z⟩ : Tok) = 0) := by rw [HZ.out]; exact int_right HQ.out.symm HALL.out
                        have HCELL := hide (show tokC (⟨2, [], z⟩ : Tok) = [.int .i64 2, .string ⟨#[]⟩, .int .i64 z] from rfl)
                        have HJE := hide (show j = k + (1 + run dig s (k + 1)) by rw [HJE0.out]; omega)
                        have hkj2 : k < j := by
                          have h1 := (tok_pos HTK.out).1
                          have h2 := HJE.out
                          omega
                        go_wp2_with (at_builtin; refine wpList_append_own _ rfl _ _ 29 rfl w.heap.size 65 i0 _ 3 32 Tryz.underlying29 hi hz0 hz1 hz2 rfl (by decide) _ _ _ rfl (own_kept hown (X := fun _ => False) (by repeat' (first | assumption | exact Kept.refl _ _ | refine Kept.drewN ?_ _ | refine Kept.drew ?_ | refine Kept.alloc ?_ _ | refine Kept.setCell ?_ (fun h => absurd (show wo.heap.size < _ from h) (by have := hK.size; omega)) _)) (fun _ _ f => f)) ⟨_, 0, none⟩ 1 1 [.int .i64 2, .string ⟨#[]⟩, .int .i64 z] rfl rfl ?a1x7 ?a2x7 ?a3x7 ?a4x7 ?a5x7 ?_)
                        case a1x7 => exact fresh_cells _ _ _ _ _ _ (by simp)
                        case a2x7 => intro u hu; simp at hu; rcases hu with rfl | rfl | rfl <;> rfl
                        case a3x7 => unfold maxLen; omega
                        case a4x7 => omega
                        case a5x7 => have := hK.size; simp; omega
                        intro v5 w5 hown5 hgr5 _
                        have hS5 : Same w w5 := by
                          refine Kept.grown (X := fun _ => False) ?_ hgr5 (fun q hq hlq => by have := own_row hown q hq; omega)
                          exact (by repeat' (first | assumption | exact Kept.refl _ _ | refine Kept.drewN ?_ _ | refine Kept.drew ?_ | refine Kept.alloc ?_ _ | refine Kept.setCell ?_ (fun h => absurd (show wo.heap.size < _ from h) (by have := hK.size; omega)) _))
                        have hT5 : w5.ownsRow w.heap.size 65 3 v5 (T ++ [(⟨2, [], z⟩ : Tok)]).length (tokCells (T ++ [(⟨2, [], z⟩ : Tok)])) := by
                          rw [tokCells_snoc, List.length_append, HCELL.out]; exact hown5
                        obtain ⟨a5, c5, e5⟩ := own_slice hown5
                        subst e5
                        clear hown5 hgr5
                        by_cases h300 : T.length < 300
                        · have HST := hide (HR.out.step hlt HW1.out HW2.out HTK.out HWZ.out h300)
                          go_wp2_with fail
                          go_roundg (s.size + 1 - (j))
                          case measure => omega
                          case rel => exact ⟨j, T ++ [(⟨2, [], z⟩ : Tok)], by go_num, by omega, by omega, by rw [List.length_append]; simp; omega, hS5, (by have h := HST.out; rw [← HJE.out] at h; exact h), hT5⟩
                        · have HFL := hide (HR.out.full hlt HW1.out HW2.out HTK.out HWZ.out (by omega) hT)
                          go_wp2_with fail
                          go_ret2
                          exact .inr ⟨2, HFL.out, by decide, rfl, hS5⟩
              · have hd : dig s[k] = false := by simpa using hd
                by_cases h34 : s[k].toNat = 34
                · as_aux_lemma =>
                    have HW1 := hide (show wh s[k] = false by simp [wh]; omega)
                    have HW2 := hide (show s[k].toNat ≠ 35 by omega)
                    have f1 : ((s[k].toNat : Int) == 32) = false := by simp; omega
                    have f2 : ((s[k].toNat : Int) == 9) = false := by simp; omega
                    have f3 : ((s[k].toNat : Int) == 10) = false := by simp; omega
                    have f4 : ((s[k].toNat : Int) == 13) = false := by simp; omega
                    have f5 : ((s[k].toNat : Int) == 44) = false := by simp; omega
                    have f6 : ((s[k].toNat : Int) == 35) = false := by simp; omega
                    have g1 : ((s[k].toNat : Int) == 45) = false := by simp; omega
                    have g2 : ((s[k].toNat : Int) == 34) = true := by rw [h34]; rfl
                    have HB := hide (show beg s[k] = false by simp [beg]; omega)
                    have HD := hide (show dig s[k] = false by simp [dig]; omega)
                    have H34 := hide h34
                    clear h34
                    go_wp2_with fail
                    refine (letter_is s[k] _ false HB.out).mono ?_
                    rintro e w1 ⟨rfl, rfl⟩
                    go_wp2_with fail
                    refine (digit_is s[k] _ false HD.out).mono ?_
                    rintro e w1 ⟨rfl, rfl⟩
                    go_wp2_with fail
                    go_loopg [5, 11] (s.size - k) (fun g i tx wq => wq = wo.alloc (.cells #[.int .i64 0, .string ⟨#[]⟩, .int .i64 0] 65) ∧ ∃ (j : Nat) (b : ByteArray), i = .int .i64 j ∧ tx = .string b ∧ b.size ≤ j ∧ k + 1 ≤ j ∧ j ≤ s.size ∧ s.size + 1 ≤ j + g ∧ Hid (wRl s k j b))
                    case atStart => exact ⟨rfl, k + 1, ⟨#[]⟩, by go_num, rfl, Nat.zero_le _, by omega, by omega, by omega, wRl.start s k⟩
                    case round =>
                      obtain ⟨hwq, j, b, rfl, rfl, hbs, hkj, hjs, hjg, HJ⟩ := hrel
                      subst hwq
                      have hbz := size_toList b
                      have HBZ := hide hbz
                      clear hbz
                      by_cases hj : j < s.size
                      · have hxe : s.extract j (j + 1) = ⟨#[s[j]]⟩ := ext_one s j hj
                        rcases (show s[j].toNat = 34 ∨ s[j].toNat = 10 ∨ s[j].toNat = 92 ∨ (s[j].toNat ≠ 34 ∧ s[j].toNat ≠ 10 ∧ s[j].toNat ≠ 92) from by omega) with h | h | h | h
                        · have e34 : ((s[j].toNat : Int) != 34) = false := by rw [h]; rfl
                          have HWD := hide (HJ.out.done hkj hj h)
                          have HTK := hide (tok_text hlt H34.out HWD.out)
                          have e1 : ((j : Int) == (s.size : Int)) = false := by simp; omega
                          have HJE := hide (show j + 1 = k + (j - k + 1) by omega)
                          clear h hxe
                          by_cases h40 : 40 < b.size
                          · have HE := hide (show lexRead s.data.toList = .error 2 by
                              have h1 : wrongT (⟨3, b.data.toList, 0⟩ : Tok) = 2 := by rw [text_wrong, if_pos (by rw [HBZ.out]; exact h40)]
                              have h2 := HR.out.wrong hlt HW1.out HW2.out HTK.out (by rw [h1]; decide)
                              rw [h1] at h2
                              exact h2)
                            go_wp2_with fail
                            go_ret2
                            exact .inr ⟨2, HE.out, by decide, rfl, (by repeat' (first | assumption | exact Kept.refl _ _ | refine Kept.drewN ?_ _ | refine Kept.drew ?_ | refine Kept.alloc ?_ _ | refine Kept.setB ?_ _ _))⟩
                          · have HWZ := hide (show wrongT (⟨3, b.data.toList, 0⟩ : Tok) = 0 by rw [text_wrong, if_neg (by rw [HBZ.out]; exact h40)])
                            have HCELL := hide (show tokC (⟨3, b.data.toList, 0⟩ : Tok) = [.int .i64 3, .string b, .int .i64 0] by simp [tokC])
                            have hkj2 : k < j + 1 := by
                              have h1 := (tok_pos HTK.out).1
                              have h2 := HJE.out
                              omega
                            go_wp2_with (at_builtin; refine wpList_append_own _ rfl _ _ 29 rfl w.heap.size 65 i0 _ 3 32 Tryz.underlying29 hi hz0 hz1 hz2 rfl (by decide) _ _ _ rfl (own_kept hown (X := fun _ => False) (by repeat' (first | assumption | exact Kept.refl _ _ | refine Kept.drewN ?_ _ | refine Kept.drew ?_ | refine Kept.alloc ?_ _ | refine Kept.setCell ?_ (fun h => absurd (show wo.heap.size < _ from h) (by have := hK.size; omega)) _)) (fun _ _ f => f)) ⟨_, 0, none⟩ 1 1 [.int .i64 3, .string b, .int .i64 0] rfl rfl ?a1x3 ?a2x3 ?a3x3 ?a4x3 ?a5x3 ?_)
                            case a1x3 => exact fresh_cells _ _ _ _ _ _ (by simp)
                            case a2x3 => intro u hu; simp at hu; rcases hu with rfl | rfl | rfl <;> rfl
                            case a3x3 => unfold maxLen; omega
                            case a4x3 => omega
                            case a5x3 => have := hK.size; simp; omega
                            intro v5 w5 hown5 hgr5 _
                            have hS5 : Same w w5 := by
                              refine Kept.grown (X := fun _ => False) ?_ hgr5 (fun q hq hlq => by have := own_row hown q hq; omega)
                              exact (by repeat' (first | assumption | exact Kept.refl _ _ | refine Kept.drewN ?_ _ | refine Kept.drew ?_ | refine Kept.alloc ?_ _ | refine Kept.setCell ?_ (fun h => absurd (show wo.heap.size < _ from h) (by have := hK.size; omega)) _))
                            have hT5 : w5.ownsRow w.heap.size 65 3 v5 (T ++ [(⟨3, b.data.toList, 0⟩ : Tok)]).length (tokCells (T ++ [(⟨3, b.data.toList, 0⟩ : Tok)])) := by
                              rw [tokCells_snoc, List.length_append, HCELL.out]; exact hown5
                            obtain ⟨a5, c5, e5⟩ := own_slice hown5
                            subst e5
                            clear hown5 hgr5
                            by_cases h300 : T.length < 300
                            · have HST := hide (HR.out.step hlt HW1.out HW2.out HTK.out HWZ.out h300)
                              go_wp2_with fail
                              go_roundg (s.size + 1 - (j + 1))
                              case measure => omega
                              case rel => exact ⟨j + 1, T ++ [(⟨3, b.data.toList, 0⟩ : Tok)], by go_num, by omega, by omega, by rw [List.length_append]; simp; omega, hS5, (by have h := HST.out; rw [← HJE.out] at h; exact h), hT5⟩
                            · have HFL := hide (HR.out.full hlt HW1.out HW2.out HTK.out HWZ.out (by omega) hT)
                              go_wp2_with fail
                              go_ret2
                              exact .inr ⟨2, HFL.out, by decide, rfl, hS5⟩
                        · have e34 : ((s[j].toNat : Int) != 34) = true := by rw [h]; rfl
                          have h10 : s[j] = 10 := UInt8.toNat_inj.1 h
                          have HE := hide (HR.out.bad hlt HW1.out HW2.out (tok_textno hlt H34.out (HJ.out.line hj h)))
                          go_wp2_with fail
                          go_ret2
                          exact .inr ⟨1, HE.out, by decide, rfl, (by repeat' (first | assumption | exact Kept.refl _ _ | refine Kept.drewN ?_ _ | refine Kept.drew ?_ | refine Kept.alloc ?_ _ | refine Kept.setB ?_ _ _))⟩
                        · have e34 : ((s[j].toNat : Int) != 34) = true := by rw [h]; rfl
                          have h92 : s[j] = 92 := UInt8.toNat_inj.1 h
                          have H92 := hide h
                          clear h
                          by_cases hj1 : j + 1 < s.size
                          · have hxe1 : s.extract (j + 1) (j + 1 + 1) = ⟨#[s[j + 1]]⟩ := ext_one s (j + 1) hj1
                            have e1 : (((j : Int) + 1) == (s.size : Int)) = false := by simp; omega
                            rcases (show s[j + 1].toNat = 34 ∨ s[j + 1].toNat = 92 ∨ s[j + 1].toNat = 110 ∨ (s[j + 1].toNat ≠ 34 ∧ s[j + 1].toNat ≠ 92 ∧ s[j + 1].toNat ≠ 110) from by omega) with h | h | h | h
                            · have t1 : ((s[j + 1].toNat : Int) == 34) = true := by rw [h]; rfl
                              have HN := hide (HJ.out.esc hkj hj H92.out hj1 (.inl h))
                              clear h
                              go_wp2_with fail
                              go_roundg (gk - 1)
                              case measure => omega
                              case rel => exact ⟨rfl, j + 1 + 1, b ++ ⟨#[s[j + 1]]⟩, by go_num, rfl, by rw [ByteArray.size_append]; have : (⟨#[s[j + 1]]⟩ : ByteArray).size = 1 := rfl; omega, by omega, by omega, by omega, HN⟩
                            · have t1 : ((s[j + 1].toNat : Int) == 34) = false := by simp; omega
                              have t2 : ((s[j + 1].toNat : Int) == 92) = true := by rw [h]; rfl
                              have HN := hide (HJ.out.esc hkj hj H92.out hj1 (.inr h))
                              clear h
                              go_wp2_with fail
                              go_roundg (gk - 1)
                              case measure => omega
                              case rel => exact ⟨rfl, j + 1 + 1, b ++ ⟨#[s[j + 1]]⟩, by go_num, rfl, by rw [ByteArray.size_append]; have : (⟨#[s[j + 1]]⟩ : ByteArray).size = 1 := rfl; omega, by omega, by omega, by omega, HN⟩
                            · have t1 : ((s[j + 1].toNat : Int) == 34) = false := by simp; omega
                              have t2 : ((s[j + 1].toNat : Int) == 92) = false := by simp; omega
                              have t3 : ((s[j + 1].toNat : Int) == 110) = true := by rw [h]; rfl
                              have HN := hide (HJ.out.escn hkj hj H92.out hj1 h)
                              clear h
                              go_wp2_with fail
                              go_roundg (gk - 1)
                              case measure => omega
                              case rel => exact ⟨rfl, j + 1 + 1, b ++ ⟨#[10]⟩, by go_num, rfl, by rw [ByteArray.size_append]; have : (⟨#[10]⟩ : ByteArray).size = 1 := rfl; omega, by omega, by omega, by omega, HN⟩
                            · have t1 : ((s[j + 1].toNat : Int) == 34) = false := by simp; omega
                              have t2 : ((s[j + 1].toNat : Int) == 92) = false := by simp; omega
                              have t3 : ((s[j + 1].toNat : Int) == 110) = false := by simp; omega
                              have HE := hide (HR.out.bad hlt HW1.out HW2.out (tok_textno hlt H34.out (HJ.out.escbad hj H92.out hj1 h)))
                              clear h
                              go_wp2_with fail
                              go_ret2
                              exact .inr ⟨1, HE.out, by decide, rfl, (by repeat' (first | assumption | exact Kept.refl _ _ | refine Kept.drewN ?_ _ | refine Kept.drew ?_ | refine Kept.alloc ?_ _ | refine Kept.setB ?_ _ _))⟩
                          · have e1 : (((j : Int) + 1) == (s.size : Int)) = true := by simp; omega
                            have HE := hide (HR.out.bad hlt HW1.out HW2.out (tok_textno hlt H34.out (HJ.out.escout hj H92.out (by omega))))
                            go_wp2_with fail
                            go_ret2
                            exact .inr ⟨1, HE.out, by decide, rfl, (by repeat' (first | assumption | exact Kept.refl _ _ | refine Kept.drewN ?_ _ | refine Kept.drew ?_ | refine Kept.alloc ?_ _ | refine Kept.setB ?_ _ _))⟩
                        · have e34 : ((s[j].toNat : Int) != 34) = true := by simp; omega
                          have h10 : (s[j] == 10) = false := by rw [beq_eq_false_iff_ne]; intro e; rw [e] at h; exact h.2.1 rfl
                          have h92 : (s[j] == 92) = false := by rw [beq_eq_false_iff_ne]; intro e; rw [e] at h; exact h.2.2 rfl
                          have HN := hide (HJ.out.plain hkj hj h.1 h.2.1 h.2.2)
                          clear h
                          go_wp2_with fail
                          go_roundg (gk - 1)
                          case measure => omega
                          case rel => exact ⟨rfl, j + 1, b ++ ⟨#[s[j]]⟩, by go_num, rfl, by rw [ByteArray.size_append]; have : (⟨#[s[j]]⟩ : ByteArray).size = 1 := rfl; omega, by omega, by omega, by omega, HN⟩
                      · have e1 : ((j : Int) == (s.size : Int)) = true := by simp; omega
                        have HE := hide (HR.out.bad hlt HW1.out HW2.out (tok_textno hlt H34.out (HJ.out.out (by omega))))
                        go_wp2_with fail
                        go_ret2
                        exact .inr ⟨1, HE.out, by decide, rfl, (by repeat' (first | assumption | exact Kept.refl _ _ | refine Kept.drewN ?_ _ | refine Kept.drew ?_ | refine Kept.alloc ?_ _ | refine Kept.setB ?_ _ _))⟩
                · have HW1 := hide (show wh s[k] = false by simp [wh]; omega)
                  have HW2 := hide (show s[k].toNat ≠ 35 by omega)
                  have f1 : ((s[k].toNat : Int) == 32) = false := by simp; omega
                  have f2 : ((s[k].toNat : Int) == 9) = false := by simp; omega
                  have f3 : ((s[k].toNat : Int) == 10) = false := by simp; omega
                  have f4 : ((s[k].toNat : Int) == 13) = false := by simp; omega
                  have f5 : ((s[k].toNat : Int) == 44) = false := by simp; omega
                  have f6 : ((s[k].toNat : Int) == 35) = false := by simp; omega
                  clear hno
                  cases hsg : sgn s[k] with
                  | true =>
                    as_aux_lemma =>
                      have g1 : ((s[k].toNat : Int) == 45) = false := by simp; omega
                      have g2 : ((s[k].toNat : Int) == 34) = false := by simp; omega
                      have HB := hide hb
                      have HD := hide hd
                      have HSG := hide hsg
                      have hxe : s.extract k (k + 1) = ⟨#[s[k]]⟩ := ext_one s k hlt
                      have HTK := hide (tok_sgn hlt HB.out HD.out h45 h34 hsg)
                      have HWZ := hide (sign_right s[k] hsg)
                      clear hb hd hsg h45 h34
                      go_wp2_with fail
                      refine (letter_is s[k] _ false HB.out).mono ?_
                      rintro e w1 ⟨rfl, rfl⟩
                      go_wp2_with fail
                      refine (digit_is s[k] _ false HD.out).mono ?_
                      rintro e w1 ⟨rfl, rfl⟩
                      go_wp2_with fail
                      refine (sgn_is s[k] _ true HSG.out).mono ?_
                      rintro e w1 ⟨rfl, rfl⟩
                      have HCELL := hide (show tokC (⟨4, [s[k]], 0⟩ : Tok) = [.int .i64 4, .string ⟨#[s[k]]⟩, .int .i64 0] from rfl)
                      have HJE := hide (show k + 1 ≤ k + 1 ∨ k = k + 2 from .inl (Nat.le_refl _))
                      have hkj2 : k < k + 1 := by
                        have h1 := (tok_pos HTK.out).1
                        have h2 := HJE.out
                        omega
                      go_wp2_with (at_builtin; refine wpList_append_own _ rfl _ _ 29 rfl w.heap.size 65 i0 _ 3 32 Tryz.underlying29 hi hz0 hz1 hz2 rfl (by decide) _ _ _ rfl (own_kept hown (X := fun _ => False) (by repeat' (first | assumption | exact Kept.refl _ _ | refine Kept.drewN ?_ _ | refine Kept.drew ?_ | refine Kept.alloc ?_ _ | refine Kept.setCell ?_ (fun h => absurd (show wo.heap.size < _ from h) (by have := hK.size; omega)) _)) (fun _ _ f => f)) ⟨_, 0, none⟩ 1 1 [.int .i64 4, .string ⟨#[s[k]]⟩, .int .i64 0] rfl rfl ?a1x8 ?a2x8 ?a3x8 ?a4x8 ?a5x8 ?_)
                      case a1x8 => exact fresh_cells _ _ _ _ _ _ (by simp)
                      case a2x8 => intro u hu; simp at hu; rcases hu with rfl | rfl | rfl <;> rfl
                      case a3x8 => unfold maxLen; omega
                      case a4x8 => omega
                      case a5x8 => have := hK.size; simp; omega
                      intro v5 w5 hown5 hgr5 _
                      have hS5 : Same w w5 := by
                        refine Kept.grown (X := fun _ => False) ?_ hgr5 (fun q hq hlq => by have := own_row hown q hq; omega)
                        exact (by repeat' (first | assumption | exact Kept.refl _ _ | refine Kept.drewN ?_ _ | refine Kept.drew ?_ | refine Kept.alloc ?_ _ | refine Kept.setCell ?_ (fun h => absurd (show wo.heap.size < _ from h) (by have := hK.size; omega)) _))
                      have hT5 : w5.ownsRow w.heap.size 65 3 v5 (T ++ [(⟨4, [s[k]], 0⟩ : Tok)]).length (tokCells (T ++ [(⟨4, [s[k]], 0⟩ : Tok)])) := by
                        rw [tokCells_snoc, List.length_append, HCELL.out]; exact hown5
                      obtain ⟨a5, c5, e5⟩ := own_slice hown5
                      subst e5
                      clear hown5 hgr5
                      by_cases h300 : T.length < 300
                      · have HST := hide (HR.out.step hlt HW1.out HW2.out HTK.out HWZ.out h300)
                        go_wp2_with fail
                        go_roundg (s.size + 1 - (k + 1))
                        case measure => omega
                        case rel => exact ⟨k + 1, T ++ [(⟨4, [s[k]], 0⟩ : Tok)], by go_num, by omega, by omega, by rw [List.length_append]; simp; omega, hS5, HST, hT5⟩
                      · have HFL := hide (HR.out.full hlt HW1.out HW2.out HTK.out HWZ.out (by omega) hT)
                        go_wp2_with fail
                        go_ret2
                        exact .inr ⟨2, HFL.out, by decide, rfl, hS5⟩
                  | false =>
                    as_aux_lemma =>
                      have g1 : ((s[k].toNat : Int) == 45) = false := by simp; omega
                      have g2 : ((s[k].toNat : Int) == 34) = false := by simp; omega
                      have HB := hide hb
                      have HD := hide hd
                      have HSG := hide hsg
                      have hxe : s.extract k (k + 1) = ⟨#[s[k]]⟩ := ext_one s k hlt
                      have HE := hide (HR.out.bad hlt HW1.out HW2.out (tok_no hlt HB.out HD.out h45 h34 hsg))
                      clear hb hd hsg h45 h34
                      go_wp2_with fail
                      refine (letter_is s[k] _ false HB.out).mono ?_
                      rintro e w1 ⟨rfl, rfl⟩
                      go_wp2_with fail
                      refine (digit_is s[k] _ false HD.out).mono ?_
                      rintro e w1 ⟨rfl, rfl⟩
                      go_wp2_with fail
                      refine (sgn_is s[k] _ false HSG.out).mono ?_
                      rintro e w1 ⟨rfl, rfl⟩
                      go_wp2_with fail
                      go_ret2
                      exact .inr ⟨1, HE.out, by decide, rfl, (by repeat' (first | assumption | exact Kept.refl _ _ | refine Kept.drewN ?_ _ | refine Kept.drew ?_ | refine Kept.alloc ?_ _ | refine Kept.setB ?_ _ _))⟩
      · have HE := hide (HR.out.ended (by omega))
        go_wp2_with fail
        go_ret2
        exact .inl ⟨T, _, HE.out, rfl, hown, hK⟩

end Go.Proofs.YtkkjchfhgjfclabGreatDoor
