import Derived.Test.YtkkjchfhgjfclaaDoorLexback01
import Derived.Test.YtkkjchfhgjfclaaDoorLexback02
import Derived.Test.YtkkjchfhgjfclaaDoorChecked
import Derived.Lib.AppendStr
import Derived.Lib.UnsafeStr
import Derived.Lib.ItoaNum
/- parse.Text: Skip, Piece. -/
namespace Go.Proofs.YtkkjchfhgjfclaaDoor
open Go.RowKit

/-- what is left behind a piece, if it comes next -/
def cutL (p l : List UInt8) : List UInt8 := if p.isPrefixOf l then l.drop p.length else l

theorem tSkip (w : World) (b : Nat) (l p : List UInt8) (h : Txt w b l) :
    Calls Tryd.prog 46 #[.pointer (some ⟨b, 0, none⟩), .string ⟨p.toArray⟩] w fun e w' => e = .returned (.bool (p.isPrefixOf l)) ∧ Txt w' b (cutL p l) ∧ Kept (· = b) w w' := by
  have c0 := h.c0
  have f0 := h.f 0
  go_enter Tryd.func46, Tryd.ntmps46
  go_wp2_with fail
  refine (Tryd.strings_CutPrefix _ _ _).mono ?_
  rintro e w1 ⟨rfl, rfl⟩
  rw [show Lib.trimPrefix (⟨l.toArray⟩ : ByteArray).data.toList (⟨p.toArray⟩ : ByteArray).data.toList = cutL p l from rfl, show Lib.hasPrefix (⟨l.toArray⟩ : ByteArray).data.toList (⟨p.toArray⟩ : ByteArray).data.toList = p.isPrefixOf l from rfl]
  go_wp2
  go_ret
  exact ⟨rfl, h.set _, (by repeat' (first | assumption | exact Kept.refl _ _ | refine Kept.drewN ?_ _ | refine Kept.drew ?_ | refine Kept.alloc ?_ _ | refine Kept.setB ?_ _ _))⟩

theorem tPiece (w : World) (b : Nat) (l p : List UInt8) (h : Txt w b l) (hp : p.isPrefixOf l = true) :
    Calls Tryd.prog 67 #[.pointer (some ⟨b, 0, none⟩), .string ⟨p.toArray⟩] w fun e w' => e = .returned (.tuple #[]) ∧ Txt w' b (l.drop p.length) ∧ Kept (· = b) w w' := by
  have HP := hide hp
  clear hp
  go_enter Tryd.func67, Tryd.ntmps67
  go_wp2_with fail
  refine (tSkip _ b l p h).mono ?_
  rintro e w1 ⟨rfl, h1, hK⟩
  rw [HP.out]
  go_wp2_with fail
  first | go_end0 | refine bodyPost_ret (results_none rfl _ _ _) rfl ?_
  refine ⟨rfl, ?_, hK⟩
  rw [cutL, if_pos HP.out] at h1
  exact h1

theorem tPiece_bad (w : World) (b : Nat) (l p : List UInt8) (h : Txt w b l) (hp : p.isPrefixOf l = false) :
    Calls Tryd.prog 67 #[.pointer (some ⟨b, 0, none⟩), .string ⟨p.toArray⟩] w fun e w' => e = fault 1 ∧ Kept (· = b) w w' := by
  have HP := hide hp
  clear hp
  go_enter Tryd.func67, Tryd.ntmps67
  go_wp2_with fail
  refine (tSkip _ b l p h).mono ?_
  rintro e w1 ⟨rfl, h1, hK⟩
  rw [HP.out]
  go_wp2_with fail
  exact ⟨rfl, rfl, hK⟩

end Go.Proofs.YtkkjchfhgjfclaaDoor

/- Bytes and strings: a row of bytes as a string. -/
namespace Go.Proofs.YtkkjchfhgjfclaaDoor
open Go.RowKit

theorem push_bytes (l : List UInt8) : ∀ acc : ByteArray, (l.map fun b => (b.toNat : Int)).foldl (fun r n => r.push (UInt8.ofNat n.toNat)) acc = ⟨acc.data ++ l.toArray⟩ := by
  induction l with
  | nil => intro acc; apply ByteArray.ext; simp
  | cons c r ih =>
    intro acc
    rw [List.map_cons, List.foldl_cons, ih]
    apply ByteArray.ext
    apply Array.ext'
    simp [ByteArray.push]

theorem own_string {w : World} {base n : Nat} {v : Value} {l : List UInt8} (h : w.ownsRow base 5 1 v n (Lib.byteCells l)) :
    (convert 43 9 v).run Tryd.prog w = .ok (.string ⟨l.toArray⟩) w := by
  obtain ⟨hl, h2⟩ := h
  have hn : l.length = n := by rw [Lib.byteCells_length] at hl; omega
  rcases h2 with ⟨rfl, rfl⟩ | ⟨g, cap, cur, rfl, hg, hb, hc1, hc2, hc3, htk⟩
  · rw [run_convert_bytes_string w 43 9 5 none 0 0 Tryd.underlying43 Tryd.underlying5 Tryd.underlying9]
    obtain rfl : l = [] := List.length_eq_zero_iff.1 hn
    rfl
  · rw [run_convert_bytes_string w 43 9 5 _ n cap Tryd.underlying43 Tryd.underlying5 Tryd.underlying9]
    have hcells : ∀ j u, (Lib.byteCells l)[j]? = some u → w.cell? ((⟨g, 0, none⟩ : Addr).add j) = some u :=
      World.ownsRow.cells (v := .slice (some ⟨g, 0, none⟩) n cap) ⟨hl, .inr ⟨g, cap, cur, rfl, hg, hb, hc1, hc2, hc3, htk⟩⟩ (g := g) rfl
    have hld := run_loadCells_list (P := Tryd.prog) w ⟨g, 0, none⟩ (Lib.byteCells l) hcells
    have e1 : Lib.byteCells l = (l.map fun b => (b.toNat : Int)).map (Value.int .u8) := by simp [Lib.byteCells]
    rw [Lib.byteCells_length, hn, e1] at hld
    rw [run_bytesToString w _ n cap _ hld, push_bytes]
    congr 2
    apply ByteArray.ext
    simp

theorem info5 : (Tryd.prog.info? 5).map (fun i => (i.zero, i.size, i.bytes)) = some (some (.int .u8 0), 1, 1) := by kernel_rfl

theorem one_string (X : World) (g : Nat) (c : UInt8) (h : X.cell? ⟨g, 0, none⟩ = some (.int .u8 c.toNat)) :
    (convert 43 9 (.slice (some ⟨g, 0, none⟩) 1 1)).run Tryd.prog X = .ok (.string ⟨#[c]⟩) X := by
  rw [run_convert_bytes_string X 43 9 5 _ 1 1 Tryd.underlying43 Tryd.underlying5 Tryd.underlying9]
  have hld := run_loadCells_list (P := Tryd.prog) X ⟨g, 0, none⟩ [.int .u8 c.toNat] (by
    intro j v hj
    match j, hj with
    | 0, hj => simp at hj; subst hj; simpa [Addr.add] using h)
  rw [run_bytesToString X _ 1 1 [(c.toNat : Int)] hld]
  have e := push_bytes [c] ByteArray.empty
  rw [show [(c.toNat : Int)] = [c].map (fun b => (b.toNat : Int)) from rfl, e]
  rfl

theorem same_freeze {a w : World} {p : Addr} {n : Nat} (h : Same a w) (hp : a.heap.size ≤ p.block) : Same a (w.freeze p n) := by
  unfold World.freeze
  split
  · exact h
  · refine ⟨h.os, h.tape, h.output, by simpa using h.size, fun k hk hx => ?_⟩
    rw [← h.block k hk hx]
    simp only [Array.getElem?_modify]
    rw [if_neg (by omega)]

end Go.Proofs.YtkkjchfhgjfclaaDoor

/- parse.Text: Quoted. -/
namespace Go.Proofs.YtkkjchfhgjfclaaDoor
open Go.RowKit

/-- what a text tells, behind its first sign, and what is left behind it -/
def quotF (alone : UInt8 → Bool) (told : List UInt8 → Option (UInt8 × List UInt8)) : Nat → List UInt8 → Option (List UInt8 × List UInt8)
  | 0, _ => none
  | _ + 1, [] => none
  | f + 1, c :: r =>
    if c.toNat = 34 then some ([], r)
    else if c.toNat = 92 then (match told r with | none => none | some y => (quotF alone told f y.2).map fun x => (y.1 :: x.1, x.2))
    else if alone c then (quotF alone told f r).map fun x => (c :: x.1, x.2)
    else none

def quotL (alone : UInt8 → Bool) (told : List UInt8 → Option (UInt8 × List UInt8)) (l : List UInt8) : Option (List UInt8 × List UInt8) :=
  if [34].isPrefixOf l then quotF alone told l.length (l.drop 1) else none

/-- how far a text has been gone through: T is told, r is left, g rounds at most are to come -/
def qRel (alone : UInt8 → Bool) (told : List UInt8 → Option (UInt8 × List UInt8)) (l : List UInt8) (g : Nat) (r T : List UInt8) : Prop :=
  quotL alone told l = (quotF alone told g r).map fun x => (T ++ x.1, x.2)

theorem qRel.start {alone : UInt8 → Bool} {told : List UInt8 → Option (UInt8 × List UInt8)} {l : List UInt8} (h : [34].isPrefixOf l = true) : qRel alone told l l.length (l.drop 1) [] := by
  unfold qRel quotL
  rw [if_pos h]
  cases quotF alone told l.length (l.drop 1) <;> simp
theorem qRel.ended {alone : UInt8 → Bool} {told : List UInt8 → Option (UInt8 × List UInt8)} {l : List UInt8} {g : Nat} {T : List UInt8} (h : qRel alone told l (g + 1) [] T) : quotL alone told l = none := by
  rw [h, quotF]; rfl
theorem qRel.close {alone : UInt8 → Bool} {told : List UInt8 → Option (UInt8 × List UInt8)} {l : List UInt8} {g : Nat} {c : UInt8} {r T : List UInt8} (h : qRel alone told l (g + 1) (c :: r) T) (hc : c.toNat = 34) : quotL alone told l = some (T, r) := by
  rw [h, quotF, if_pos hc]; simp
theorem qRel.esc_bad {alone : UInt8 → Bool} {told : List UInt8 → Option (UInt8 × List UInt8)} {l : List UInt8} {g : Nat} {c : UInt8} {r T : List UInt8} (h : qRel alone told l (g + 1) (c :: r) T) (hc : c.toNat = 92) (ht : told r = none) : quotL alone told l = none := by
  rw [h, quotF, if_neg (by omega), if_pos hc, ht]; rfl
theorem qRel.esc {alone : UInt8 → Bool} {told : List UInt8 → Option (UInt8 × List UInt8)} {l : List UInt8} {g : Nat} {c d : UInt8} {r r' T : List UInt8} (h : qRel alone told l (g + 1) (c :: r) T) (hc : c.toNat = 92) (ht : told r = some (d, r')) : qRel alone told l g r' (T ++ [d]) := by
  unfold qRel
  rw [h, quotF, if_neg (by omega), if_pos hc, ht]
  simp only []
  cases quotF alone told g r' <;> simp
theorem qRel.bad {alone : UInt8 → Bool} {told : List UInt8 → Option (UInt8 × List UInt8)} {l : List UInt8} {g : Nat} {c : UInt8} {r T : List UInt8} (h : qRel alone told l (g + 1) (c :: r) T) (h1 : c.toNat ≠ 34) (h2 : c.toNat ≠ 92) (ha : alone c = false) : quotL alone told l = none := by
  rw [h, quotF, if_neg h1, if_neg h2, if_neg (by rw [ha]; decide)]; rfl
theorem qRel.step {alone : UInt8 → Bool} {told : List UInt8 → Option (UInt8 × List UInt8)} {l : List UInt8} {g : Nat} {c : UInt8} {r T : List UInt8} (h : qRel alone told l (g + 1) (c :: r) T) (h1 : c.toNat ≠ 34) (h2 : c.toNat ≠ 92) (ha : alone c = true) : qRel alone told l g r (T ++ [c]) := by
  unfold qRel
  rw [h, quotF, if_neg h1, if_neg h2, if_pos ha]
  cases quotF alone told g r <;> simp

set_option maxHeartbeats 3200000 in
theorem tQuoted (fa ft : FuncId) (alone : UInt8 → Bool) (told : List UInt8 → Option (UInt8 × List UInt8)) (x fv : Value) (hfv : fv = .func (.func ft) #[x] #[] ∨ fv = .func (.func ft) #[] #[x])
    (hca : ∀ (args : Array Value) (w : World), (callFunc fa args).run Tryd.prog w = .ok (.enter fa args) w) (hct : ∀ (args : Array Value) (w : World), (callFunc ft args).run Tryd.prog w = .ok (.enter ft args) w)
    (ha : Hid (∀ (c : UInt8) (w : World), Calls Tryd.prog fa #[.int .u8 c.toNat] w fun e w' => e = .returned (.bool (alone c)) ∧ w' = w))
    (hlen : Hid (∀ r d r', told r = some (d, r') → r'.length ≤ r.length))
    (w : World) (b : Nat) (l : List UInt8) (h : Txt w b l) (hl : l.length ≤ 1000000000000)
    (ht : Hid (∀ wr r, Kept (· = b) w wr → Txt wr b r → Calls Tryd.prog ft #[x] wr fun e w' =>
      (∃ d r', told r = some (d, r') ∧ e = .returned (.int .u8 d.toNat) ∧ Txt w' b r' ∧ Kept (· = b) wr w') ∨ (told r = none ∧ e = fault 1 ∧ Kept (· = b) wr w'))) :
    Calls Tryd.prog 55 #[.pointer (some ⟨b, 0, none⟩), .func (.func fa) #[] #[], fv] w fun e w' =>
      (∃ t r, quotL alone told l = some (t, r) ∧ e = .returned (.string ⟨t.toArray⟩) ∧ Txt w' b r ∧ Kept (· = b) w w') ∨ (quotL alone told l = none ∧ e = fault 1 ∧ Kept (· = b) w w') := by
  obtain ⟨i0, hi, hz0, hz1, hz2⟩ := info_parts info5
  have hb := h.lt
  cases hp : [34].isPrefixOf l with
  | false =>
    have HQ := hide (show quotL alone told l = none by unfold quotL; rw [hp]; rfl)
    have HP := hide (tPiece_bad w b l [34] h hp)
    clear hp
    rcases hfv with rfl | rfl
    all_goals
      go_enter Tryd.func55, Tryd.ntmps55
      go_wp2_with fail
      refine HP.out.mono ?_
      rintro e w1 ⟨rfl, hK⟩
      go_wp2_with fail
      exact ⟨rfl, .inr ⟨HQ.out, rfl, hK⟩⟩
  | true =>
    have HP := hide (tPiece w b l [34] h hp)
    have HS := hide (qRel.start (alone := alone) (told := told) hp)
    have hd : (l.drop 1).length + 1 ≤ l.length := by cases l with | nil => simp at hp | cons c r => simp
    have hlen0 : (l.drop 1).length ≤ 1000000000000 := by omega
    clear hp
    rcases hfv with rfl | rfl
    all_goals
      go_enter Tryd.func55, Tryd.ntmps55
      go_wp2_with fail
      refine HP.out.mono ?_
      rintro e w1 ⟨rfl, h1, hK1⟩
      go_wp2_with fail
      go_loopg [7] l.length (fun g tv wr => ∃ (r T : List UInt8), r.length + 1 ≤ g ∧ T.length + g ≤ l.length ∧ Txt wr b r ∧ Kept (· = b) w wr ∧ Hid (qRel alone told l g r T) ∧ wr.ownsRow w.heap.size 5 1 tv T.length (Lib.byteCells T))
      case atStart => exact ⟨l.drop 1, [], hd, by simp, h1, hK1, HS, World.ownsRow_nil _ _ _ _⟩
      case round =>
        obtain ⟨r, T, hrg, hT, hR, hK, HR, hown⟩ := hrel
        clear hK1 h1 HP HS hd hlen0
        obtain ⟨g1, hg1⟩ : ∃ g1, gk = g1 + 1 := ⟨gk - 1, by omega⟩
        have HR1 : Hid (qRel alone told l (g1 + 1) r T) := by rw [← hg1]; exact HR
        have hgle : gk ≤ g1 + 1 := by omega
        have hgge : g1 + 1 ≤ gk := by omega
        clear HR hg1
        cases r with
        | nil =>
          have HN := hide (tNext_end wr b hR)
          go_wp2_with fail
          refine HN.out.mono ?_
          rintro e w2 ⟨rfl, rfl⟩
          go_wp2_with fail
          exact ⟨rfl, .inr ⟨HR1.out.ended, rfl, hK⟩⟩
        | cons c r =>
          have hrl : r.length + 1 ≤ g1 := by simp at hrg; omega
          have HN := hide (tNext wr b c r hR)
          go_wp2_with fail
          refine HN.out.mono ?_
          rintro e w2 ⟨rfl, hR2, hK2⟩
          have hown2 := own_kept hown hK2 (fun g hg e => by omega)
          have hK3 : Kept (· = b) w w2 := hK.trans hK2 (fun _ _ h => h)
          clear hown hK2 hR hK HN hrg
          by_cases h34 : c.toNat = 34
          · have t1 : ((c.toNat : Int) == 34) = true := by simp; omega
            have hconv := own_string hown2
            have HC := hide h34
            clear h34
            go_wp2_with fail
            go_ret
            exact .inl ⟨T, r, HR1.out.close HC.out, rfl, hR2, hK3⟩
          · have t1 : ((c.toNat : Int) == 34) = false := by simp; omega
            by_cases h92 : c.toNat = 92
            · have t2 : ((c.toNat : Int) == 92) = true := by simp; omega
              have HC := hide h92
              clear h34 h92
              have HTo := hide (ht.out w2 r hK3 hR2)
              go_wp2_with fail
              refine HTo.out.mono ?_
              rintro e w3 (⟨d, r', htd, rfl, hR4, hK4⟩ | ⟨htd, rfl, hK4⟩)
              · have HD := hide htd
                have hle := hlen.out _ _ _ htd
                clear htd
                have hown4 := own_kept hown2 hK4 (fun g hg e => by omega)
                have hK5 : Kept (· = b) w w3 := hK3.trans hK4 (fun _ _ h => h)
                clear hown2 hK4 hR2 hK3 HTo
                go_wp2_with (at_builtin; refine wpList_append_own _ rfl _ _ 43 rfl w.heap.size 5 i0 (.int .u8 0) 1 1 Tryd.underlying43 hi hz0 hz1 hz2 rfl (by decide) _ _ _ rfl (hown4.alloc _) ⟨w3.heap.size, 0, none⟩ 1 1 [.int .u8 d.toNat] rfl rfl ?p1 ?p2 ?p3 ?p4 ?p5 ?_)
                case p1 =>
                  intro jj u hjj
                  match jj, hjj with
                  | 0, hjj => simp at hjj; subst hjj; simp [Addr.add]
                case p2 => intro u hu; simp at hu; subst hu; rfl
                case p3 => unfold maxLen; omega
                case p4 => omega
                case p5 => have := hK5.size; simp; omega
                intro v5 w5 hown5 hgr5 _
                have hT5 : w5.ownsRow w.heap.size 5 1 v5 (T ++ [d]).length (Lib.byteCells (T ++ [d])) := by
                  have e1 : Lib.byteCells (T ++ [d]) = Lib.byteCells T ++ [.int .u8 d.toNat] := by simp [Lib.byteCells]
                  rw [e1, List.length_append]; exact hown5
                have hrow : ∀ k, Value.ownBlock _ = some k → w.heap.size ≤ k := own_row hown4
                have hK8 : Kept (· = b) w w5 := (hK5.alloc _).grown hgr5 (fun k hk hlt => by have := hrow k hk; omega)
                have hR5 : Txt w5 b r' := hR4.keep (((Kept.refl (fun k => some k = Value.ownBlock _) w3).alloc _).grown hgr5 (fun k hk _ => hk.symm)) (fun e => by have := hrow b e.symm; omega)
                clear hown5 hgr5 hrow hown4 hR4 hK5
                go_wp2_with fail
                go_roundg g1
                case measure => omega
                case rel => exact ⟨r', T ++ [d], by omega, by rw [List.length_append]; simp; omega, hR5, hK8, HR1.out.esc HC.out HD.out, hT5⟩
              · have HD := hide htd
                clear htd
                go_wp2_with fail
                exact ⟨rfl, .inr ⟨HR1.out.esc_bad HC.out HD.out, rfl, hK3.trans hK4 (fun _ _ h => h)⟩⟩
            · have t2 : ((c.toNat : Int) == 92) = false := by simp; omega
              have H1 := hide h34
              have H2 := hide h92
              clear h34 h92
              go_wp2_with fail
              refine (ha.out c _).mono ?_
              rintro e w3 ⟨rfl, rfl⟩
              cases hal : alone c with
              | true =>
                have HA := hide hal
                clear hal
                go_wp2_with (at_builtin; refine wpList_append_own _ rfl _ _ 43 rfl w.heap.size 5 i0 (.int .u8 0) 1 1 Tryd.underlying43 hi hz0 hz1 hz2 rfl (by decide) _ _ _ rfl (hown2.alloc _) ⟨w3.heap.size, 0, none⟩ 1 1 [.int .u8 c.toNat] rfl rfl ?q1 ?q2 ?q3 ?q4 ?q5 ?_)
                case q1 =>
                  intro jj u hjj
                  match jj, hjj with
                  | 0, hjj => simp at hjj; subst hjj; simp [Addr.add]
                case q2 => intro u hu; simp at hu; subst hu; rfl
                case q3 => unfold maxLen; omega
                case q4 => omega
                case q5 => have := hK3.size; simp; omega
                intro v5 w5 hown5 hgr5 _
                have hT5 : w5.ownsRow w.heap.size 5 1 v5 (T ++ [c]).length (Lib.byteCells (T ++ [c])) := by
                  have e1 : Lib.byteCells (T ++ [c]) = Lib.byteCells T ++ [.int .u8 c.toNat] := by simp [Lib.byteCells]
                  rw [e1, List.length_append]; exact hown5
                have hrow : ∀ k, Value.ownBlock _ = some k → w.heap.size ≤ k := own_row hown2
                have hK8 : Kept (· = b) w w5 := (hK3.alloc _).grown hgr5 (fun k hk hlt => by have := hrow k hk; omega)
                have hR5 : Txt w5 b r := hR2.keep (((Kept.refl (fun k => some k = Value.ownBlock _) w3).alloc _).grown hgr5 (fun k hk _ => hk.symm)) (fun e => by have := hrow b e.symm; omega)
                clear hown5 hgr5 hrow hown2 hR2 hK3
                go_wp2_with fail
                go_roundg g1
                case measure => omega
                case rel => exact ⟨r, T ++ [c], by omega, by rw [List.length_append]; simp; omega, hR5, hK8, HR1.out.step H1.out H2.out HA.out, hT5⟩
              | false =>
                have HA := hide hal
                clear hal
                go_wp2_with fail
                exact ⟨rfl, .inr ⟨HR1.out.bad H1.out H2.out HA.out, rfl, hK3⟩⟩

end Go.Proofs.YtkkjchfhgjfclaaDoor

/- Tokens, in plain Lean: what Read, Check and Print of chapter 1 answer. No program is named here. -/
namespace Go.Proofs.YtkkjchfhgjfclaaDoor

/-- A token: its kind, its text, its number. -/
structure Tok where
  k : Int
  s : List UInt8
  n : Int

abbrev dig (c : UInt8) : Bool := decide (48 ≤ c.toNat) && decide (c.toNat ≤ 57)
abbrev beg (c : UInt8) : Bool := (decide (97 ≤ c.toNat) && decide (c.toNat ≤ 122)) || (decide (65 ≤ c.toNat) && decide (c.toNat ≤ 90)) || decide (c.toNat = 95)
abbrev onn (c : UInt8) : Bool := beg c || dig c
abbrev wh (c : UInt8) : Bool := decide (c.toNat = 9) || decide (c.toNat = 10) || decide (c.toNat = 13) || decide (c.toNat = 32) || decide (c.toNat = 44)
abbrev sgn (c : UInt8) : Bool := [123, 125, 40, 41, 58, 91, 93].contains c

/-- how many bytes stand there that are nothing (true: within a remark) -/
def skipN : Bool → List UInt8 → Nat
  | _, [] => 0
  | false, c :: r => if wh c then skipN false r + 1 else if c.toNat = 35 then skipN true r + 1 else 0
  | true, c :: r => if c.toNat = 10 then skipN false r + 1 else skipN true r + 1

/-- what a text tells, behind its first sign, and how many bytes it takes (true: behind a backslash) -/
def wordsL : Bool → List UInt8 → Option (List UInt8 × Nat)
  | _, [] => none
  | true, d :: r => if d.toNat = 34 ∨ d.toNat = 92 then (wordsL false r).map (fun x => (d :: x.1, x.2 + 1)) else if d.toNat = 110 then (wordsL false r).map (fun x => (10 :: x.1, x.2 + 1)) else none
  | false, c :: r => if c.toNat = 34 then some ([], 1) else if c.toNat = 10 then none else if c.toNat = 92 then (wordsL true r).map (fun x => (x.1, x.2 + 1)) else (wordsL false r).map (fun x => (c :: x.1, x.2 + 1))

def valD (l : List UInt8) : Int := l.foldl (fun a c => 10 * a + ((c.toNat : Int) - 48)) 0

def isNum (minus : Bool) (ds : List UInt8) : Bool :=
  !(ds.isEmpty || decide (9 < ds.length)) && (decide ((ds.head?.getD 0).toNat ≠ 48) || (decide (ds = [48]) && !minus))

def numL (l : List UInt8) : Except Int (Tok × Nat) :=
  let minus : Bool := decide ((l.head?.getD 0).toNat = 45)
  let ds := (if minus then l.tail else l).takeWhile dig
  if isNum minus ds then .ok (⟨2, [], if minus then -(valD ds) else valD ds⟩, ds.length + if minus then 1 else 0) else .error 1

/-- the token that stands at a list's head, and how many bytes it takes -/
def tokL (l : List UInt8) : Except Int (Tok × Nat) :=
  match l with
  | [] => .error 1
  | c :: r =>
    if beg c then .ok (⟨1, l.takeWhile onn, 0⟩, (l.takeWhile onn).length)
    else if decide (c.toNat = 45) || dig c then numL l
    else if c.toNat = 34 then match wordsL false r with | none => .error 1 | some x => .ok (⟨3, x.1, 0⟩, x.2 + 1)
    else if sgn c then .ok (⟨4, [c], 0⟩, 1)
    else .error 1

def nameOk (s : List UInt8) : Bool := s.all onn && (!s.isEmpty && beg (s.head?.getD 0))

/-- what is wrong with a token -/
def wrongT (t : Tok) : Int :=
  if t.k = 1 then (if t.n ≠ 0 then 1 else if 12 < t.s.length then 2 else if nameOk t.s then 0 else 1)
  else if t.k = 2 then (if t.s ≠ [] then 1 else if t.n < -999999999 ∨ 999999999 < t.n then 3 else 0)
  else if t.k = 3 then (if t.n ≠ 0 then 1 else if 40 < t.s.length then 2 else 0)
  else if t.k = 4 then (if t.n ≠ 0 ∨ t.s.length ≠ 1 ∨ sgn (t.s.head?.getD 0) = false then 1 else 0)
  else 7

/-- tokens one by one, m of them there already -/
def readF : Nat → List UInt8 → Nat → Except Int (List Tok)
  | 0, _, _ => .ok []
  | f + 1, l, m =>
    match l.drop (skipN false l) with
    | [] => .ok []
    | c :: r =>
      match tokL (c :: r) with
      | .error e => .error e
      | .ok (t, n) => if wrongT t ≠ 0 then .error (wrongT t) else if m = 300 then .error 2 else (readF f ((c :: r).drop n) (m + 1)).map (t :: ·)

def lexRead (l : List UInt8) : Except Int (List Tok) := if 2000 < l.length then .error 2 else readF (l.length + 1) l 0

def checkF : List Tok → Int
  | [] => 0
  | t :: r => if wrongT t ≠ 0 then wrongT t else checkF r
def lexCheck (l : List Tok) : Int := if 300 < l.length then 2 else checkF l

def quoteC (c : UInt8) : List UInt8 := if c.toNat = 34 ∨ c.toNat = 92 then [92, c] else if c.toNat = 10 then [92, 110] else [c]
def quoteL (s : List UInt8) : List UInt8 := 34 :: (s.flatMap quoteC ++ [34])
def writtenT (t : Tok) : List UInt8 := if t.k = 2 then Lib.itoa t.n else if t.k = 3 then quoteL t.s else t.s
def printF : List Tok → List UInt8
  | [] => []
  | [t] => writtenT t
  | t :: r => writtenT t ++ 32 :: printF r

end Go.Proofs.YtkkjchfhgjfclaaDoor
