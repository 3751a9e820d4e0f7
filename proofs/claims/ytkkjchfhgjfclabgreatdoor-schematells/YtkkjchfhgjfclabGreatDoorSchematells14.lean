import Derived.Test.YtkkjchfhgjfclabGreatDoorSchematells12
import Derived.Test.YtkkjchfhgjfclabGreatDoorSchematells13
import Derived.Test.YtkkjchfhgjfclabGreatDoorChecked
import Derived.Test.YtkkjchfhgjfclabGreatDoorSchematells07
import Derived.Lib.AppendStr
import Derived.Lib.UnsafeStr
import Derived.Test.YtkkjchfhgjfclabGreatDoorSchematells01
/- parse.Text: Skip, Piece. -/
namespace Go.Proofs.YtkkjchfhgjfclabGreatDoor
open Go.RowKit

/-- what is left behind a piece, if it comes next -/
def cutL (p l : List UInt8) : List UInt8 := if p.isPrefixOf l then l.drop p.length else l

theorem tSkip (w : World) (b : Nat) (l p : List UInt8) (h : Txt w b l) :
    Calls Tryz.prog 110 #[.pointer (some ⟨b, 0, none⟩), .string ⟨p.toArray⟩] w fun e w' => e = .returned (.bool (p.isPrefixOf l)) ∧ Txt w' b (cutL p l) ∧ Kept (· = b) w w' := by
  have c0 := h.c0
  have f0 := h.f 0
  go_enter Tryz.func110, Tryz.ntmps110
  go_wp2_with fail
  refine (Tryz.strings_CutPrefix _ _ _).mono ?_
  rintro e w1 ⟨rfl, rfl⟩
  rw [show Lib.trimPrefix (⟨l.toArray⟩ : ByteArray).data.toList (⟨p.toArray⟩ : ByteArray).data.toList = cutL p l from rfl, show Lib.hasPrefix (⟨l.toArray⟩ : ByteArray).data.toList (⟨p.toArray⟩ : ByteArray).data.toList = p.isPrefixOf l from rfl]
  go_wp2
  go_ret
  exact ⟨rfl, h.set _, (by repeat' (first | assumption | exact Kept.refl _ _ | refine Kept.drewN ?_ _ | refine Kept.drew ?_ | refine Kept.alloc ?_ _ | refine Kept.setB ?_ _ _))⟩

theorem tPiece (w : World) (b : Nat) (l p : List UInt8) (h : Txt w b l) (hp : p.isPrefixOf l = true) :
    Calls Tryz.prog 139 #[.pointer (some ⟨b, 0, none⟩), .string ⟨p.toArray⟩] w fun e w' => e = .returned (.tuple #[]) ∧ Txt w' b (l.drop p.length) ∧ Kept (· = b) w w' := by
  have HP := hide hp
  clear hp
  go_enter Tryz.func139, Tryz.ntmps139
  go_wp2_with fail
  refine (tSkip _ b l p h).mono ?_
  rintro e w1 ⟨rfl, h1, hK⟩
  rw [HP.out]
  go_wp2_with fail
  first | go_end0 | refine bodyPost_ret (results_none rfl _ _ _) rfl ?_
  refine ⟨rfl, ?_, hK⟩
  rw [cutL, if_pos HP.out] at h1
  exact h1

theorem tPiece_bad (w : World) (b : Nat) (l p : List UInt8) (h : Txt w b l) (hp : p.isPrefixOf l = false) :
    Calls Tryz.prog 139 #[.pointer (some ⟨b, 0, none⟩), .string ⟨p.toArray⟩] w fun e w' => e = fault 1 ∧ Kept (· = b) w w' := by
  have HP := hide hp
  clear hp
  go_enter Tryz.func139, Tryz.ntmps139
  go_wp2_with fail
  refine (tSkip _ b l p h).mono ?_
  rintro e w1 ⟨rfl, h1, hK⟩
  rw [HP.out]
  go_wp2_with fail
  exact ⟨rfl, rfl, hK⟩

end Go.Proofs.YtkkjchfhgjfclabGreatDoor

/- Bytes and strings: a row of bytes as a string. -/
namespace Go.Proofs.YtkkjchfhgjfclabGreatDoor
open Go.RowKit

theorem push_bytes (l : List UInt8) : ∀ acc : ByteArray, (l.map fun b => (b.toNat : Int)).foldl (fun r n => r.push (UInt8.ofNat n.toNat)) acc = ⟨acc.data ++ l.toArray⟩ := by
  induction l with
  | nil => intro acc; apply ByteArray.ext; simp
  | cons c r ih =>
    intro acc
    rw [List.map_cons, List.foldl_cons, ih]
    apply ByteArray.ext
    apply Array.ext'
    simp [ByteArray.push]

theorem own_string {w : World} {base n : Nat} {v : Value} {l : List UInt8} (h : w.ownsRow base 5 1 v n (Lib.byteCells l)) :
    (convert 90 9 v).run Tryz.prog w = .ok (.string ⟨l.toArray⟩) w := by
  obtain ⟨hl, h2⟩ := h
  have hn : l.length = n := by rw [Lib.byteCells_length] at hl; omega
  rcases h2 with ⟨rfl, rfl⟩ | ⟨g, cap, cur, rfl, hg, hb, hc1, hc2, hc3, htk⟩
  · rw [run_convert_bytes_string w 90 9 5 none 0 0 Tryz.underlying90 Tryz.underlying5 Tryz.underlying9]
    obtain rfl : l = [] := List.length_eq_zero_iff.1 hn
    rfl
  · rw [run_convert_bytes_string w 90 9 5 _ n cap Tryz.underlying90 Tryz.underlying5 Tryz.underlying9]
    have hcells : ∀ j u, (Lib.byteCells l)[j]? = some u → w.cell? ((⟨g, 0, none⟩ : Addr).add j) = some u :=
      World.ownsRow.cells (v := .slice (some ⟨g, 0, none⟩) n cap) ⟨hl, .inr ⟨g, cap, cur, rfl, hg, hb, hc1, hc2, hc3, htk⟩⟩ (g := g) rfl
    have hld := run_loadCells_list (P := Tryz.prog) w ⟨g, 0, none⟩ (Lib.byteCells l) hcells
    have e1 : Lib.byteCells l = (l.map fun b => (b.toNat : Int)).map (Value.int .u8) := by simp [Lib.byteCells]
    rw [Lib.byteCells_length, hn, e1] at hld
    rw [run_bytesToString w _ n cap _ hld, push_bytes]
    congr 2
    apply ByteArray.ext
    simp

theorem info5 : (Tryz.prog.info? 5).map (fun i => (i.zero, i.size, i.bytes)) = some (some (.int .u8 0), 1, 1) := by kernel_rfl

theorem one_string (X : World) (g : Nat) (c : UInt8) (h : X.cell? ⟨g, 0, none⟩ = some (.int .u8 c.toNat)) :
    (convert 90 9 (.slice (some ⟨g, 0, none⟩) 1 1)).run Tryz.prog X = .ok (.string ⟨#[c]⟩) X := by
  rw [run_convert_bytes_string X 90 9 5 _ 1 1 Tryz.underlying90 Tryz.underlying5 Tryz.underlying9]
  have hld := run_loadCells_list (P := Tryz.prog) X ⟨g, 0, none⟩ [.int .u8 c.toNat] (by
    intro j v hj
    match j, hj with
    | 0, hj => simp at hj; subst hj; simpa [Addr.add] using h)
  rw [run_bytesToString X _ 1 1 [(c.toNat : Int)] hld]
  have e := push_bytes [c] ByteArray.empty
  rw [show [(c.toNat : Int)] = [c].map (fun b => (b.toNat : Int)) from rfl, e]
  rfl

theorem same_freeze {a w : World} {p : Addr} {n : Nat} (h : Same a w) (hp : a.heap.size ≤ p.block) : Same a (w.freeze p n) := by
  unfold World.freeze
  split
  · exact h
  · refine ⟨h.os, h.tape, h.output, by simpa using h.size, fun k hk hx => ?_⟩
    rw [← h.block k hk hx]
    simp only [Array.getElem?_modify]
    rw [if_neg (by omega)]

end Go.Proofs.YtkkjchfhgjfclabGreatDoor

/- parse.Text: Quoted. -/
namespace Go.Proofs.YtkkjchfhgjfclabGreatDoor
open Go.RowKit

/-- what a text tells, behind its first sign, and what is left behind it -/
def quotF (alone : UInt8 → Bool) (told : List UInt8 → Option (UInt8 × List UInt8)) : Nat → List UInt8 → Option (List UInt8 × List UInt8)
  | 0, _ => none
  | _ + 1, [] => none
  | f + 1, c :: r =>
    if c.toNat = 34 then some ([], r)
    else if c.toNat = 92 then (match told r with | none => none | some y => (quotF alone told f y.2).map fun x => (y.1 :: x.1, x.2))
    else if alone c then (quotF alone told f r).map fun x => (c :: x.1, x.2)
    else none

def quotL (alone : UInt8 → Bool) (told : List UInt8 → Option (UInt8 × List UInt8)) (l : List UInt8) : Option (List UInt8 × List UInt8) :=
  if [34].isPrefixOf l then quotF alone told l.length (l.drop 1) else none

/-- how far a text has been gone through: T is told, r is left, g rounds at most are to come -/
def qRel (alone : UInt8 → Bool) (told : List UInt8 → Option (UInt8 × List UInt8)) (l : List UInt8) (g : Nat) (r T : List UInt8) : Prop :=
  quotL alone told l = (quotF alone told g r).map fun x => (T ++ x.1, x.2)

theorem qRel.start {alone : UInt8 → Bool} {told : List UInt8 → Option (UInt8 × List UInt8)} {l : List UInt8} (h : [34].isPrefixOf l = true) : qRel alone told l l.length (l.drop 1) [] := by
  unfold qRel quotL
  rw [if_pos h]
  cases quotF alone told l.length (l.drop 1) <;> simp
theorem qRel.ended {alone : UInt8 → Bool} {told : List UInt8 → Option (UInt8 × List UInt8)} {l : List UInt8} {g : Nat} {T : List UInt8} (h : qRel alone told l (g + 1) [] T) : quotL alone told l = none := by
  rw [h, quotF]; rfl
theorem qRel.close {alone : UInt8 → Bool} {told : List UInt8 → Option (UInt8 × List UInt8)} {l : List UInt8} {g : Nat} {c : UInt8} {r T : List UInt8} (h : qRel alone told l (g + 1) (c :: r) T) (hc : c.toNat = 34) : quotL alone told l = some (T, r) := by
  rw [h, quotF, if_pos hc]; simp
theorem qRel.esc_bad {alone : UInt8 → Bool} {told : List UInt8 → Option (UInt8 × List UInt8)} {l : List UInt8} {g : Nat} {c : UInt8} {r T : List UInt8} (h : qRel alone told l (g + 1) (c :: r) T) (hc : c.toNat = 92) (ht : told r = none) : quotL alone told l = none := by
  rw [h, quotF, if_neg (by omega), if_pos hc, ht]; rfl
theorem qRel.esc {alone : UInt8 → Bool} {told : List UInt8 → Option (UInt8 × List UInt8)} {l : List UInt8} {g : Nat} {c d : UInt8} {r r' T : List UInt8} (h : qRel alone told l (g + 1) (c :: r) T) (hc : c.toNat = 92) (ht : told r = some (d, r')) : qRel alone told l g r' (T ++ [d]) := by
  unfold qRel
  rw [h, quotF, if_neg (by omega), if_pos hc, ht]
  simp only []
  cases quotF alone told g r' <;> simp
theorem qRel.bad {alone : UInt8 → Bool} {told : List UInt8 → Option (UInt8 × List UInt8)} {l : List UInt8} {g : Nat} {c : UInt8} {r T : List UInt8} (h : qRel alone told l (g + 1) (c :: r) T) (h1 : c.toNat ≠ 34) (h2 : c.toNat ≠ 92) (ha : alone c = false) : quotL alone told l = none := by
  rw [h, quotF, if_neg h1, if_neg h2, if_neg (by rw [ha]; decide)]; rfl
theorem qRel.step {alone : UInt8 → Bool} {told : List UInt8 → Option (UInt8 × List UInt8)} {l : List UInt8} {g : Nat} {c : UInt8} {r T : List UInt8} (h : qRel alone told l (g + 1) (c :: r) T) (h1 : c.toNat ≠ 34) (h2 : c.toNat ≠ 92) (ha : alone c = true) : qRel alone told l g r (T ++ [c]) := by
  unfold qRel
  rw [h, quotF, if_neg h1, if_neg h2, if_pos ha]
  cases quotF alone told g r <;> simp

set_option maxHeartbeats 3200000 in
theorem tQuoted (fa ft : FuncId) (alone : UInt8 → Bool) (told : List UInt8 → Option (UInt8 × List UInt8)) (x fv : Value) (hfv : fv = .func (.func ft) #[x] #[] ∨ fv = .func (.func ft) #[] #[x])
    (hca : ∀ (args : Array Value) (w : World), (callFunc fa args).run Tryz.prog w = .ok (.enter fa args) w) (hct : ∀ (args : Array Value) (w : World), (callFunc ft args).run Tryz.prog w = .ok (.enter ft args) w)
    (ha : Hid (∀ (c : UInt8) (w : World), Calls Tryz.prog fa #[.int .u8 c.toNat] w fun e w' => e = .returned (.bool (alone c)) ∧ w' = w))
    (hlen : Hid (∀ r d r', told r = some (d, r') → r'.length ≤ r.length))
    (w : World) (b : Nat) (l : List UInt8) (h : Txt w b l) (hl : l.length ≤ 1000000000000)
    (ht : Hid (∀ wr r, Kept (· = b) w wr → Txt wr b r → Calls Tryz.prog ft #[x] wr fun e w' =>
      (∃ d r', told r = some (d, r') ∧ e = .returned (.int .u8 d.toNat) ∧ Txt w' b r' ∧ Kept (· = b) wr w') ∨ (told r = none ∧ e = fault 1 ∧ Kept (· = b) wr w'))) :
    Calls Tryz.prog 119 #[.pointer (some ⟨b, 0, none⟩), .func (.func fa) #[] #[], fv] w fun e w' =>
      (∃ t r, quotL alone told l = some (t, r) ∧ e = .returned (.string ⟨t.toArray⟩) ∧ Txt w' b r ∧ Kept (· = b) w w') ∨ (quotL alone told l = none ∧ e = fault 1 ∧ Kept (· = b) w w') := by
  obtain ⟨i0, hi, hz0, hz1, hz2⟩ := info_parts info5
  have hb := h.lt
  cases hp : [34].isPrefixOf l with
  | false =>
    have HQ := hide (show quotL alone told l = none by unfold quotL; rw [hp]; rfl)
    have HP := hide (tPiece_bad w b l [34] h hp)
    clear hp
    rcases hfv with rfl | rfl
    all_goals
      go_enter Tryz.func119, Tryz.ntmps119
      go_wp2_with fail
      refine HP.out.mono ?_
      rintro e w1 ⟨rfl, hK⟩
      go_wp2_with fail
      exact ⟨rfl, .inr ⟨HQ.out, rfl, hK⟩⟩
  | true =>
    have HP := hide (tPiece w b l [34] h hp)
    have HS := hide (qRel.start (alone := alone) (told := told) hp)
    have hd : (l.drop 1).length + 1 ≤ l.length := by cases l with | nil => simp at hp | cons c r => simp
    have hlen0 : (l.drop 1).length ≤ 1000000000000 := by omega
    clear hp
    rcases hfv with rfl | rfl
    all_goals
      go_enter Tryz.func119, Tryz.ntmps119
      go_wp2_with fail
      refine HP.out.mono ?_
      rintro e w1 ⟨rfl, h1, hK1⟩
      go_wp2_with fail
      go_loopg [7] l.length (fun g tv wr => ∃ (r T : List UInt8), r.length + 1 ≤ g ∧ T.length + g ≤ l.length ∧ Txt wr b r ∧ Kept (· = b) w wr ∧ Hid (qRel alone told l g r T) ∧ wr.ownsRow w.heap.size 5 1 tv T.length (Lib.byteCells T))
      case atStart => exact ⟨l.drop 1, [], hd, by simp, h1, hK1, HS, World.ownsRow_nil _ _ _ _⟩
      case round =>
        obtain ⟨r, T, hrg, hT, hR, hK, HR, hown⟩ := hrel
        clear hK1 h1 HP HS hd hlen0
        obtain ⟨g1, hg1⟩ : ∃ g1, gk = g1 + 1 := ⟨gk - 1, by omega⟩
        have HR1 : Hid (qRel alone told l (g1 + 1) r T) := by rw [← hg1]; exact HR
        have hgle : gk ≤ g1 + 1 := by omega
        have hgge : g1 + 1 ≤ gk := by omega
        clear HR hg1
        cases r with
        | nil =>
          have HN := hide (tNext_end wr b hR)
          go_wp2_with fail
          refine HN.out.mono ?_
          rintro e w2 ⟨rfl, rfl⟩
          go_wp2_with fail
          exact ⟨rfl, .inr ⟨HR1.out.ended, rfl, hK⟩⟩
        | cons c r =>
          have hrl : r.length + 1 ≤ g1 := by simp at hrg; omega
          have HN := hide (tNext wr b c r hR)
          go_wp2_with fail
          refine HN.out.mono ?_
          rintro e w2 ⟨rfl, hR2, hK2⟩
          have hown2 := own_kept hown hK2 (fun g hg e => by omega)
          have hK3 : Kept (· = b) w w2 := hK.trans hK2 (fun _ _ h => h)
          clear hown hK2 hR hK HN hrg
          by_cases h34 : c.toNat = 34
          · have t1 : ((c.toNat : Int) == 34) = true := by simp; omega
            have hconv := own_string hown2
            have HC := hide h34
            clear h34
            go_wp2_with fail
            go_ret
            exact .inl ⟨T, r, HR1.out.close HC.out, rfl, hR2, hK3⟩
          · have t1 : ((c.toNat : Int) == 34) = false := by simp; omega
            by_cases h92 : c.toNat = 92
            · have t2 : ((c.toNat : Int) == 92) = true := by simp; omega
              have HC := hide h92
              clear h34 h92
              have HTo := hide (ht.out w2 r hK3 hR2)
              go_wp2_with fail
              refine HTo.out.mono ?_
              rintro e w3 (⟨d, r', htd, rfl, hR4, hK4⟩ | ⟨htd, rfl, hK4⟩)
              · have HD := hide htd
                have hle := hlen.out _ _ _ htd
                clear htd
                have hown4 := own_kept hown2 hK4 (fun g hg e => by omega)
                have hK5 : Kept (· = b) w w3 := hK3.trans hK4 (fun _ _ h => h)
                clear hown2 hK4 hR2 hK3 HTo
                go_wp2_with (at_builtin; refine wpList_append_own _ rfl _ _ 90 rfl w.heap.size 5 i0 (.int .u8 0) 1 1 Tryz.underlying90 hi hz0 hz1 hz2 rfl (by decide) _ _ _ rfl (hown4.alloc _) ⟨w3.heap.size, 0, none⟩ 1 1 [.int .u8 d.toNat] rfl rfl ?p1 ?p2 ?p3 ?p4 ?p5 ?_)
                case p1 =>
                  intro jj u hjj
                  match jj, hjj with
                  | 0, hjj => simp at hjj; subst hjj; simp [Addr.add]
                case p2 => intro u hu; simp at hu; subst hu; rfl
                case p3 => unfold maxLen; omega
                case p4 => omega
                case p5 => have := hK5.size; simp; omega
                intro v5 w5 hown5 hgr5 _
                have hT5 : w5.ownsRow w.heap.size 5 1 v5 (T ++ [d]).length (Lib.byteCells (T ++ [d])) := by
                  have e1 : Lib.byteCells (T ++ [d]) = Lib.byteCells T ++ [.int .u8 d.toNat] := by simp [Lib.byteCells]
                  rw [e1, List.length_append]; exact hown5
                have hrow : ∀ k, Value.ownBlock _ = some k → w.heap.size ≤ k := own_row hown4
                have hK8 : Kept (· = b) w w5 := (hK5.alloc _).grown hgr5 (fun k hk hlt => by have := hrow k hk; omega)
                have hR5 : Txt w5 b r' := hR4.keep (((Kept.refl (fun k => some k = Value.ownBlock _) w3).alloc _).grown hgr5 (fun k hk _ => hk.symm)) (fun e => by have := hrow b e.symm; omega)
                clear hown5 hgr5 hrow hown4 hR4 hK5
                go_wp2_with fail
                go_roundg g1
                case measure => omega
                case rel => exact ⟨r', T ++ [d], by omega, by rw [List.length_append]; simp; omega, hR5, hK8, HR1.out.esc HC.out HD.out, hT5⟩
              · have HD := hide htd
                clear htd
                go_wp2_with fail
                exact ⟨rfl, .inr ⟨HR1.out.esc_bad HC.out HD.out, rfl, hK3.trans hK4 (fun _ _ h => h)⟩⟩
            · have t2 : ((c.toNat : Int) == 92) = false := by simp; omega
              have H1 := hide h34
              have H2 := hide h92
              clear h34 h92
              go_wp2_with fail
              refine (ha.out c _).mono ?_
              rintro e w3 ⟨rfl, rfl⟩
              cases hal : alone c with
              | true =>
                have HA := hide hal
                clear hal
                go_wp2_with (at_builtin; refine wpList_append_own _ rfl _ _ 90 rfl w.heap.size 5 i0 (.int .u8 0) 1 1 Tryz.underlying90 hi hz0 hz1 hz2 rfl (by decide) _ _ _ rfl (hown2.alloc _) ⟨w3.heap.size, 0, none⟩ 1 1 [.int .u8 c.toNat] rfl rfl ?q1 ?q2 ?q3 ?q4 ?q5 ?_)
                case q1 =>
                  intro jj u hjj
                  match jj, hjj with
                  | 0, hjj => simp at hjj; subst hjj; simp [Addr.add]
                case q2 => intro u hu; simp at hu; subst hu; rfl
                case q3 => unfold maxLen; omega
                case q4 => omega
                case q5 => have := hK3.size; simp; omega
                intro v5 w5 hown5 hgr5 _
                have hT5 : w5.ownsRow w.heap.size 5 1 v5 (T ++ [c]).length (Lib.byteCells (T ++ [c])) := by
                  have e1 : Lib.byteCells (T ++ [c]) = Lib.byteCells T ++ [.int .u8 c.toNat] := by simp [Lib.byteCells]
                  rw [e1, List.length_append]; exact hown5
                have hrow : ∀ k, Value.ownBlock _ = some k → w.heap.size ≤ k := own_row hown2
                have hK8 : Kept (· = b) w w5 := (hK3.alloc _).grown hgr5 (fun k hk hlt => by have := hrow k hk; omega)
                have hR5 : Txt w5 b r := hR2.keep (((Kept.refl (fun k => some k = Value.ownBlock _) w3).alloc _).grown hgr5 (fun k hk _ => hk.symm)) (fun e => by have := hrow b e.symm; omega)
                clear hown5 hgr5 hrow hown2 hR2 hK3
                go_wp2_with fail
                go_roundg g1
                case measure => omega
                case rel => exact ⟨r, T ++ [c], by omega, by rw [List.length_append]; simp; omega, hR5, hK8, HR1.out.step H1.out H2.out HA.out, hT5⟩
              | false =>
                have HA := hide hal
                clear hal
                go_wp2_with fail
                exact ⟨rfl, .inr ⟨HR1.out.bad H1.out H2.out HA.out, rfl, hK3⟩⟩

end Go.Proofs.YtkkjchfhgjfclabGreatDoor

/- parse.Text: Pass. -/
namespace Go.Proofs.YtkkjchfhgjfclabGreatDoor
open Go.RowKit

theorem drop_takeWhile (p : UInt8 → Bool) (l : List UInt8) : l.drop (l.takeWhile p).length = l.dropWhile p := by
  induction l with
  | nil => rfl
  | cons c r ih =>
    by_cases h : p c = true
    · rw [List.takeWhile_cons, if_pos h, List.dropWhile_cons, if_pos h]; simpa using ih
    · rw [List.takeWhile_cons, if_neg h, List.dropWhile_cons, if_neg h]; rfl

theorem pass_text {s : ByteArray} {l : List UInt8} (hs : s = ⟨l.toArray⟩) (p : UInt8 → Bool) (k : Nat) (hk : run p s 0 = k) : s.extract 0 k = ⟨(l.takeWhile p).toArray⟩ := by
  have e := extract_run p s 0
  rw [Nat.zero_add, hk] at e
  rw [e, hs]; rfl
theorem pass_rest {s : ByteArray} {l : List UInt8} (hs : s = ⟨l.toArray⟩) (p : UInt8 → Bool) (k n : Nat) (hn : n = s.size) (hk : run p s 0 = k) : s.extract k n = ⟨(l.dropWhile p).toArray⟩ := by
  subst hn hs
  rw [bytes_extract, bytes_size, ← drop_takeWhile p l]
  have e : (l.takeWhile p).length = k := hk
  rw [e]
  congr 2
  exact List.take_of_length_le (by simp)

set_option maxHeartbeats 800000 in
theorem tPass (f : FuncId) (p : UInt8 → Bool) (hcf : ∀ (args : Array Value) (w : World), (callFunc f args).run Tryz.prog w = .ok (.enter f args) w) (hf : Hid (∀ (c : UInt8) (w : World), Calls Tryz.prog f #[.int .u8 c.toNat] w fun e w' => e = .returned (.bool (p c)) ∧ w' = w))
    (w : World) (b : Nat) (l : List UInt8) (h : Txt w b l) (hl : l.length ≤ 1000000000000) :
    Calls Tryz.prog 108 #[.pointer (some ⟨b, 0, none⟩), .func (.func f) #[] #[]] w fun e w' =>
      e = .returned (.string ⟨(l.takeWhile p).toArray⟩) ∧ Txt w' b (l.dropWhile p) ∧ Kept (· = b) w w' := by
  obtain ⟨s, hs⟩ : ∃ s : ByteArray, s = ⟨l.toArray⟩ := ⟨_, rfl⟩
  have c0 := h.c0
  have f0 := h.f 0
  rw [← hs] at c0
  have hsz : s.size ≤ 1000000000000 := by rw [hs, bytes_size]; exact hl
  have HS := hide hs
  clear hs hl
  go_enter Tryz.func108, Tryz.ntmps108
  go_wp2_with fail
  go_loopg [5] s.size (fun g nv wr => ∃ k : Nat, k + g = s.size ∧ nv = .int .i64 k ∧ wr = w ∧ Hid (run p s 0 = k + run p s k))
  case atStart => exact ⟨0, by omega, rfl, rfl, by simp [Hid]⟩
  case round =>
    obtain ⟨k, hk, rfl, hw, HR⟩ := hrel
    subst hw
    by_cases hlt : k < s.size
    · cases hp : p s[k] with
      | true =>
        have HP : Hid (p s[k] = true) := hp
        clear hp
        go_wp2_with fail
        refine (hf.out s[k] _).mono ?_
        rintro e w1 ⟨rfl, rfl⟩
        rw [HP.out]
        go_wp2
        go_roundg (gk - 1)
        case measure => omega
        case rel => exact ⟨k + 1, by omega, by go_num, rfl, by rw [HR.out, run_step hlt HP.out]; exact hide (by omega)⟩
      | false =>
        have HP : Hid (p s[k] = false) := hp
        clear hp
        go_wp2_with fail
        refine (hf.out s[k] _).mono ?_
        rintro e w1 ⟨rfl, rfl⟩
        rw [HP.out]
        go_wp2
        go_ret
        have hk2 : run p s 0 = k := by rw [HR.out, run_stop hlt HP.out]; rfl
        refine ⟨ret_str (pass_text HS.out p k hk2), ?_, (by repeat' (first | assumption | exact Kept.refl _ _ | refine Kept.drewN ?_ _ | refine Kept.drew ?_ | refine Kept.alloc ?_ _ | refine Kept.setB ?_ _ _))⟩
        rw [pass_rest HS.out p k _ rfl hk2]
        exact h.set _
    · go_wp2_with fail
      go_ret
      have hk2 : run p s 0 = k := by rw [HR.out, run_end (by omega)]; rfl
      refine ⟨ret_str (pass_text HS.out p k hk2), ?_, (by repeat' (first | assumption | exact Kept.refl _ _ | refine Kept.drewN ?_ _ | refine Kept.drew ?_ | refine Kept.alloc ?_ _ | refine Kept.setB ?_ _ _))⟩
      rw [pass_rest HS.out p k _ rfl hk2]
      exact h.set _

end Go.Proofs.YtkkjchfhgjfclabGreatDoor
