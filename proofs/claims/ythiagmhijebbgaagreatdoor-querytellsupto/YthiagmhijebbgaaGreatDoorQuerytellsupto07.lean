/- Walks of the reader: words. -/
import Derived.Test.YthiagmhijebbgaaGreatDoorQuerytellsupto06
import Derived.Lib.AppendStr
import Derived.Lib.UnsafeStr
namespace Go.Proofs.YthiagmhijebbgaaGreatDoor
open Go.RowKit

theorem push_bytes (l : List UInt8) : ∀ acc : ByteArray, (l.map fun b => (b.toNat : Int)).foldl (fun r n => r.push (UInt8.ofNat n.toNat)) acc = ⟨acc.data ++ l.toArray⟩ := by
  induction l with
  | nil => intro acc; apply ByteArray.ext; simp
  | cons c r ih =>
    intro acc
    rw [List.map_cons, List.foldl_cons, ih]
    apply ByteArray.ext
    apply Array.ext'
    simp [ByteArray.push]

theorem own_string {w : World} {base n : Nat} {v : Value} {l : List UInt8} (h : w.ownsRow base 5 1 v n (Lib.byteCells l)) :
    (convert 91 9 v).run Tryz.prog w = .ok (.string ⟨l.toArray⟩) w := by
  obtain ⟨hl, h2⟩ := h
  have hn : l.length = n := by rw [Lib.byteCells_length] at hl; omega
  rcases h2 with ⟨rfl, rfl⟩ | ⟨g, cap, cur, rfl, hg, hb, hc1, hc2, hc3, htk⟩
  · rw [run_convert_bytes_string w 91 9 5 none 0 0 Tryz.underlying91 Tryz.underlying5 Tryz.underlying9]
    obtain rfl : l = [] := List.length_eq_zero_iff.1 hn
    rfl
  · rw [run_convert_bytes_string w 91 9 5 _ n cap Tryz.underlying91 Tryz.underlying5 Tryz.underlying9]
    have hcells : ∀ j u, (Lib.byteCells l)[j]? = some u → w.cell? ((⟨g, 0, none⟩ : Addr).add j) = some u :=
      World.ownsRow.cells (v := .slice (some ⟨g, 0, none⟩) n cap) ⟨hl, .inr ⟨g, cap, cur, rfl, hg, hb, hc1, hc2, hc3, htk⟩⟩ (g := g) rfl
    have hld := run_loadCells_list (P := Tryz.prog) w ⟨g, 0, none⟩ (Lib.byteCells l) hcells
    have e1 : Lib.byteCells l = (l.map fun b => (b.toNat : Int)).map (Value.int .u8) := by simp [Lib.byteCells]
    rw [Lib.byteCells_length, hn, e1] at hld
    rw [run_bytesToString w _ n cap _ hld, push_bytes]
    congr 2
    apply ByteArray.ext
    simp

theorem words_plain (l : List UInt8) : wordsL false l = (wordsL false (l.drop (l.takeWhile plain).length)).map (fun x => (l.takeWhile plain ++ x.1, x.2 + (l.takeWhile plain).length)) := by
  induction l with
  | nil => simp [wordsL]
  | cons c r ih =>
    by_cases h : plain c = true
    · have h' := h
      simp at h'
      rw [List.takeWhile_cons, if_pos h, wordsL, if_neg (by omega), if_neg (by omega), if_neg (by omega), ih]
      simp only [List.length_cons, List.drop_succ_cons, Option.map_map]
      congr 1
    · rw [List.takeWhile_cons, if_neg h]
      simp


/-- how far a text has been gone through: T is told, place j is next -/
def wRel (s : ByteArray) (k0 j : Nat) (T : List UInt8) : Prop :=
  k0 ≤ j ∧ wordsL false (s.data.toList.drop k0) = (wordsL false (s.data.toList.drop j)).map (fun x => (T ++ x.1, x.2 + (j - k0)))

theorem wRel.start (s : ByteArray) (k0 : Nat) : wRel s k0 k0 [] := ⟨Nat.le_refl _, by cases wordsL false (s.data.toList.drop k0) <;> simp⟩
theorem wRel.pass {s : ByteArray} {k0 j : Nat} {T : List UInt8} (h : wRel s k0 j T) : wRel s k0 (j + run plain s j) (T ++ (s.data.toList.drop j).takeWhile plain) := by
  obtain ⟨h1, h2⟩ := h
  refine ⟨by omega, ?_⟩
  rw [h2, words_plain (s.data.toList.drop j), List.drop_drop, Option.map_map]
  unfold run
  cases wordsL false (s.data.toList.drop (j + ((s.data.toList.drop j).takeWhile plain).length)) with
  | none => rfl
  | some x => simp only [Option.map_some, Function.comp]; congr 1; simp; omega
theorem wRel.ended {s : ByteArray} {k0 j : Nat} {T : List UInt8} (h : wRel s k0 j T) (hj : s.size ≤ j) : wordsL false (s.data.toList.drop k0) = none := by
  rw [h.2, drop_end hj]; rfl
theorem wRel.feed {s : ByteArray} {k0 j : Nat} {T : List UInt8} (h : wRel s k0 j T) (hj : j < s.size) (hc : s[j].toNat = 10) : wordsL false (s.data.toList.drop k0) = none := by
  rw [h.2, drop_at hj, wordsL, if_neg (by omega), if_pos hc]; rfl
theorem wRel.close {s : ByteArray} {k0 j : Nat} {T : List UInt8} (h : wRel s k0 j T) (hj : j < s.size) (hc : s[j].toNat = 34) : wordsL false (s.data.toList.drop k0) = some (T, j + 1 - k0) := by
  have := h.1
  rw [h.2, drop_at hj, wordsL, if_pos hc]
  simp; omega
theorem wRel.esc_bad {s : ByteArray} {k0 j : Nat} {T : List UInt8} (h : wRel s k0 j T) (hj : j < s.size) (hc : s[j].toNat = 92)
    (hd : ∀ hk : j + 1 < s.size, s[j + 1].toNat ≠ 34 ∧ s[j + 1].toNat ≠ 92 ∧ s[j + 1].toNat ≠ 110) : wordsL false (s.data.toList.drop k0) = none := by
  rw [h.2, drop_at hj, wordsL, if_neg (by omega), if_neg (by omega), if_pos hc]
  by_cases hk : j + 1 < s.size
  · have := hd hk
    rw [drop_at hk, wordsL, if_neg (by omega), if_neg (by omega)]; rfl
  · rw [drop_end (by omega)]; rfl
theorem wRel.esc {s : ByteArray} {k0 j : Nat} {T : List UInt8} (h : wRel s k0 j T) (hj : j < s.size) (hc : s[j].toNat = 92) (hk : j + 1 < s.size) (d : UInt8)
    (hd : s[j + 1].toNat = 34 ∧ d.toNat = 34 ∨ s[j + 1].toNat = 92 ∧ d.toNat = 92 ∨ s[j + 1].toNat = 110 ∧ d.toNat = 10) : wRel s k0 (j + 1 + 1) (T ++ [d]) := by
  obtain ⟨h1, h2⟩ := h
  refine ⟨by omega, ?_⟩
  rw [h2, drop_at hj, wordsL, if_neg (by omega), if_neg (by omega), if_pos hc, drop_at hk, wordsL]
  have e : ∀ o : Option (List UInt8 × Nat), Option.map (fun x => (T ++ x.1, x.2 + (j - k0))) (Option.map (fun x => (x.1, x.2 + 1)) (Option.map (fun x => (d :: x.1, x.2 + 1)) o)) = Option.map (fun x => (T ++ [d] ++ x.1, x.2 + (j + 1 + 1 - k0))) o := by
    intro o
    cases o with
    | none => rfl
    | some x => simp; omega
  rcases hd with ⟨a, b⟩ | ⟨a, b⟩ | ⟨a, b⟩
  · have ed : s[j + 1] = d := UInt8.toNat.inj (by omega)
    rw [if_pos (by omega), ed]; exact e _
  · have ed : s[j + 1] = d := UInt8.toNat.inj (by omega)
    rw [if_pos (by omega), ed]; exact e _
  · have ed : (10 : UInt8) = d := UInt8.toNat.inj (by rw [b]; rfl)
    rw [if_neg (by omega), if_pos a, ed]; exact e _

theorem info5 : (Tryz.prog.info? 5).map (fun i => (i.zero, i.size, i.bytes)) = some (some (.int .u8 0), 1, 1) := by kernel_rfl

set_option maxHeartbeats 1600000 in
theorem words_any (w : World) (b k : Nat) (s : ByteArray) (v : Value) (h : Rdr w b s k v) (hk : k < s.size) (hs : s.size ≤ 2000) :
    Calls Tryz.prog 87 #[.pointer (some ⟨b, 0, none⟩)] w fun e w' =>
      (∃ x n, wordsL false (s.data.toList.drop (k + 1)) = some (x, n) ∧ e = .returned (.string ⟨x.toArray⟩) ∧ Rdr w' b s (k + 1 + n) v ∧ Kept (· = b) w w')
      ∨ (wordsL false (s.data.toList.drop (k + 1)) = none ∧ e = fault 1 ∧ Kept (· = b) w w') := by
  have c0 := h.c0
  have c1 := h.c1
  have f1 := h.f 1
  have hbs : b < w.heap.size := World.block_lt_of_cell? w _ c0
  obtain ⟨i0, hi, hz0, hz1, hz2⟩ := info_parts info5
  go_enter Tryz.func87, Tryz.ntmps87
  go_wp2_with fail
  go_loopg [3] (s.size + 1 - (k + 1)) (fun g tv wr => ∃ (j : Nat) (T : List UInt8), j + g = s.size + 1 ∧ j ≤ s.size ∧ T.length + g ≤ 2001 ∧ Rdr wr b s j v ∧ Kept (· = b) w wr ∧ Hid (wRel s (k + 1) j T) ∧ wr.ownsRow w.heap.size 5 1 tv T.length (Lib.byteCells T))
  case atStart => exact ⟨k + 1, [], by omega, by omega, by simp; omega, h.set (k + 1), (by repeat' (first | assumption | exact Kept.refl _ _ | refine Kept.drewN ?_ _ | refine Kept.drew ?_ | refine Kept.alloc ?_ _ | refine Kept.setB ?_ _ _)), wRel.start _ _, World.ownsRow_nil _ _ _ _⟩
  case round =>
    obtain ⟨j, T, hj, hjs, hT, hR, hK, hrel, hown⟩ := hrel
    clear c0 c1 f1
    go_wp2_with fail
    refine (pass_any 103 plain enters59 words1_any _ b j s v hR (by omega) hs).mono ?_
    rintro e w1 ⟨rfl, hR1, hK1⟩
    have hown1 := own_kept hown hK1 (fun g hg e => by omega)
    have hK2 : Kept (· = b) w w1 := hK.trans hK1 (fun _ _ h => h)
    have hrel1 := hide hrel.out.pass
    have hj1 := run_le plain s j hjs
    have hst := hide (@run_at plain s j)
    have hml : ((s.data.toList.drop j).takeWhile plain).length = run plain s j := rfl
    generalize hm : (s.data.toList.drop j).takeWhile plain = m at *
    have hjr : j ≤ j + run plain s j := Nat.le_add_right _ _
    have hTm : (T ++ m).length + (s.size + 1 - (j + run plain s j)) ≤ 2001 := by rw [List.length_append]; omega
    have hmlen : m.length ≤ 2000 := by omega
    generalize hj1' : j + run plain s j = j1 at *
    clear hj1' hm hml hrel hown hK1 hR hK
    have hsz : (⟨m.toArray⟩ : ByteArray).size = m.length := by simp [ByteArray.size]
    go_wp2_with (at_builtin; refine Lib.wpList_append_own_string _ rfl _ _ 91 9 rfl w.heap.size 5 i0 Tryz.underlying91 Tryz.underlying9 hi hz0 hz1 hz2 _ _ _ rfl hown1 _ rfl ?q1 ?q2 ?q3 ?_)
    case q1 => rw [hsz]; unfold maxLen; omega
    case q2 => rw [hsz]; omega
    case q3 => exact hK2.size
    intro v2 w2 hown2 hgr2 _
    have hT2 : w2.ownsRow w.heap.size 5 1 v2 (T ++ m).length (Lib.byteCells (T ++ m)) := by
      have e1 : Lib.byteCells (T ++ m) = Lib.byteCells T ++ Lib.strCells ⟨m.toArray⟩ := by simp [Lib.byteCells, Lib.strCells]
      rw [e1, List.length_append, ← hsz]; exact hown2
    have hrow : ∀ k, Value.ownBlock _ = some k → w.heap.size ≤ k := own_row hown1
    have hK3 : Kept (· = b) w w2 := hK2.grown hgr2 (fun k hk hlt => by have := hrow k hk; omega)
    have hR2 : Rdr w2 b s j1 v := hR1.keep ((Kept.refl (fun k => some k = Value.ownBlock _) w1).grown hgr2 (fun k hk _ => hk.symm)) (fun e => by have := hrow b e.symm; omega)
    clear hown2 hgr2 hrow hown1 hR1 hK2
    generalize T ++ m = T2 at *
    by_cases hlt : j1 < s.size
    · have hpl := hst.out hlt
      obtain ⟨c, hc⟩ : ∃ c : Int, (s[j1].toNat : Int) = c := ⟨_, rfl⟩
      have hcc : c = 34 ∨ c = 92 ∨ c = 10 := by simp [plain] at hpl; omega
      have hnx := next_any w2 b j1 s v hR2 hlt hs
      rw [hc] at hnx
      have HN := hide hnx
      have HC := hide hc
      clear hnx hc hpl hst
      rcases hcc with rfl | rfl | rfl
      all_goals
        go_wp2_with fail
        refine HN.out.mono ?_
        rintro e w3 ⟨rfl, hR3, hK4⟩
        have hT3 := own_kept hT2 hK4 (fun g hg e => by omega)
        have hK5 : Kept (· = b) w w3 := hK3.trans hK4 (fun _ _ h => h)
        clear hT2 hK4 hR2 hK3
      · have hconv := own_string hT3
        go_wp2
        go_ret
        exact Or.inl ⟨T2, j1 + 1 - (k + 1), hrel1.out.close hlt (by have := HC.out; omega), rfl, by have := hrel1.out.1; rw [show k + 1 + (j1 + 1 - (k + 1)) = j1 + 1 from by omega]; exact hR3, hK5⟩
      · by_cases hgood : ∃ hk2 : j1 + 1 < s.size, s[j1 + 1].toNat = 34 ∨ s[j1 + 1].toNat = 92 ∨ s[j1 + 1].toNat = 110
        · obtain ⟨hk2, hg⟩ := hgood
          obtain ⟨d, hd⟩ : ∃ d : UInt8, s[j1 + 1].toNat = 34 ∧ d.toNat = 34 ∨ s[j1 + 1].toNat = 92 ∧ d.toNat = 92 ∨ s[j1 + 1].toNat = 110 ∧ d.toNat = 10 := by
            rcases hg with a | a | a
            · exact ⟨34, .inl ⟨a, rfl⟩⟩
            · exact ⟨92, .inr (.inl ⟨a, rfl⟩)⟩
            · exact ⟨10, .inr (.inr ⟨a, rfl⟩)⟩
          have HE := hide (escaped_any w3 b (j1 + 1) s v hR3 hk2 hs _ rfl (d.toNat : Int) (by omega))
          have HW := hide (hrel1.out.esc hlt (by have := HC.out; omega) hk2 d hd)
          clear hg hd
          go_wp2_with fail
          refine HE.out.mono ?_
          rintro e w4 ⟨rfl, hR4, hK6⟩
          have hT4 := own_kept hT3 hK6 (fun g hg e => by omega)
          have hK7 : Kept (· = b) w w4 := hK5.trans hK6 (fun _ _ h => h)
          clear hT3 hK6 hR3 hK5
          go_wp2_with (at_builtin; refine wpList_append_own _ rfl _ _ 91 rfl w.heap.size 5 i0 (.int .u8 0) 1 1 Tryz.underlying91 hi hz0 hz1 hz2 rfl (by decide) _ _ _ rfl (hT4.alloc _) ⟨w4.heap.size, 0, none⟩ 1 1 [.int .u8 d.toNat] rfl rfl ?p1 ?p2 ?p3 ?p4 ?p5 ?_)
          case p1 =>
            intro jj u hjj
            match jj, hjj with
            | 0, hjj => simp at hjj; subst hjj; simp [Addr.add]
          case p2 => intro u hu; simp at hu; subst hu; rfl
          case p3 => unfold maxLen; omega
          case p4 => omega
          case p5 => have := hK7.size; simp; omega
          intro v5 w5 hown5 hgr5 _
          have hT5 : w5.ownsRow w.heap.size 5 1 v5 (T2 ++ [d]).length (Lib.byteCells (T2 ++ [d])) := by
            have e1 : Lib.byteCells (T2 ++ [d]) = Lib.byteCells T2 ++ [.int .u8 d.toNat] := by simp [Lib.byteCells]
            rw [e1, List.length_append]; exact hown5
          have hrow : ∀ k, Value.ownBlock _ = some k → w.heap.size ≤ k := own_row hT4
          have hK8 : Kept (· = b) w w5 := (hK7.alloc _).grown hgr5 (fun k hk hlt => by have := hrow k hk; omega)
          have hR5 : Rdr w5 b s (j1 + 1 + 1) v := hR4.keep (((Kept.refl (fun k => some k = Value.ownBlock _) w4).alloc _).grown hgr5 (fun k hk _ => hk.symm)) (fun e => by have := hrow b e.symm; omega)
          clear hown5 hgr5 hrow hT4 hR4 hK7
          go_wp2
          go_roundg (s.size + 1 - (j1 + 1 + 1))
          case measure => omega
          case rel => exact ⟨j1 + 1 + 1, T2 ++ [d], by omega, by omega, by rw [List.length_append]; simp; omega, hR5, hK8, HW.out, hT5⟩
        · have hbad : ∀ hk2 : j1 + 1 < s.size, s[j1 + 1].toNat ≠ 34 ∧ s[j1 + 1].toNat ≠ 92 ∧ s[j1 + 1].toNat ≠ 110 := by
            intro hk2
            refine ⟨fun a => hgood ⟨hk2, .inl a⟩, fun a => hgood ⟨hk2, .inr (.inl a)⟩, fun a => hgood ⟨hk2, .inr (.inr a)⟩⟩
          have HB := hide (escaped_bad w3 b (j1 + 1) s v hR3 hs hlt hbad)
          have HW := hide (hrel1.out.esc_bad hlt (by have := HC.out; omega) hbad)
          clear hbad hgood
          go_wp2_with fail
          refine HB.out.mono ?_
          rintro e w4 ⟨rfl, hK6⟩
          exact ⟨rfl, Or.inr ⟨HW.out, rfl, hK5.trans hK6 (fun _ _ h => h)⟩⟩
      · go_wp2
        exact ⟨rfl, Or.inr ⟨hrel1.out.feed hlt (by have := HC.out; omega), rfl, hK5⟩⟩
    · have HN := hide (next_end w2 b j1 s v hR2 (by omega))
      go_wp2_with fail
      refine HN.out.mono ?_
      rintro e w3 ⟨rfl, hK4⟩
      exact ⟨rfl, Or.inr ⟨hrel1.out.ended (by omega), rfl, hK3.trans hK4 (fun _ _ h => h)⟩⟩

end Go.Proofs.YthiagmhijebbgaaGreatDoor
