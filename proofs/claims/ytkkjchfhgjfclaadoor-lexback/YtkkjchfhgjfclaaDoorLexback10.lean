import Derived.Test.YtkkjchfhgjfclaaDoorLexback09
import Derived.Lib.ItoaLen
import Derived.Test.YtkkjchfhgjfclaaDoorLexback08
import Derived.Test.YtkkjchfhgjfclaaDoorLexback07
/- lex.written, lex.Print, whatever they are handed. -/
namespace Go.Proofs.YtkkjchfhgjfclaaDoor
open Go.RowKit

/-- strconv's table of powers lies as its text lays it -/
def Tab (w : World) : Prop := Lib.TabIs Tryd.prog w "internal/strconv.uint64pow10" .u64 Lib.pow10Tab

theorem tab_keep {w w' : World} (h : Tab w) (hk : Same w w') : Tab w' := by
  unfold Tab Lib.TabIs World.var? at *
  cases hg : Tryd.prog.globalNamed "internal/strconv.uint64pow10" with
  | none => simp [hg] at h
  | some g =>
    simp only [hg, Option.bind_some] at h ⊢
    have hlt : g < w.heap.size := by
      rcases Nat.lt_or_ge g w.heap.size with h' | h'
      · exact h'
      · rw [Array.getElem?_eq_none h'] at h; simp at h
    rw [hk.block g hlt (fun f => f)]
    exact h

theorem same_grow (w : World) (k : Nat) (os : Array Obj) : Same w (Sort.grow (w.drewN k) os) := by
  refine ⟨rfl, rfl, rfl, by simp [Sort.grow], fun i hi _ => ?_⟩
  show (w.heap ++ os)[i]? = _
  rw [Array.getElem?_append_left hi]

theorem bldr_same {T e : TypeId} {B b : Nat} {bs : List Value} {w w' : World} (h : Lib.IsBuilderF T e B b bs w) (hk : Same w w') : Lib.IsBuilderF T e B b bs w' := by
  have go : ∀ p, Lib.BuilderAtF T e B b p bs w → Lib.BuilderAtF T e B b p bs w' := by
    rintro p ⟨hB, v, hb, ⟨h1, h2⟩, hne⟩
    have hlt : b < w.heap.size := (Array.getElem?_eq_some_iff.1 hb).1
    refine ⟨hB, v, by rw [hk.block b hlt (fun f => f)]; exact hb, ⟨h1, ?_⟩, hne⟩
    rcases h2 with h2 | ⟨g, cap, cur, fz, hv, hg, hh, r⟩
    · exact Or.inl h2
    · have hg' : g < w.heap.size := (Array.getElem?_eq_some_iff.1 hh).1
      exact Or.inr ⟨g, cap, cur, fz, hv, hg, by rw [hk.block g hg' (fun f => f)]; exact hh, r⟩
  exact h.elim (fun x => .inl (go _ x)) (fun x => .inr (go _ x))

theorem written_any (w : World) (t : Tok) (ht : Tab w) (hs : t.s.length ≤ 2000) (hn : -999999999 ≤ t.n ∧ t.n ≤ 999999999) :
    Calls Tryd.prog 21 #[tokV t] w fun e w' => e = .returned (.string ⟨(writtenT t).toArray⟩) ∧ Same w w' := by
  by_cases h2 : t.k = 2
  · have e2 : (t.k == 2) = true := by simp [h2]
    have HF := hide (show writtenT t = Lib.itoa t.n by unfold writtenT; rw [if_pos h2])
    have HT := hide (fun o => tab_keep ht ((Kept.refl _ w).alloc o))
    clear h2
    go_enter Tryd.func21, Tryd.ntmps21
    go_wp2_with fail
    refine (Tryd.strconv_Itoa t.n (by omega) (by omega) _ (by exact HT.out _)).mono ?_
    rintro e w1 ⟨rfl, k, os, rfl⟩
    have hK := same_grow (w.alloc (.cells #[.int .i64 t.k, .string ⟨t.s.toArray⟩, .int .i64 t.n] 41)) k os
    generalize Sort.grow ((w.alloc (.cells #[.int .i64 t.k, .string ⟨t.s.toArray⟩, .int .i64 t.n] 41)).drewN k) os = w1 at *
    go_wp2_with fail
    go_ret
    exact ⟨ret_str (by rw [HF.out]), hK.unA⟩
  have e2 : (t.k == 2) = false := by simp [h2]
  by_cases h3 : t.k = 3
  · have e3 : (t.k == 3) = true := by simp [h3]
    have HF := hide (show writtenT t = quoteL t.s by unfold writtenT; rw [if_neg h2, if_pos h3])
    clear h2 h3
    have hsz : (⟨t.s.toArray⟩ : ByteArray).size ≤ 2000 := by show t.s.toArray.size ≤ 2000; simpa using hs
    have HQ := hide (fun w => quoted_any w ⟨t.s.toArray⟩ hsz)
    go_enter Tryd.func21, Tryd.ntmps21
    go_wp2_with fail
    refine (HQ.out _).mono ?_
    rintro e w1 ⟨rfl, hK⟩
    go_wp2_with fail
    go_ret
    exact ⟨ret_str (by rw [HF.out]), hK.unA⟩
  have e3 : (t.k == 3) = false := by simp [h3]
  have HF := hide (show writtenT t = t.s by unfold writtenT; rw [if_neg h2, if_neg h3])
  clear h2 h3
  go_enter Tryd.func21, Tryd.ntmps21
  go_wp2_with fail
  go_ret
  exact ⟨ret_str (by rw [HF.out]), (by repeat' (first | assumption | exact Kept.refl _ _ | refine Kept.drewN ?_ _ | refine Kept.drew ?_ | refine Kept.alloc ?_ _ | refine Kept.setB ?_ _ _))⟩

theorem quoteC_len (c : UInt8) : (quoteC c).length ≤ 2 := by unfold quoteC; split <;> (try split) <;> simp
theorem quote_len (s : List UInt8) : (quoteL s).length ≤ 2 * s.length + 2 := by
  have : (s.flatMap quoteC).length ≤ 2 * s.length := by
    induction s with
    | nil => simp
    | cons c r ih => have := quoteC_len c; rw [List.flatMap_cons, List.length_append, List.length_cons]; omega
  rw [quoteL, List.length_cons, List.length_append]; simp only [List.length_cons, List.length_nil]; omega

theorem right_tok (t : Tok) (h : wrongT t = 0) : t.s.length ≤ 40 ∧ -999999999 ≤ t.n ∧ t.n ≤ 999999999 ∧ (writtenT t).length ≤ 100 := by
  unfold wrongT at h
  unfold writtenT
  by_cases h1 : t.k = 1
  · rw [if_pos h1] at h
    split at h <;> (try split at h) <;> (try split at h) <;> (first | (exfalso; omega) | skip)
    rename_i a b c
    refine ⟨by omega, by omega, by omega, ?_⟩
    rw [if_neg (by omega), if_neg (by omega)]; omega
  · rw [if_neg h1] at h
    by_cases h2 : t.k = 2
    · rw [if_pos h2] at h ⊢
      split at h <;> (try split at h) <;> (first | (exfalso; omega) | skip)
      rename_i a b
      have := Lib.itoa_length_le t.n (by omega) (by omega)
      have ha : t.s = [] := by simpa using a
      exact ⟨by rw [ha]; simp, by omega, by omega, by omega⟩
    · rw [if_neg h2] at h ⊢
      by_cases h3 : t.k = 3
      · rw [if_pos h3] at h ⊢
        split at h <;> (try split at h) <;> (first | (exfalso; omega) | skip)
        rename_i a b
        have := quote_len t.s
        exact ⟨by omega, by omega, by omega, by omega⟩
      · rw [if_neg h3] at h ⊢
        by_cases h4 : t.k = 4
        · rw [if_pos h4] at h
          split at h
          · exfalso; omega
          · rename_i a
            have ha : t.n = 0 ∧ t.s.length = 1 := by
              constructor
              · exact Classical.byContradiction fun e => a (.inl e)
              · exact Classical.byContradiction fun e => a (.inr (.inl e))
            omega
        · rw [if_neg h4] at h; exfalso; omega

theorem printF_snoc (a : List Tok) (t : Tok) : printF (a ++ [t]) = if a = [] then writtenT t else printF a ++ 32 :: writtenT t := by
  induction a with
  | nil => simp [printF]
  | cons x r ih =>
    cases r with
    | nil => simp [printF]
    | cons y r' =>
      have := ih
      simp at this
      simp [printF, this]

theorem checkF_all (l : List Tok) (h : checkF l = 0) : ∀ i (hi : i < l.length), wrongT l[i] = 0 := by
  induction l with
  | nil => intro i hi; simp at hi
  | cons t r ih =>
    intro i hi
    rw [checkF] at h
    by_cases hw : wrongT t = 0
    · rw [if_neg (by simp [hw])] at h
      cases i with
      | zero => exact hw
      | succ i => exact ih h i (by simpa using hi)
    · rw [if_pos hw] at h; exact absurd h hw


theorem same_below {w wx w' : World} {B : Nat} (h : Same w wx) (hb : Below B wx w') (hB : w.heap.size ≤ B) : Same w w' :=
  ⟨hb.os.trans h.os, hb.tape.trans h.tape, hb.output.trans h.output, Nat.le_trans h.size hb.size, fun k hk f => (hb.block k (by omega)).trans (h.block k hk f)⟩

theorem take_ne {l : List Tok} {k : Nat} (h0 : 0 < k) (hl : k < l.length) : ¬ l.take k = [] := by
  intro e
  have h2 : (l.take k).length = 0 := by rw [e]; rfl
  rw [List.length_take] at h2
  omega

theorem strCells_eq (l : List UInt8) : Lib.strCells ⟨l.toArray⟩ = Lib.byteCells l := by simp [Lib.strCells, Lib.byteCells]

theorem print_bad (w : World) (v : Value) (l : List Tok) (h : TokSl w v l) (hck : lexCheck l ≠ 0) :
    Calls Tryd.prog 10 #[v] w fun e w' => e = .returned (.tuple #[.string ⟨#[]⟩, .int .i64 (lexCheck l)]) ∧ Same w w' := by
  obtain ⟨ao, cap, rfl, hl, hc⟩ := id h
  clear hc
  have HK := hide (check_any w _ l h)
  have hck' : (lexCheck l != 0) = true := by simp [hck]
  clear hck
  generalize lexCheck l = n at *
  go_enter Tryd.func10, Tryd.ntmps10
  go_wp2_with fail
  refine HK.out.mono ?_
  rintro e w1 ⟨rfl, hK1⟩
  go_wp2_with fail
  go_ret2
  exact ⟨rfl, hK1⟩

set_option maxHeartbeats 1600000 in
theorem print_ok (w : World) (v : Value) (l : List Tok) (h : TokSl w v l) (ht : Tab w) (hck : lexCheck l = 0) :
    Calls Tryd.prog 10 #[v] w fun e w' => e = .returned (.tuple #[.string ⟨(printF l).toArray⟩, .int .i64 0]) ∧ Same w w' := by
  obtain ⟨ao, cap, rfl, hl, hc⟩ := id h
  clear hc
  have hlen : l.length ≤ 300 := by
    unfold lexCheck at hck
    split at hck
    · exact absurd hck (by decide)
    · omega
  have hall : Hid (∀ i (hi : i < l.length), wrongT l[i] = 0) := by
    refine checkF_all l ?_
    unfold lexCheck at hck
    rw [if_neg (by omega)] at hck
    exact hck
  have HK := check_any w _ l h
  rw [hck] at HK
  have HK0 := hide HK
  clear hck HK
  go_enter Tryd.func10, Tryd.ntmps10
  go_wp2_with fail
  refine HK0.out.mono ?_
  rintro e w1 ⟨rfl, hK1⟩
  go_wp2_with fail
  go_loopg [15] l.length (fun g i wr => ∃ k : Nat, k + g = l.length ∧ i = .int .i64 k ∧ Same w wr ∧ w1.heap.size < wr.heap.size ∧ (printF (l.take k)).length ≤ 101 * k ∧ Lib.IsBuilderF 45 5 w1.heap.size w1.heap.size (Lib.byteCells (printF (l.take k))) wr)
  case atStart => exact ⟨0, by omega, rfl, hK1.alloc _, by simp, by simp [printF], Lib.IsBuilderF.of (Lib.fresh_isBuilder _ _ w1)⟩
  case round =>
    obtain ⟨k, hk, rfl, hK, hz, hpl, hB⟩ := hrel
    by_cases hlt : k < l.length
    · obtain ⟨b1, o1, e1, p0, p1, p2⟩ := (h.same hK).at k hlt
      subst e1
      obtain ⟨r1, r2, r3, r4⟩ := right_tok _ (hall.out k hlt)
      have hstep : printF (l.take (k + 1)) = if l.take k = [] then writtenT l[k] else printF (l.take k) ++ 32 :: writtenT l[k] := by
        rw [List.take_succ_eq_append_getElem hlt, printF_snoc]
      obtain ⟨t, htk⟩ : ∃ t, l[k] = t := ⟨_, rfl⟩
      rw [htk] at p0 p1 p2 r1 r2 r3 r4 hstep
      clear htk
      by_cases hk0 : k = 0
      · have HS : Hid (printF (l.take (k + 1)) = printF (l.take k) ++ writtenT t) := by
          show _ = _
          rw [hstep, if_pos (by rw [hk0]; rfl), hk0]; rfl
        have hk1 : k ≤ 0 := by omega
        clear hstep hk0
        generalize printF (l.take k) = P at *
        have HKA := hide (hK.alloc (.cells #[.int .i64 t.k, .string ⟨t.s.toArray⟩, .int .i64 t.n] 41))
        have HB2 := hide (Lib.IsBuilderF.alloc hB (.cells #[.int .i64 t.k, .string ⟨t.s.toArray⟩, .int .i64 t.n] 41))
        have hz2 : w1.heap.size < (wr.alloc (.cells #[.int .i64 t.k, .string ⟨t.s.toArray⟩, .int .i64 t.n] 41)).heap.size := by simp; omega
        go_wp2_with fail
        rw [show (Value.agg #[.int .i64 t.k, .string ⟨t.s.toArray⟩, .int .i64 t.n]) = tokV t from rfl]
        refine (written_any _ t (by exact tab_keep ht HKA.out) (by omega) ⟨r2, r3⟩).mono ?_
        rintro e w3 ⟨rfl, hK3⟩
        have hB3 := bldr_same HB2.out hK3
        have hz3 : w1.heap.size < w3.heap.size := by have := hK3.size; omega
        go_wp2_with fail
        refine (Tryd.bWriteString w1.heap.size w1.heap.size _ ⟨(writtenT t).toArray⟩ _ (by exact hB3) (by rw [Lib.byteCells_length]; show _ + (writtenT t).toArray.size ≤ _; rw [List.size_toArray]; omega) (by omega)).mono ?_
        rintro e w4 ⟨rfl, hB4, hb4, _⟩
        have hz4 := hb4.size
        have hB5 : Lib.IsBuilderF 45 5 w1.heap.size w1.heap.size (Lib.byteCells (printF (l.take (k + 1)))) w4 := by
          refine .inr ?_
          rw [HS.out, Lib.byteCells_append, ← strCells_eq (writtenT t)]
          exact hB4
        have hK5 : Same w w4 := same_below (HKA.out.trans hK3 (fun _ _ f => f.elim)) hb4 hK1.size
        clear hB4 hB3
        go_wp2_with fail
        go_roundg (gk - 1)
        case measure => omega
        case rel => exact ⟨k + 1, by omega, by go_num, hK5, by omega, by rw [HS.out]; rw [List.length_append]; omega, hB5⟩
      · have HS : Hid (printF (l.take (k + 1)) = (printF (l.take k) ++ [32]) ++ writtenT t) := by
          show _ = _
          rw [hstep, if_neg (take_ne (by omega) hlt)]; simp
        have hk1 : 0 < k := by omega
        clear hstep hk0
        generalize printF (l.take k) = P at *
        have hz2 : w1.heap.size ≤ (wr.alloc (.cells #[.int .i64 t.k, .string ⟨t.s.toArray⟩, .int .i64 t.n] 41)).heap.size := by simp; omega
        have hblk0 := heap_alloc_new wr (.cells #[.int .i64 t.k, .string ⟨t.s.toArray⟩, .int .i64 t.n] 41)
        have hK0 := hK.alloc (.cells #[.int .i64 t.k, .string ⟨t.s.toArray⟩, .int .i64 t.n] 41)
        have HB1 := hide (Lib.IsBuilderF.alloc hB (.cells #[.int .i64 t.k, .string ⟨t.s.toArray⟩, .int .i64 t.n] 41))
        go_wp2_with fail
        refine (Tryd.bWriteByte w1.heap.size w1.heap.size _ 32 _ (by exact HB1.out) (by rw [Lib.byteCells_length]; omega) (by exact hz2)).mono ?_
        rintro e w2 ⟨rfl, hB2, hb2, ho2⟩
        have hblk := ho2 wr.heap.size _ hblk0 (by intro e; have e2 := Option.some.inj e; omega) (by intro c fz e; cases e)
        obtain ⟨g0, g1, g2, _⟩ := cells3 hblk
        have HKA := hide (same_below hK0 hb2 hK1.size)
        have hz2 : w1.heap.size < w2.heap.size := by have := hb2.size; simp at this; omega
        have HB2 : Hid (Lib.IsBuilderF 45 5 w1.heap.size w1.heap.size (Lib.byteCells (P ++ [32])) w2) := by
          refine .inr ?_
          have e1 : Lib.byteCells (P ++ [32]) = Lib.byteCells P ++ [.int .u8 32] := by simp [Lib.byteCells]
          rw [e1]; exact hB2
        clear hB2 ho2 hblk hblk0 hK0
        go_wp2_with fail
        rw [show (Value.agg #[.int .i64 t.k, .string ⟨t.s.toArray⟩, .int .i64 t.n]) = tokV t from rfl]
        refine (written_any _ t (by exact tab_keep ht HKA.out) (by omega) ⟨r2, r3⟩).mono ?_
        rintro e w3 ⟨rfl, hK3⟩
        have hB3 := bldr_same HB2.out hK3
        have hz3 : w1.heap.size < w3.heap.size := by have := hK3.size; omega
        go_wp2_with fail
        refine (Tryd.bWriteString w1.heap.size w1.heap.size _ ⟨(writtenT t).toArray⟩ _ (by exact hB3) (by rw [Lib.byteCells_length]; show _ + (writtenT t).toArray.size ≤ _; rw [List.size_toArray]; rw [List.length_append]; simp only [List.length_cons, List.length_nil]; omega) (by omega)).mono ?_
        rintro e w4 ⟨rfl, hB4, hb4, _⟩
        have hz4 := hb4.size
        have hB5 : Lib.IsBuilderF 45 5 w1.heap.size w1.heap.size (Lib.byteCells (printF (l.take (k + 1)))) w4 := by
          refine .inr ?_
          rw [HS.out, Lib.byteCells_append, ← strCells_eq (writtenT t)]
          exact hB4
        have hK5 : Same w w4 := same_below (HKA.out.trans hK3 (fun _ _ f => f.elim)) hb4 hK1.size
        clear hB4 hB3
        go_wp2_with fail
        go_roundg (gk - 1)
        case measure => omega
        case rel => exact ⟨k + 1, by omega, by go_num, hK5, by omega, by rw [HS.out]; rw [List.length_append, List.length_append]; simp only [List.length_cons, List.length_nil]; omega, hB5⟩
    · go_wp2_with fail
      refine (Tryd.Builder_String_any_k w1.heap.size w1.heap.size _ _ (by exact hB) (by omega)).mono ?_
      rintro e w2 ⟨rfl, _, hb2, _⟩
      have hK2 := same_below hK hb2 hK1.size
      have e1 : l.take k = l := List.take_of_length_le (by omega)
      rw [e1]
      clear e1
      go_wp2_with fail
      go_ret2
      exact ⟨rfl, hK2⟩

end Go.Proofs.YtkkjchfhgjfclaaDoor

/- Read of a text that is right, and of one that is not. -/
namespace Go.Proofs.YtkkjchfhgjfclaaDoor
open Go.RowKit

/-- Read of a text that is right. -/
theorem read_ok (w : World) (s : ByteArray) (T : List Tok) (h : lexRead s.data.toList = .ok T) (hT : T.length ≤ 9000000000000) :
    Calls Tryd.prog 7 #[.string s] w fun e w' => ∃ v, e = .returned (.tuple #[v, .int .i64 0]) ∧ TokSl w' v T ∧ Same w w' := by
  refine (read_any w s).mono ?_
  rintro e w' (⟨T', v, h1, rfl, h2, h3⟩ | ⟨n, h1, _, rfl, h3⟩)
  · rw [h] at h1
    cases h1
    exact ⟨v, rfl, own_toks h2 hT, h3⟩
  · rw [h] at h1; cases h1
theorem read_bad (w : World) (s : ByteArray) (n : Int) (h : lexRead s.data.toList = .error n) :
    Calls Tryd.prog 7 #[.string s] w fun e w' => e = .returned (.tuple #[.slice none 0 0, .int .i64 n]) ∧ Same w w' ∧ n ≠ 0 := by
  refine (read_any w s).mono ?_
  rintro e w' (⟨T', v, h1, rfl, h2, h3⟩ | ⟨n', h1, h2, rfl, h3⟩)
  · rw [h] at h1; cases h1
  · rw [h] at h1
    cases h1
    exact ⟨rfl, h3, h2⟩

end Go.Proofs.YtkkjchfhgjfclaaDoor

/- SameTokens, whatever it is handed. -/
namespace Go.Proofs.YtkkjchfhgjfclaaDoor
open Go.RowKit

set_option maxHeartbeats 800000 in
theorem sameTokens_any (w : World) (va vb : Value) (a b : List Tok) (ha : TokSl w va a) (hb : TokSl w vb b) :
    Calls Tryd.prog 9 #[va, vb] w fun e w' => e = .returned (.bool (sameT a b)) ∧ ∃ n, w' = w.drewN n := by
  obtain ⟨aa, ca, rfl, hla, hca⟩ := id ha
  obtain ⟨ab, cb, rfl, hlb, hcb⟩ := id hb
  clear hca hcb
  by_cases hne : a.length = b.length
  · have hne' : ((a.length : Int) != (b.length : Int)) = false := by simp; omega
    have hl1 : a.length ≤ b.length := by omega
    have hl2 : b.length ≤ a.length := by omega
    clear hne
    go_enter Tryd.func9, Tryd.ntmps9
    go_wp2_with fail
    go_loopg [5] a.length (fun g i wr => ∃ k n : Nat, k + g = a.length ∧ i = .int .i64 k ∧ wr = w.drewN n ∧ Hid (a.take k = b.take k))
    case atStart => exact ⟨0, 0, by omega, rfl, rfl, rfl⟩
    case round =>
      obtain ⟨k, n, hk, rfl, rfl, HE⟩ := hrel
      by_cases hlt : k < a.length
      · obtain ⟨b1, o1, e1, p0, p1, p2⟩ := ha.at k hlt
        obtain ⟨b2, o2, e2, q0, q1, q2⟩ := hb.at k (by omega)
        subst e1 e2
        have hkb : k < b.length := by omega
        cases he : tokEq a[k] b[k] with
        | true =>
          have hnq := neq_tok a[k] b[k]
          rw [he] at hnq
          have HT := hide ((tokEq_iff _ _).1 he)
          clear he
          go_wp2_with fail
          go_quiet (fail)
          go_wp2_with fail
          go_roundg (gk - 1)
          case measure => omega
          case rel => exact ⟨k + 1, _, by omega, by go_num, rfl, by show a.take (k + 1) = b.take (k + 1); rw [List.take_succ_eq_append_getElem hlt, List.take_succ_eq_append_getElem hkb, HE.out, HT.out]⟩
        | false =>
          have hnq := neq_tok a[k] b[k]
          rw [he] at hnq
          have HT := hide he
          clear he
          go_wp2_with fail
          go_quiet (fail)
          go_wp2_with fail
          go_ret
          refine ⟨ret_bool (sameT_false ?_).symm, n + nq, by rw [World.drewN_drewN]⟩
          intro e
          subst e
          have := (tokEq_iff a[k] a[k]).2 rfl
          rw [HT.out] at this
          cases this
      · go_wp2_with fail
        go_ret
        refine ⟨ret_bool ?_, _, rfl⟩
        have e1 : a.take k = a := List.take_of_length_le (by omega)
        have e2 : b.take k = b := List.take_of_length_le (by omega)
        have := HE.out
        rw [e1, e2] at this
        exact ((sameT_iff a b).2 this).symm
  · have hne' : ((a.length : Int) != (b.length : Int)) = true := by simp; omega
    have HF := hide (sameT_false (a := a) (b := b) (fun e => hne (by rw [e])))
    go_enter Tryd.func9, Tryd.ntmps9
    go_wp2_with fail
    go_ret
    exact ⟨ret_bool HF.out.symm, 0, rfl⟩

end Go.Proofs.YtkkjchfhgjfclaaDoor

/- The laws' own: some, lexBegun. -/
namespace Go.Proofs.YtkkjchfhgjfclaaDoor
open Go.RowKit

def someT : List Tok := [⟨1, [97, 49], 0⟩, ⟨4, [58], 0⟩, ⟨2, [], -7⟩, ⟨3, [113, 34, 92, 10], 0⟩]

theorem someT_cells (i : Nat) (t : Tok) (h : someT[i]? = some t) : (tokCells someT)[i * 3]? = some (.int .i64 t.k) ∧ (tokCells someT)[i * 3 + 1]? = some (.string ⟨t.s.toArray⟩) ∧ (tokCells someT)[i * 3 + 2]? = some (.int .i64 t.n) := by
  have := tokCells_get someT i t h
  rw [show i * 3 = 3 * i from by omega]
  exact this

theorem some_any (w : World) :
    Calls Tryd.prog 18 #[] w fun e w' => ∃ v, e = .returned v ∧ TokSl w' v someT ∧ Same w w' := by
  go_enter Tryd.func18, Tryd.ntmps18
  go_wp2
  go_ret
  refine ⟨_, rfl, ⟨_, _, rfl, by decide, fun i t ht => ⟨w.heap.size, 0, rfl, ?_⟩⟩, (by repeat' (first | assumption | exact Kept.refl _ _ | refine Kept.drewN ?_ _ | refine Kept.drew ?_ | refine Kept.alloc ?_ _ | refine Kept.setB ?_ _ _))⟩
  obtain ⟨h1, h2, h3⟩ := someT_cells i t ht
  have key : ∀ j u, (tokCells someT)[j]? = some u → (w.alloc (.cells (tokCells someT).toArray 41)).cell? ⟨w.heap.size, j, none⟩ = some u := by
    intro j u hj
    rw [World.cell?_alloc_new]
    simpa using hj
  rw [Nat.zero_add]
  exact ⟨key _ _ h1, key _ _ h2, key _ _ h3⟩

theorem read1 : lexRead [32, 97, 49, 32, 58, 44, 45, 55, 32, 35, 32, 99, 10, 34, 113, 92, 34, 92, 92, 92, 110, 34] = .ok someT := by kernel_rfl
theorem read2 : lexRead [48, 49] = .error 1 := by kernel_rfl
theorem check1 : lexCheck someT = 0 := by kernel_rfl
theorem itoa7 : Lib.itoa (-7) = [45, 55] := by
  rw [Lib.itoa, if_pos (by decide)]
  rw [show (-7 : Int).natAbs = 7 from rfl, Lib.decDigits]
  rfl
theorem print1 : printF someT = [97, 49, 32, 58, 32, 45, 55, 32, 34, 113, 92, 34, 92, 92, 92, 110, 34] := by
  simp [someT, printF, writtenT, itoa7, quoteL, quoteC]


set_option maxHeartbeats 800000 in
theorem lexBegun_any (w : World) (ht : Tab w) :
    Calls Tryd.prog 8 #[] w fun e w' => e = .returned (.bool true) ∧ Same w w' := by
  go_enter Tryd.func8, Tryd.ntmps8
  go_wp2_with fail
  refine (read_ok _ _ someT (by exact read1) (by decide)).mono ?_
  rintro e w1 ⟨v1, rfl, hv1, hK1⟩
  go_wp2_with fail
  refine (some_any _).mono ?_
  rintro e w2 ⟨v2, rfl, hv2, hK2⟩
  go_wp2_with fail
  refine (print_ok _ _ someT (by exact hv2) (tab_keep (tab_keep ht hK1) hK2) check1).mono ?_
  rintro e w3 ⟨rfl, hK3⟩
  rw [print1]
  go_wp2_with fail
  refine (read_bad _ _ 1 (by exact read2)).mono ?_
  rintro e w4 ⟨rfl, hK4, _⟩
  go_wp2_with fail
  refine (some_any _).mono ?_
  rintro e w5 ⟨v5, rfl, hv5, hK5⟩
  go_wp2_with fail
  have hc := check_any w5 v5 someT hv5
  rw [check1] at hc
  have HC := hide hc
  clear hc
  refine HC.out.mono ?_
  rintro e w6 ⟨rfl, hK6⟩
  go_wp2_with fail
  refine (some_any _).mono ?_
  rintro e w7 ⟨v7, rfl, hv7, hK7⟩
  have hv17 := ((((((hv1.same hK2).same hK3).same hK4).same hK5).same hK6).same hK7)
  have hs := sameTokens_any w7 v1 v7 someT someT hv17 hv7
  rw [(sameT_iff someT someT).2 rfl] at hs
  have HS := hide hs
  clear hs
  go_wp2_with fail
  refine HS.out.mono ?_
  rintro e w8 ⟨rfl, n8, rfl⟩
  go_wp2
  go_ret
  refine ⟨rfl, ?_⟩
  have tr : ∀ {a b c : World}, Same a b → Same b c → Same a c := fun h k => h.trans k (fun _ _ f => f.elim)
  exact Kept.drewN (tr (tr (tr (tr (tr (tr hK1 hK2) hK3) hK4) hK5) hK6) hK7) _

end Go.Proofs.YtkkjchfhgjfclaaDoor
