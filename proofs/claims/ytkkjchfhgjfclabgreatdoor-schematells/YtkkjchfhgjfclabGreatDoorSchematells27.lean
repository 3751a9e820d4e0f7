import Derived.Test.YtkkjchfhgjfclabGreatDoorSchematells26
import Derived.Lib.ItoaLen
import Derived.Test.YtkkjchfhgjfclabGreatDoorSchematells25
import Derived.Lib.Join
/- lex.written, lex.Print, whatever they are handed. -/
namespace Go.Proofs.YtkkjchfhgjfclabGreatDoor
open Go.RowKit

/-- strconv's table of powers lies as its text lays it -/
def Tab (w : World) : Prop := Lib.TabIs Tryz.prog w "internal/strconv.uint64pow10" .u64 Lib.pow10Tab

theorem tab_keep {w w' : World} (h : Tab w) (hk : Same w w') : Tab w' := by
  unfold Tab Lib.TabIs World.var? at *
  cases hg : Tryz.prog.globalNamed "internal/strconv.uint64pow10" with
  | none => simp [hg] at h
  | some g =>
    simp only [hg, Option.bind_some] at h ⊢
    have hlt : g < w.heap.size := by
      rcases Nat.lt_or_ge g w.heap.size with h' | h'
      · exact h'
      · rw [Array.getElem?_eq_none h'] at h; simp at h
    rw [hk.block g hlt (fun f => f)]
    exact h

theorem same_grow (w : World) (k : Nat) (os : Array Obj) : Same w (Sort.grow (w.drewN k) os) := by
  refine ⟨rfl, rfl, rfl, by simp [Sort.grow], fun i hi _ => ?_⟩
  show (w.heap ++ os)[i]? = _
  rw [Array.getElem?_append_left hi]

theorem bldr_same {T e : TypeId} {B b : Nat} {bs : List Value} {w w' : World} (h : Lib.IsBuilderF T e B b bs w) (hk : Same w w') : Lib.IsBuilderF T e B b bs w' := by
  have go : ∀ p, Lib.BuilderAtF T e B b p bs w → Lib.BuilderAtF T e B b p bs w' := by
    rintro p ⟨hB, v, hb, ⟨h1, h2⟩, hne⟩
    have hlt : b < w.heap.size := (Array.getElem?_eq_some_iff.1 hb).1
    refine ⟨hB, v, by rw [hk.block b hlt (fun f => f)]; exact hb, ⟨h1, ?_⟩, hne⟩
    rcases h2 with h2 | ⟨g, cap, cur, fz, hv, hg, hh, r⟩
    · exact Or.inl h2
    · have hg' : g < w.heap.size := (Array.getElem?_eq_some_iff.1 hh).1
      exact Or.inr ⟨g, cap, cur, fz, hv, hg, by rw [hk.block g hg' (fun f => f)]; exact hh, r⟩
  exact h.elim (fun x => .inl (go _ x)) (fun x => .inr (go _ x))

theorem written_any (w : World) (t : Tok) (ht : Tab w) (hs : t.s.length ≤ 2000) (hn : -999999999 ≤ t.n ∧ t.n ≤ 999999999) :
    Calls Tryz.prog 55 #[tokV t] w fun e w' => e = .returned (.string ⟨(writtenT t).toArray⟩) ∧ Same w w' := by
  by_cases h2 : t.k = 2
  · have e2 : (t.k == 2) = true := by simp [h2]
    have HF := hide (show writtenT t = Lib.itoa t.n by unfold writtenT; rw [if_pos h2])
    have HT := hide (fun o => tab_keep ht ((Kept.refl _ w).alloc o))
    clear h2
    go_enter Tryz.func55, Tryz.ntmps55
    go_wp2_with fail
    refine (Tryz.strconv_Itoa t.n (by omega) (by omega) _ (by exact HT.out _)).mono ?_
    rintro e w1 ⟨rfl, k, os, rfl⟩
    have hK := same_grow (w.alloc (.cells #[.int .i64 t.k, .string ⟨t.s.toArray⟩, .int .i64 t.n] 65)) k os
    generalize Sort.grow ((w.alloc (.cells #[.int .i64 t.k, .string ⟨t.s.toArray⟩, .int .i64 t.n] 65)).drewN k) os = w1 at *
    go_wp2_with fail
    go_ret
    exact ⟨ret_str (by rw [HF.out]), hK.unA⟩
  have e2 : (t.k == 2) = false := by simp [h2]
  by_cases h3 : t.k = 3
  · have e3 : (t.k == 3) = true := by simp [h3]
    have HF := hide (show writtenT t = quoteL t.s by unfold writtenT; rw [if_neg h2, if_pos h3])
    clear h2 h3
    have hsz : (⟨t.s.toArray⟩ : ByteArray).size ≤ 2000 := by show t.s.toArray.size ≤ 2000; simpa using hs
    have HQ := hide (fun w => quoted_any w ⟨t.s.toArray⟩ hsz)
    go_enter Tryz.func55, Tryz.ntmps55
    go_wp2_with fail
    refine (HQ.out _).mono ?_
    rintro e w1 ⟨rfl, hK⟩
    go_wp2_with fail
    go_ret
    exact ⟨ret_str (by rw [HF.out]), hK.unA⟩
  have e3 : (t.k == 3) = false := by simp [h3]
  have HF := hide (show writtenT t = t.s by unfold writtenT; rw [if_neg h2, if_neg h3])
  clear h2 h3
  go_enter Tryz.func55, Tryz.ntmps55
  go_wp2_with fail
  go_ret
  exact ⟨ret_str (by rw [HF.out]), (by repeat' (first | assumption | exact Kept.refl _ _ | refine Kept.drewN ?_ _ | refine Kept.drew ?_ | refine Kept.alloc ?_ _ | refine Kept.setB ?_ _ _))⟩

theorem quoteC_len (c : UInt8) : (quoteC c).length ≤ 2 := by unfold quoteC; split <;> (try split) <;> simp
theorem quote_len (s : List UInt8) : (quoteL s).length ≤ 2 * s.length + 2 := by
  have : (s.flatMap quoteC).length ≤ 2 * s.length := by
    induction s with
    | nil => simp
    | cons c r ih => have := quoteC_len c; rw [List.flatMap_cons, List.length_append, List.length_cons]; omega
  rw [quoteL, List.length_cons, List.length_append]; simp only [List.length_cons, List.length_nil]; omega

theorem right_tok (t : Tok) (h : wrongT t = 0) : t.s.length ≤ 40 ∧ -999999999 ≤ t.n ∧ t.n ≤ 999999999 ∧ (writtenT t).length ≤ 100 := by
  unfold wrongT at h
  unfold writtenT
  by_cases h1 : t.k = 1
  · rw [if_pos h1] at h
    split at h <;> (try split at h) <;> (try split at h) <;> (first | (exfalso; omega) | skip)
    rename_i a b c
    refine ⟨by omega, by omega, by omega, ?_⟩
    rw [if_neg (by omega), if_neg (by omega)]; omega
  · rw [if_neg h1] at h
    by_cases h2 : t.k = 2
    · rw [if_pos h2] at h ⊢
      split at h <;> (try split at h) <;> (first | (exfalso; omega) | skip)
      rename_i a b
      have := Lib.itoa_length_le t.n (by omega) (by omega)
      have ha : t.s = [] := by simpa using a
      exact ⟨by rw [ha]; simp, by omega, by omega, by omega⟩
    · rw [if_neg h2] at h ⊢
      by_cases h3 : t.k = 3
      · rw [if_pos h3] at h ⊢
        split at h <;> (try split at h) <;> (first | (exfalso; omega) | skip)
        rename_i a b
        have := quote_len t.s
        exact ⟨by omega, by omega, by omega, by omega⟩
      · rw [if_neg h3] at h ⊢
        by_cases h4 : t.k = 4
        · rw [if_pos h4] at h
          split at h
          · exfalso; omega
          · rename_i a
            have ha : t.n = 0 ∧ t.s.length = 1 := by
              constructor
              · exact Classical.byContradiction fun e => a (.inl e)
              · exact Classical.byContradiction fun e => a (.inr (.inl e))
            omega
        · rw [if_neg h4] at h; exfalso; omega

theorem printF_snoc (a : List Tok) (t : Tok) : printF (a ++ [t]) = if a = [] then writtenT t else printF a ++ 32 :: writtenT t := by
  induction a with
  | nil => simp [printF]
  | cons x r ih =>
    cases r with
    | nil => simp [printF]
    | cons y r' =>
      have := ih
      simp at this
      simp [printF, this]

theorem checkF_all (l : List Tok) (h : checkF l = 0) : ∀ i (hi : i < l.length), wrongT l[i] = 0 := by
  induction l with
  | nil => intro i hi; simp at hi
  | cons t r ih =>
    intro i hi
    rw [checkF] at h
    by_cases hw : wrongT t = 0
    · rw [if_neg (by simp [hw])] at h
      cases i with
      | zero => exact hw
      | succ i => exact ih h i (by simpa using hi)
    · rw [if_pos hw] at h; exact absurd h hw


theorem same_below {w wx w' : World} {B : Nat} (h : Same w wx) (hb : Below B wx w') (hB : w.heap.size ≤ B) : Same w w' :=
  ⟨hb.os.trans h.os, hb.tape.trans h.tape, hb.output.trans h.output, Nat.le_trans h.size hb.size, fun k hk f => (hb.block k (by omega)).trans (h.block k hk f)⟩

theorem take_ne {l : List Tok} {k : Nat} (h0 : 0 < k) (hl : k < l.length) : ¬ l.take k = [] := by
  intro e
  have h2 : (l.take k).length = 0 := by rw [e]; rfl
  rw [List.length_take] at h2
  omega

theorem strCells_eq (l : List UInt8) : Lib.strCells ⟨l.toArray⟩ = Lib.byteCells l := by simp [Lib.strCells, Lib.byteCells]

theorem print_bad (w : World) (v : Value) (l : List Tok) (h : TokSl w v l) (hck : lexCheck l ≠ 0) :
    Calls Tryz.prog 24 #[v] w fun e w' => e = .returned (.tuple #[.string ⟨#[]⟩, .int .i64 (lexCheck l)]) ∧ Same w w' := by
  obtain ⟨ao, cap, rfl, hl, hc⟩ := id h
  clear hc
  have HK := hide (check_any w _ l h)
  have hck' : (lexCheck l != 0) = true := by simp [hck]
  clear hck
  generalize lexCheck l = n at *
  go_enter Tryz.func24, Tryz.ntmps24
  go_wp2_with fail
  refine HK.out.mono ?_
  rintro e w1 ⟨rfl, hK1⟩
  go_wp2_with fail
  go_ret2
  exact ⟨rfl, hK1⟩

set_option maxHeartbeats 1600000 in
theorem print_ok (w : World) (v : Value) (l : List Tok) (h : TokSl w v l) (ht : Tab w) (hck : lexCheck l = 0) :
    Calls Tryz.prog 24 #[v] w fun e w' => e = .returned (.tuple #[.string ⟨(printF l).toArray⟩, .int .i64 0]) ∧ Same w w' := by
  obtain ⟨ao, cap, rfl, hl, hc⟩ := id h
  clear hc
  have hlen : l.length ≤ 300 := by
    unfold lexCheck at hck
    split at hck
    · exact absurd hck (by decide)
    · omega
  have hall : Hid (∀ i (hi : i < l.length), wrongT l[i] = 0) := by
    refine checkF_all l ?_
    unfold lexCheck at hck
    rw [if_neg (by omega)] at hck
    exact hck
  have HK := check_any w _ l h
  rw [hck] at HK
  have HK0 := hide HK
  clear hck HK
  go_enter Tryz.func24, Tryz.ntmps24
  go_wp2_with fail
  refine HK0.out.mono ?_
  rintro e w1 ⟨rfl, hK1⟩
  go_wp2_with fail
  go_loopg [15] l.length (fun g i wr => ∃ k : Nat, k + g = l.length ∧ i = .int .i64 k ∧ Same w wr ∧ w1.heap.size < wr.heap.size ∧ (printF (l.take k)).length ≤ 101 * k ∧ Lib.IsBuilderF 92 5 w1.heap.size w1.heap.size (Lib.byteCells (printF (l.take k))) wr)
  case atStart => exact ⟨0, by omega, rfl, hK1.alloc _, by simp, by simp [printF], Lib.IsBuilderF.of (Lib.fresh_isBuilder _ _ w1)⟩
  case round =>
    obtain ⟨k, hk, rfl, hK, hz, hpl, hB⟩ := hrel
    by_cases hlt : k < l.length
    · obtain ⟨b1, o1, e1, p0, p1, p2⟩ := (h.same hK).at k hlt
      subst e1
      obtain ⟨r1, r2, r3, r4⟩ := right_tok _ (hall.out k hlt)
      have hstep : printF (l.take (k + 1)) = if l.take k = [] then writtenT l[k] else printF (l.take k) ++ 32 :: writtenT l[k] := by
        rw [List.take_succ_eq_append_getElem hlt, printF_snoc]
      obtain ⟨t, htk⟩ : ∃ t, l[k] = t := ⟨_, rfl⟩
      rw [htk] at p0 p1 p2 r1 r2 r3 r4 hstep
      clear htk
      by_cases hk0 : k = 0
      · have HS : Hid (printF (l.take (k + 1)) = printF (l.take k) ++ writtenT t) := by
          show _ = _
          rw [hstep, if_pos (by rw [hk0]; rfl), hk0]; rfl
        have hk1 : k ≤ 0 := by omega
        clear hstep hk0
        generalize printF (l.take k) = P at *
        have HKA := hide (hK.alloc (.cells #[.int .i64 t.k, .string ⟨t.s.toArray⟩, .int .i64 t.n] 65))
        have HB2 := hide (Lib.IsBuilderF.alloc hB (.cells #[.int .i64 t.k, .string ⟨t.s.toArray⟩, .int .i64 t.n] 65))
        have hz2 : w1.heap.size < (wr.alloc (.cells #[.int .i64 t.k, .string ⟨t.s.toArray⟩, .int .i64 t.n] 65)).heap.size := by simp; omega
        go_wp2_with fail
        rw [show (Value.agg #[.int .i64 t.k, .string ⟨t.s.toArray⟩, .int .i64 t.n]) = tokV t from rfl]
        refine (written_any _ t (by exact tab_keep ht HKA.out) (by omega) ⟨r2, r3⟩).mono ?_
        rintro e w3 ⟨rfl, hK3⟩
        have hB3 := bldr_same HB2.out hK3
        have hz3 : w1.heap.size < w3.heap.size := by have := hK3.size; omega
        go_wp2_with fail
        refine (Tryz.bWriteString w1.heap.size w1.heap.size _ ⟨(writtenT t).toArray⟩ _ (by exact hB3) (by rw [Lib.byteCells_length]; show _ + (writtenT t).toArray.size ≤ _; rw [List.size_toArray]; omega) (by omega)).mono ?_
        rintro e w4 ⟨rfl, hB4, hb4, _⟩
        have hz4 := hb4.size
        have hB5 : Lib.IsBuilderF 92 5 w1.heap.size w1.heap.size (Lib.byteCells (printF (l.take (k + 1)))) w4 := by
          refine .inr ?_
          rw [HS.out, Lib.byteCells_append, ← strCells_eq (writtenT t)]
          exact hB4
        have hK5 : Same w w4 := same_below (HKA.out.trans hK3 (fun _ _ f => f.elim)) hb4 hK1.size
        clear hB4 hB3
        go_wp2_with fail
        go_roundg (gk - 1)
        case measure => omega
        case rel => exact ⟨k + 1, by omega, by go_num, hK5, by omega, by rw [HS.out]; rw [List.length_append]; omega, hB5⟩
      · have HS : Hid (printF (l.take (k + 1)) = (printF (l.take k) ++ [32]) ++ writtenT t) := by
          show _ = _
          rw [hstep, if_neg (take_ne (by omega) hlt)]; simp
        have hk1 : 0 < k := by omega
        clear hstep hk0
        generalize printF (l.take k) = P at *
        have hz2 : w1.heap.size ≤ (wr.alloc (.cells #[.int .i64 t.k, .string ⟨t.s.toArray⟩, .int .i64 t.n] 65)).heap.size := by simp; omega
        have hblk0 := heap_alloc_new wr (.cells #[.int .i64 t.k, .string ⟨t.s.toArray⟩, .int .i64 t.n] 65)
        have hK0 := hK.alloc (.cells #[.int .i64 t.k, .string ⟨t.s.toArray⟩, .int .i64 t.n] 65)
        have HB1 := hide (Lib.IsBuilderF.alloc hB (.cells #[.int .i64 t.k, .string ⟨t.s.toArray⟩, .int .i64 t.n] 65))
        go_wp2_with fail
        refine (Tryz.bWriteByte w1.heap.size w1.heap.size _ 32 _ (by exact HB1.out) (by rw [Lib.byteCells_length]; omega) (by exact hz2)).mono ?_
        rintro e w2 ⟨rfl, hB2, hb2, ho2⟩
        have hblk := ho2 wr.heap.size _ hblk0 (by intro e; have e2 := Option.some.inj e; omega) (by intro c fz e; cases e)
        obtain ⟨g0, g1, g2, _⟩ := cells3 hblk
        have HKA := hide (same_below hK0 hb2 hK1.size)
        have hz2 : w1.heap.size < w2.heap.size := by have := hb2.size; simp at this; omega
        have HB2 : Hid (Lib.IsBuilderF 92 5 w1.heap.size w1.heap.size (Lib.byteCells (P ++ [32])) w2) := by
          refine .inr ?_
          have e1 : Lib.byteCells (P ++ [32]) = Lib.byteCells P ++ [.int .u8 32] := by simp [Lib.byteCells]
          rw [e1]; exact hB2
        clear hB2 ho2 hblk hblk0 hK0
        go_wp2_with fail
        rw [show (Value.agg #[.int .i64 t.k, .string ⟨t.s.toArray⟩, .int .i64 t.n]) = tokV t from rfl]
        refine (written_any _ t (by exact tab_keep ht HKA.out) (by omega) ⟨r2, r3⟩).mono ?_
        rintro e w3 ⟨rfl, hK3⟩
        have hB3 := bldr_same HB2.out hK3
        have hz3 : w1.heap.size < w3.heap.size := by have := hK3.size; omega
        go_wp2_with fail
        refine (Tryz.bWriteString w1.heap.size w1.heap.size _ ⟨(writtenT t).toArray⟩ _ (by exact hB3) (by rw [Lib.byteCells_length]; show _ + (writtenT t).toArray.size ≤ _; rw [List.size_toArray]; rw [List.length_append]; simp only [List.length_cons, List.length_nil]; omega) (by omega)).mono ?_
        rintro e w4 ⟨rfl, hB4, hb4, _⟩
        have hz4 := hb4.size
        have hB5 : Lib.IsBuilderF 92 5 w1.heap.size w1.heap.size (Lib.byteCells (printF (l.take (k + 1)))) w4 := by
          refine .inr ?_
          rw [HS.out, Lib.byteCells_append, ← strCells_eq (writtenT t)]
          exact hB4
        have hK5 : Same w w4 := same_below (HKA.out.trans hK3 (fun _ _ f => f.elim)) hb4 hK1.size
        clear hB4 hB3
        go_wp2_with fail
        go_roundg (gk - 1)
        case measure => omega
        case rel => exact ⟨k + 1, by omega, by go_num, hK5, by omega, by rw [HS.out]; rw [List.length_append, List.length_append]; simp only [List.length_cons, List.length_nil]; omega, hB5⟩
    · go_wp2_with fail
      refine (Tryz.Builder_String_any_k w1.heap.size w1.heap.size _ _ (by exact hB) (by omega)).mono ?_
      rintro e w2 ⟨rfl, _, hb2, _⟩
      have hK2 := same_below hK hb2 hK1.size
      have e1 : l.take k = l := List.take_of_length_le (by omega)
      rw [e1]
      clear e1
      go_wp2_with fail
      go_ret2
      exact ⟨rfl, hK2⟩

end Go.Proofs.YtkkjchfhgjfclabGreatDoor

/- Tokens printed piece by piece. No program is named here but for the owned rows. -/
namespace Go.Proofs.YtkkjchfhgjfclabGreatDoor
open Go.RowKit

theorem printF_cons (t : Tok) {r : List Tok} (h : r ≠ []) : printF (t :: r) = writtenT t ++ 32 :: printF r := by
  cases r with
  | nil => exact absurd rfl h
  | cons u r => rfl

theorem printF_app {a b : List Tok} (ha : a ≠ []) (hb : b ≠ []) : printF (a ++ b) = printF a ++ 32 :: printF b := by
  induction a with
  | nil => exact absurd rfl ha
  | cons t a ih =>
    cases a with
    | nil => exact printF_cons t hb
    | cons u a =>
      have := ih (by simp)
      rw [List.cons_append, printF_cons t (by simp), this, printF_cons t (by simp)]
      simp

theorem join_print (Ls : List (List Tok)) (h : ∀ l ∈ Ls, l ≠ []) : Lib.join (Ls.map printF) [32] = printF Ls.flatten := by
  induction Ls with
  | nil => rfl
  | cons x r ih =>
    cases r with
    | nil => simp [Lib.join_one]
    | cons y r =>
      have h1 := ih (fun l hl => h l (by simp [hl]))
      rw [List.map_cons, Lib.join_cons] at h1
      rw [List.map_cons, Lib.join_cons, List.flatten_cons, printF_app (h x (by simp)) (by
        have := h y (by simp)
        cases y with
        | nil => exact absurd rfl this
        | cons t y => simp), ← h1]
      simp [Lib.joinTail]

def chunkT (T : List Tok) (j : Nat) : List Tok := (T.drop (300 * j)).take 300

theorem chunkT_len (T : List Tok) (j : Nat) : (chunkT T j).length = chM T.length j := by
  unfold chunkT chM
  rw [List.length_take, List.length_drop]
  split <;> omega

theorem chunks_take (T : List Tok) (n : Nat) : ((List.range n).map (chunkT T)).flatten = T.take (300 * n) := by
  induction n with
  | zero => simp
  | succ n ih =>
    rw [List.range_succ, List.map_append, List.flatten_append, ih, List.map_cons, List.map_nil, List.flatten_cons, List.flatten_nil, List.append_nil, chunkT, show 300 * (n + 1) = 300 * n + 300 from by omega, List.take_add]

theorem chunks_print (T : List Tok) (n : Nat) (h1 : T.length ≤ 300 * n) (h2 : 300 * n < T.length + 300) : Lib.join ((List.range n).map (fun j => printF (chunkT T j))) [32] = printF T := by
  have h := join_print ((List.range n).map (chunkT T)) (fun l hl => by
    obtain ⟨j, hj, rfl⟩ := List.mem_map.1 hl
    rw [List.mem_range] at hj
    intro e
    have := congrArg List.length e
    rw [chunkT_len, List.length_nil] at this
    unfold chM at this
    split at this <;> omega)
  rw [List.map_map] at h
  rw [show (fun j => printF (chunkT T j)) = printF ∘ chunkT T from rfl, h, chunks_take, List.take_of_length_le h1]

theorem okT_chunk {T : List Tok} (h : okT T) (j : Nat) : okT (chunkT T j) := fun t ht => h t (List.mem_of_mem_drop (List.mem_of_mem_take ht))
theorem check_chunk {T : List Tok} (h : okT T) (j : Nat) : lexCheck (chunkT T j) = 0 := by
  have hl : (chunkT T j).length ≤ 300 := by rw [chunkT, List.length_take]; omega
  rw [lexCheck, if_neg (by omega), okT_check (okT_chunk h j)]

theorem printF_max {l : List Tok} (h : okT l) : (printF l).length ≤ 101 * l.length := by
  induction l with
  | nil => simp [printF]
  | cons t r ih =>
    have ht := (right_tok t (h t (by simp))).2.2.2
    have ih := ih (fun u hu => h u (by simp [hu]))
    cases r with
    | nil => simp [printF]; omega
    | cons u r =>
      rw [printF]
      · rw [List.length_append, List.length_cons, List.length_cons]; omega
      · simp

/-- piece j of a row of tokens -/
theorem TokSl.chunk {w : World} {g cap cap' : Nat} {T : List Tok} (h : TokSl w (.slice (some ⟨g, 0, none⟩) T.length cap) T) (j : Nat) : TokSl w (.slice (some ⟨g, 300 * j * 3, none⟩) (chM T.length j) cap') (chunkT T j) := by
  obtain ⟨ao, cp, hv, hl, hc⟩ := h
  cases hv
  refine ⟨_, cap', by rw [chunkT_len], by rw [chunkT_len]; unfold chM; split <;> omega, fun i u hu => ⟨g, 300 * j * 3, rfl, ?_⟩⟩
  unfold chunkT at hu
  rw [List.getElem?_take] at hu
  split at hu
  · rw [List.getElem?_drop] at hu
    obtain ⟨b2, o2, e2, g0, g1, g2⟩ := hc (300 * j + i) u hu
    cases e2
    rw [show 300 * j * 3 + i * 3 = 0 + (300 * j + i) * 3 from by omega]
    exact ⟨g0, g1, g2⟩
  · cases hu

/-- an owned row abides what turns no cells -/
theorem own_nc {w w' : World} {base : Nat} {e : TypeId} {size : Nat} {v : Value} {n : Nat} {xs : List Value} {row : Option Nat} (h : w.ownsRow base e size v n xs) (hg : w.grownBy w' row) (hr : ∀ r, row = some r → ∃ o : Obj, w.heap[r]? = some o ∧ o.isCells = false) : w'.ownsRow base e size v n xs := by
  obtain ⟨h1, h2⟩ := h
  refine ⟨h1, ?_⟩
  rcases h2 with h2 | ⟨g, cap, cur, hv, hb, hh, r⟩
  · exact Or.inl h2
  · have hlt : g < w.heap.size := (Array.getElem?_eq_some_iff.1 hh).1
    refine Or.inr ⟨g, cap, cur, hv, hb, ?_, r⟩
    rw [hg.block g hlt (fun e => by
      obtain ⟨o, ho, hc⟩ := hr g e.symm
      rw [hh] at ho
      cases ho
      cases hc)]
    exact hh

theorem blk_nc {w w' : World} {k : Nat} {x : Array Value} {t : TypeId} {z : Nat × Nat} {row : Option Nat} (h : w.heap[k]? = some (.cells x t z)) (hg : w.grownBy w' row) (hr : ∀ r, row = some r → ∃ o : Obj, w.heap[r]? = some o ∧ o.isCells = false) : w'.heap[k]? = some (.cells x t z) := by
  rw [hg.block k (Array.getElem?_eq_some_iff.1 h).1 (fun e => by
    obtain ⟨o, ho, hc⟩ := hr k e.symm
    rw [h] at ho
    cases ho
    cases hc)]
  exact h

theorem blk_kept'' {B k : Nat} {w w' : World} {o : Obj} (h : w.heap[k]? = some o) (hk : Kept (· = B) w w') (hx : k ≠ B) : w'.heap[k]? = some o := by
  rw [hk.block k (Array.getElem?_eq_some_iff.1 h).1 hx]; exact h

theorem keepsOthers_of {X : Nat → Prop} {W W' : World} (hk : Kept X W W') (hX : ∀ k, X k → ∀ o, W.heap[k]? = some o → o.isCells = true) : KeepsOthers W W' :=
  ⟨hk.size, fun k o hk2 ho => by
    rw [hk.block k (Array.getElem?_eq_some_iff.1 hk2).1 (fun x => by rw [hX k x o hk2] at ho; cases ho)]
    exact hk2⟩

theorem chunk_stops (F : Fence) (n : Nat) (h7 : F.fn 95) (hro : F.round = none) (hn : 1 ≤ n) (Bs Bn B n₀ g len cap : Nat) (hlen : len ≤ 1000000) (hcap : len ≤ cap) (w : World) (hBs : Bs < n₀) (hBn : Bn < n₀) (hBs' : Bs ≠ B) (hBn' : Bn ≠ B) (hn0 : n₀ ≤ w.heap.size)
    (hs : w.cell? ⟨Bs, 0, none⟩ = some (.slice (some ⟨g, 0, none⟩) len cap)) (hnn : w.cell? ⟨Bn, 0, none⟩ = some (.int .i64 300)) :
    SeqStopsK F n Tryz.prog 95 #[.pointer (some ⟨Bs, 0, none⟩), .pointer (some ⟨Bn, 0, none⟩)] (fun x : { j : Nat // 300 * j < len } => encC g len x.1) (KpX B n₀)
      (fun ys => (∀ (i : Nat) (y : { j : Nat // 300 * j < len }), ys[i]? = some y → y.1 = i) ∧ (len ≤ 300 * ys.length ∧ 300 * ys.length < len + 300)) (fun _ => True) len w := fun l J Jx W hW hJ _ hY h0 => by
  refine (chunk1_in F n h7 hro hn l Bs Bn B n₀ g len cap hlen hcap hBs hBn hBs' hBn' J Jx (fun s A B hs hg => hJ s A B none hs hg (fun r e => by cases e)) hY W ((hW.cell (p := ⟨Bs, 0, none⟩) (show Bs < w.heap.size from Nat.lt_of_lt_of_le hBs hn0)).trans hs) ((hW.cell (p := ⟨Bn, 0, none⟩) (show Bn < w.heap.size from Nat.lt_of_lt_of_le hBn hn0)).trans hnn) h0).mono ?_
  rintro e W' ⟨he, ⟨ys, h1, h2, h3⟩ | ⟨pre, h⟩⟩
  · exact ⟨he, .inl ⟨ys, ⟨h1, h2⟩, h3⟩⟩
  · exact ⟨he, .inr ⟨pre, trivial, h⟩⟩

theorem infoS : (Tryz.prog.info? 9).map (fun i => (i.zero, i.size, i.bytes)) = some (some (.string ⟨#[]⟩), 1, 16) := by kernel_rfl

end Go.Proofs.YtkkjchfhgjfclabGreatDoor
