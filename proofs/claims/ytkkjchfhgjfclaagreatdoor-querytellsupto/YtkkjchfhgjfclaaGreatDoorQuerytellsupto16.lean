import Derived.Test.YtkkjchfhgjfclaaGreatDoorQuerytellsupto15
import Derived.Test.YtkkjchfhgjfclaaGreatDoorQuerytellsupto07
import Derived.Maps.AppendAt
import Derived.Deep.DeepCutAuto
import Derived.Test.YtkkjchfhgjfclaaGreatDoorQuerytellsupto09
/- tokens.Sign. -/
namespace Go.Proofs.YtkkjchfhgjfclaaGreatDoor
open Go.RowKit

theorem tkSign_any (w : World) (s : ByteArray) :
    Calls Tryz.prog 43 #[.string s] w fun e w' => e = .returned (.agg #[.int .i64 4, .string s, .int .i64 0]) ∧ Same w w' := by
  go_enter Tryz.func43, Tryz.ntmps43
  go_wp2_with fail
  refine bodyPost_ret (v := .agg #[.int .i64 4, .string s, .int .i64 0]) (by simp [results, Tryz.results43, go_sem]) rfl ⟨rfl, (by repeat' (first | assumption | exact Kept.refl _ _ | refine Kept.drewN ?_ _ | refine Kept.drew ?_ | refine Kept.alloc ?_ _ | refine Kept.setB ?_ _ _))⟩

end Go.Proofs.YtkkjchfhgjfclaaGreatDoor

/- tokens.Row: tokens put one behind another. -/
namespace Go.Proofs.YtkkjchfhgjfclaaGreatDoor
open Go.RowKit

/-- the row at q holds the tokens T, in memory of its own -/
def RowAt (w : World) (q : Nat) (T : List Tok) : Prop :=
  ∃ v, w.heap[q]? = some (.cells #[v] 49 (0, 0)) ∧ w.ownsRow (q + 1) 58 3 v T.length (tokCells T)

/-- a block of tokens -/
def TB (w : World) (k : Nat) : Prop := ∃ cur fz, w.heap[k]? = some (.cells cur 58 fz)

/-- nothing is turned but the row at q and, behind it, blocks of tokens -/
def KT (q : Nat) (w w' : World) : Prop := Kept (fun k => k = q ∨ (q < k ∧ TB w k)) w w'

theorem KT.refl (q : Nat) (w : World) : KT q w w := Kept.refl _ _
theorem KT.trans {q : Nat} {a b c : World} (h : KT q a b) (k : KT q b c) : KT q a c := by
  refine Kept.trans h k (fun i hi e => ?_)
  rcases e with e | ⟨e, cur, fz, hb⟩
  · exact .inl e
  · by_cases hx : i = q ∨ (q < i ∧ TB a i)
    · exact hx
    · exact .inr ⟨e, cur, fz, by rw [← h.block i hi hx]; exact hb⟩
theorem KT.of_same {q : Nat} {w w' : World} (h : Same w w') : KT q w w' := Same.to h
theorem KT.same {q : Nat} {w w' w0 : World} (h : KT q w w') (h0 : Same w0 w) (hq : w0.heap.size ≤ q) : Same w0 w' := h0.trans h (fun i hi e => by rcases e with e | e <;> omega)
theorem KT.blk {q g : Nat} {w w' : World} {x : Array Value} {t : TypeId} {fz : Nat × Nat} (h : KT q w w') (hb : w.heap[g]? = some (.cells x t fz)) (hg : g ≠ q) (ht : t ≠ 58) : w'.heap[g]? = some (.cells x t fz) := by
  rw [h.block g (Array.getElem?_eq_some_iff.1 hb).1 (fun e => by
    rcases e with e | ⟨_, cur, fz, hc⟩
    · exact hg e
    · rw [hb] at hc; cases hc; exact ht rfl)]
  exact hb
theorem KT.cell {q : Nat} {w w' : World} {p : Addr} {v : Value} (h : KT q w w') (hv : w.cell? p = some v) (hp : p.block < q) : w'.cell? p = some v := Kept.cell h hv (fun e => by rcases e with e | e <;> omega)

theorem RowAt.lt {w : World} {q : Nat} {T : List Tok} (h : RowAt w q T) : q < w.heap.size := by
  obtain ⟨v, hh, _⟩ := h
  exact (Array.getElem?_eq_some_iff.1 hh).1
theorem RowAt.same {w w' : World} {q : Nat} {T : List Tok} (h : RowAt w q T) (hk : Same w w') : RowAt w' q T := by
  have hl := h.lt
  obtain ⟨v, hh, ho⟩ := h
  exact ⟨v, by rw [hk.block q hl (fun f => f)]; exact hh, own_kept ho hk (fun _ _ f => f)⟩

theorem tokCells_len3 (l : List Tok) : (tokCells l).length = l.length * 3 := by
  induction l with
  | nil => rfl
  | cons t l ih => simp [tokCells, tokC] at ih ⊢; omega
theorem tokCells_1 (l : List Tok) : ∀ u ∈ tokCells l, u.oneCell' = true := by
  intro u hu
  simp only [tokCells, List.mem_flatMap, tokC] at hu
  obtain ⟨t, _, hu⟩ := hu
  simp at hu
  rcases hu with rfl | rfl | rfl <;> rfl

theorem new_toks (w : World) (l : List Tok) : ∀ j u, (tokCells l)[j]? = some u → (w.alloc (.cells (tokCells l).toArray 58)).cell? ((⟨w.heap.size, 0, none⟩ : Addr).add j) = some u := by
  intro j u hj
  rw [add_none, Nat.zero_add, World.cell?_alloc_new]
  simpa using hj

theorem grown_k {w w' : World} {row : Option Nat} (h : w.grownBy w' row) : Kept (fun k => some k = row) w w' :=
  ⟨h.os, h.tape, h.output, h.size, fun k hk hx => h.block k hk hx⟩

theorem blk_kept' {w w' : World} {g : Nat} {o : Obj} (h : w.heap[g]? = some o) (hk : Same w w') : w'.heap[g]? = some o := by
  rw [hk.block g (Array.getElem?_eq_some_iff.1 h).1 (fun f => f)]; exact h

set_option maxRecDepth 20000 in
set_option maxHeartbeats 800000 in
/-- tokens in a block of their own are put behind -/
theorem put_any (w : World) (q g : Nat) (T N : List Tok) (c : Nat) (h : RowAt w q T) (hn : ∀ j u, (tokCells N)[j]? = some u → w.cell? ((⟨g, 0, none⟩ : Addr).add j) = some u) (h0 : 0 < N.length) (hb : T.length + N.length ≤ 1000000) :
    Calls Tryz.prog 42 #[.pointer (some ⟨q, 0, none⟩), .slice (some ⟨g, 0, none⟩) N.length c] w fun e w' => e = .returned (.tuple #[]) ∧ RowAt w' q (T ++ N) ∧ KT q w w' := by
  have hq := h.lt
  obtain ⟨v, hh, hown⟩ := h
  obtain ⟨i0, hi, hz0, hz1, hz2⟩ := info_parts info39
  obtain ⟨ao, cap, rfl⟩ := own_slice hown
  have c0 : w.cell? ⟨q, 0, none⟩ = some (.slice ao T.length cap) := by simp [World.cell?, hh]
  have HH := hide hh
  clear hh
  go_enter Tryz.func42, Tryz.ntmps42
  go_wp2_with (at_builtin; refine wpList_append_own_at _ rfl _ _ 35 rfl (q + 1) 58 i0 _ 3 32 Tryz.underlying35 hi hz0 hz1 hz2 rfl (by decide) _ _ _ rfl hown ⟨g, 0, none⟩ N.length c (tokCells N) rfl (tokCells_len3 N) hn (tokCells_1 N) ?a3 ?a4 ?a5 ?_)
  case a3 => unfold maxLen; omega
  case a4 => omega
  case a5 => omega
  intro v2 w2 hown2 hgr2 _ _
  obtain ⟨g2, cap2, hv2⟩ := own_form hown2 (by omega)
  subst hv2
  have hX : ∀ k, some k = (Value.slice ao T.length cap).ownBlock → q < k ∧ TB w k := fun k e => by
    have h1 := (hown.lt k e.symm).1
    refine ⟨by omega, ?_⟩
    rcases hown.2 with ⟨e2, _⟩ | ⟨g', cap', cur, e2, _, hc, _⟩
    · have e3 : ao = none := by injection e2
      subst e3
      cases e
    · have e3 : ao = some ⟨g', 0, none⟩ := by injection e2
      subst e3
      cases e
      exact ⟨cur, _, hc⟩
  have hK2 := grown_k hgr2
  have hB2 : w2.heap[q]? = some (.cells #[.slice ao T.length cap] 49 (0, 0)) := by
    rw [hK2.block q hq (fun e => by have := (hX q e).1; omega)]; exact HH.out
  have d0 : w2.cell? ⟨q, 0, none⟩ = some (.slice ao T.length cap) := by simp [World.cell?, hB2]
  have f0 : w2.frozen? ⟨q, 0, none⟩ = false := by simp [World.frozen?, hB2]
  have hS : Kept (· = q) w2 (w2.setCell ⟨q, 0, none⟩ (.slice (some ⟨g2, 0, none⟩) (T.length + N.length) cap2)) := (Kept.refl _ w2).setB 0 _
  have HX := hide (And.intro (show RowAt (w2.setCell ⟨q, 0, none⟩ (.slice (some ⟨g2, 0, none⟩) (T.length + N.length) cap2)) q (T ++ N) from
    ⟨.slice (some ⟨g2, 0, none⟩) (T.length + N.length) cap2, by simp [World.setCell, Array.getElem?_modify, hB2], by
      have := own_kept hown2 hS (fun k hk e => by omega)
      rw [List.length_append, show tokCells (T ++ N) = tokCells T ++ tokCells N by simp [tokCells]]
      exact this⟩)
    (show KT q w (w2.setCell ⟨q, 0, none⟩ (.slice (some ⟨g2, 0, none⟩) (T.length + N.length) cap2)) from
      (hK2.mono (Y := fun k => k = q ∨ (q < k ∧ TB w k)) (fun k _ e => .inr (hX k e))).trans hS (fun k _ e => .inl e)))
  clear hX hK2 hB2 hS hgr2 hown2 hown hn
  go_wp2_with fail
  go_end0
  exact ⟨rfl, HX.out⟩

end Go.Proofs.YtkkjchfhgjfclaaGreatDoor

/- New tokens put into a row. -/
namespace Go.Proofs.YtkkjchfhgjfclaaGreatDoor
open Go.RowKit

/-- tokens in a new block are put -/
theorem put_new (w : World) (q : Nat) (T N : List Tok) (h : RowAt w q T) (h0 : 0 < N.length) (hb : T.length + N.length ≤ 1000000) :
    Calls Tryz.prog 42 #[.pointer (some ⟨q, 0, none⟩), .slice (some ⟨w.heap.size, 0, none⟩) N.length N.length] (w.alloc (.cells (tokCells N).toArray 58)) fun e w' => e = .returned (.tuple #[]) ∧ RowAt w' q (T ++ N) ∧ KT q w w' := by
  have kA : Same w (w.alloc (.cells (tokCells N).toArray 58)) := (Kept.refl _ w).alloc _
  refine (put_any _ q w.heap.size T N N.length (h.same kA) (new_toks w N) h0 hb).mono ?_
  rintro e w' ⟨h1, h2, h3⟩
  exact ⟨h1, h2, (KT.of_same kA).trans h3⟩

theorem put_1 (w : World) (q : Nat) (T : List Tok) (k1 n1 : Int) (s1 : List UInt8) (h : RowAt w q T) (hb : T.length ≤ 900000) :
    Calls Tryz.prog 42 #[.pointer (some ⟨q, 0, none⟩), .slice (some ⟨w.heap.size, 0, none⟩) 1 1] (w.alloc (.cells #[.int .i64 k1, .string ⟨s1.toArray⟩, .int .i64 n1] 58)) fun e w' => e = .returned (.tuple #[]) ∧ RowAt w' q (T ++ [⟨k1, s1, n1⟩]) ∧ KT q w w' :=
  put_new w q T [⟨k1, s1, n1⟩] h (by simp) (by simp; omega)

theorem put_2 (w : World) (q : Nat) (T : List Tok) (k1 n1 k2 n2 : Int) (s1 s2 : List UInt8) (h : RowAt w q T) (hb : T.length ≤ 900000) :
    Calls Tryz.prog 42 #[.pointer (some ⟨q, 0, none⟩), .slice (some ⟨w.heap.size, 0, none⟩) 2 2] (w.alloc (.cells #[.int .i64 k1, .string ⟨s1.toArray⟩, .int .i64 n1, .int .i64 k2, .string ⟨s2.toArray⟩, .int .i64 n2] 58)) fun e w' => e = .returned (.tuple #[]) ∧ RowAt w' q (T ++ [⟨k1, s1, n1⟩, ⟨k2, s2, n2⟩]) ∧ KT q w w' :=
  put_new w q T [⟨k1, s1, n1⟩, ⟨k2, s2, n2⟩] h (by simp) (by simp; omega)

theorem put_3 (w : World) (q : Nat) (T : List Tok) (k1 n1 k2 n2 k3 n3 : Int) (s1 s2 s3 : List UInt8) (h : RowAt w q T) (hb : T.length ≤ 900000) :
    Calls Tryz.prog 42 #[.pointer (some ⟨q, 0, none⟩), .slice (some ⟨w.heap.size, 0, none⟩) 3 3] (w.alloc (.cells #[.int .i64 k1, .string ⟨s1.toArray⟩, .int .i64 n1, .int .i64 k2, .string ⟨s2.toArray⟩, .int .i64 n2, .int .i64 k3, .string ⟨s3.toArray⟩, .int .i64 n3] 58)) fun e w' => e = .returned (.tuple #[]) ∧ RowAt w' q (T ++ [⟨k1, s1, n1⟩, ⟨k2, s2, n2⟩, ⟨k3, s3, n3⟩]) ∧ KT q w w' :=
  put_new w q T [⟨k1, s1, n1⟩, ⟨k2, s2, n2⟩, ⟨k3, s3, n3⟩] h (by simp) (by simp; omega)

end Go.Proofs.YtkkjchfhgjfclaaGreatDoor

/- query.putArgs. -/
namespace Go.Proofs.YtkkjchfhgjfclaaGreatDoor
open Go.RowKit

theorem ArgSlP.kt {P : Nat → Prop} {q : Nat} {w w' : World} {v : Value} {l : List ArgT} (h : ArgSlP P w v l) (hk : KT q w w') (hp : ∀ b, P b → b < q) : ArgSlP P w' v l :=
  h.keep hk (fun b _ hb => ⟨fun e => by have := hp b hb; rcases e with e | e <;> omega, hb⟩)
theorem SelSlP.kt {P : Nat → Prop} {q : Nat} {w w' : World} {v : Value} {l : Sels} (h : SelSlP P w v l) (hk : KT q w w') (hp : ∀ b, P b → b < q) : SelSlP P w' v l :=
  h.keep hk (fun b _ hb => ⟨fun e => by have := hp b hb; rcases e with e | e <;> omega, hb⟩)
theorem ArgSlP.at {P : Nat → Prop} {w : World} {ao : Option Addr} {n cap : Nat} {l : List ArgT} (h : ArgSlP P w (.slice ao n cap) l) (j : Nat) (hj : j < l.length) :
    ∃ b off, ao = some ⟨b, off, none⟩ ∧ P b ∧ w.cell? ⟨b, off + j * 4, none⟩ = some (.string ⟨l[j].name.toArray⟩) ∧ w.cell? ⟨b, off + j * 4 + 1, none⟩ = some (.bool l[j].isText) ∧ w.cell? ⟨b, off + j * 4 + 2, none⟩ = some (.string ⟨l[j].text.toArray⟩) ∧ w.cell? ⟨b, off + j * 4 + 3, none⟩ = some (.int .i64 l[j].n) := by
  obtain ⟨ao', cap', hv, _, hc⟩ := h
  cases hv
  exact hc j l[j] (List.getElem?_eq_getElem hj)

theorem argToks_app (a b : List ArgT) : argToks (a ++ b) = argToks a ++ argToks b := by
  induction a with
  | nil => rfl
  | cons f a ih => simp [argToks, ih]

theorem vtok (w : World) (a : ArgT) (kv : Int) (h : kv = (valueT a).k) : Calls Tryz.prog 79 #[.agg #[.string ⟨a.name.toArray⟩, .bool a.isText, .string ⟨a.text.toArray⟩, .int .i64 a.n]] w fun e w' => e = .returned (.agg #[.int .i64 kv, .string ⟨a.text.toArray⟩, .int .i64 a.n]) ∧ Same w w' := by
  refine (valueToken_any w _ _ a.isText a.n).mono ?_
  rintro e w' ⟨k, h1, h2, h3⟩
  rw [h1, h2, h]
  refine ⟨?_, h3⟩
  unfold valueT
  cases a.isText <;> rfl

def argB (w : World) (g : Nat) (a : ArgT) : Prop := w.heap[g]? = some (.cells #[.string ⟨a.name.toArray⟩, .bool a.isText, .string ⟨a.text.toArray⟩, .int .i64 a.n] 63 (0, 0))
theorem argB.cells {w w' : World} {g : Nat} {a : ArgT} (h : argB w g a) (hk : Same w w') : w'.cell? ⟨g, 0, none⟩ = some (.string ⟨a.name.toArray⟩) ∧ w'.cell? ⟨g, 1, none⟩ = some (.bool a.isText) ∧ w'.cell? ⟨g, 2, none⟩ = some (.string ⟨a.text.toArray⟩) ∧ w'.cell? ⟨g, 3, none⟩ = some (.int .i64 a.n) := by
  have e := blk_kept' h hk
  simp [World.cell?, e]

set_option maxRecDepth 20000 in
set_option maxHeartbeats 3200000 in
theorem putArgs_any (w : World) (q : Nat) (T : List Tok) (l : List ArgT) (ao : Option Addr) (cap : Nat) (h : RowAt w q T) (ha : ArgSlP (· < q) w (.slice ao l.length cap) l) (hb : T.length + 3 * l.length + 2 ≤ 900000) :
    Calls Tryz.prog 68 #[.pointer (some ⟨q, 0, none⟩), .slice ao l.length cap] w fun e w' => e = .returned (.tuple #[]) ∧ RowAt w' q (T ++ (signT [40] :: (argToks l ++ [signT [41]]))) ∧ KT q w w' := by
  have HR := hide h
  have HA := hide ha
  have hll : l.length ≤ 900000 := by omega
  clear h ha
  go_enter Tryz.func68, Tryz.ntmps68
  go_wp2_with fail
  refine (tkSign_any _ _).mono ?_
  rintro e w1 ⟨rfl, hK1⟩
  have HP := hide (put_1 w1 q T 4 0 [40] (HR.out.same hK1) (by omega))
  go_wp2_with fail
  refine HP.out.mono ?_
  rintro e w2 ⟨rfl, hR2, hK2⟩
  have HR2 := hide hR2
  have HK2 := hide ((KT.of_same hK1).trans hK2)
  clear hR2 hK1 hK2 HP
  go_wp2_with fail
  go_loopg [12] l.length (fun g k wr => ∃ j : Nat, j + g = l.length ∧ k = .int .i64 j ∧ Hid (RowAt wr q (T ++ [⟨4, [40], 0⟩] ++ argToks (l.take j))) ∧ Hid (KT q w wr))
  case atStart => exact ⟨0, by omega, rfl, by rw [Hid]; simpa [argToks] using HR2.out, HK2⟩
  case round =>
    obtain ⟨j, hj, rfl, HRr, HKr⟩ := hrel
    have hlenT : (T ++ ([⟨4, [40], 0⟩] : List Tok) ++ argToks (l.take j)).length ≤ 900000 := by
      have h1 := argToks_len (l.take j)
      have h2 : (l.take j).length ≤ l.length := by rw [List.length_take]; omega
      simp only [List.length_append, List.length_cons, List.length_nil]
      omega
    have HLT := hide hlenT
    clear hlenT
    by_cases hlt : j < l.length
    · obtain ⟨b, off, rfl, hbq, x0, x1, x2, x3⟩ := (HA.out.kt HKr.out (fun _ h => h)).at j hlt
      have HT := hide (show argToks (l.take (j + 1)) = argToks (l.take j) ++ [nameT l[j].name, signT [58], valueT l[j]] by
        rw [List.take_succ_eq_append_getElem hlt, argToks_app]; simp [argToks])
      obtain ⟨a, hae⟩ : ∃ a, a = l[j] := ⟨_, rfl⟩
      rw [← hae] at x0 x1 x2 x3 HT
      clear hae
      have hqr := HRr.out.lt
      obtain ⟨kv, hkv⟩ : ∃ kv, kv = (valueT a).k := ⟨_, rfl⟩
      have HKV := hide hkv
      clear hkv
      obtain ⟨w0, hw0⟩ : ∃ w0, w0 = wr.alloc (.cells #[.string ⟨a.name.toArray⟩, .bool a.isText, .string ⟨a.text.toArray⟩, .int .i64 a.n] 63) := ⟨_, rfl⟩
      have HK0 := hide (show Same wr w0 by rw [hw0]; exact (Kept.refl _ wr).alloc _)
      have HB := hide (show argB w0 wr.heap.size a by rw [hw0]; exact heap_alloc_new wr _)
      have HQ := hide (fun w1 (hK1 : Same w0 w1) => put_3 w1 q _ 1 0 4 0 kv a.n a.name [58] a.text (HRr.out.same (tra HK0.out hK1)) HLT.out)
      have hKc : Same w0 w0.drew := (Kept.refl _ _).drew
      obtain ⟨c0, c1, c2, c3⟩ := HB.out.cells (Kept.refl _ w0)
      have c0d : ∀ n, (w0.drewN n).cell? ⟨wr.heap.size, 0, none⟩ = some (.string ⟨a.name.toArray⟩) := fun n => c0
      have c1d : ∀ n, (w0.drewN n).cell? ⟨wr.heap.size, 1, none⟩ = some (.bool a.isText) := fun n => c1
      have c2d : ∀ n, (w0.drewN n).cell? ⟨wr.heap.size, 2, none⟩ = some (.string ⟨a.text.toArray⟩) := fun n => c2
      have c3d : ∀ n, (w0.drewN n).cell? ⟨wr.heap.size, 3, none⟩ = some (.int .i64 a.n) := fun n => c3
      have hws : wr.heap.size < w0.heap.size := by rw [hw0]; simp
      go_upto_region 4 with fail
      rw [← hw0]
      clear hw0
      go_region_with (first
        | (go_at_call 43; refine (tkSign_any _ _).mono ?_; rintro e wn ⟨rfl, hKn⟩; have hKc := tra (by exact hKc) hKn; obtain ⟨c0, c1, c2, c3⟩ := HB.out.cells hKc; clear hKn)
        | (go_at_call 67; refine (tkName_any _ _).mono ?_; rintro e wn ⟨rfl, hKn⟩; have hKc := tra (by exact hKc) hKn; obtain ⟨c0, c1, c2, c3⟩ := HB.out.cells hKc; clear hKn)
        | (go_at_call 79; refine (vtok _ a kv HKV.out).mono ?_; rintro e wn ⟨rfl, hKn⟩; have hKc := tra (by exact hKc) hKn; obtain ⟨c0, c1, c2, c3⟩ := HB.out.cells hKc; clear hKn)
        | (go_at_call 42; refine (HQ.out _ (by exact hKc)).mono ?_; rintro e wl ⟨rfl, hRl, hKl⟩))
      all_goals
        have HRl := hide hRl
        have HKl := hide (HKr.out.trans ((KT.of_same (tra HK0.out (by assumption))).trans hKl))
        clear hRl hKl
        go_wp2_with fail
        go_roundg (gk - 1)
        case measure => omega
        case rel =>
          refine ⟨j + 1, by omega, by go_num, ?_, HKl⟩
          have h1 := HRl.out
          rw [HKV.out] at h1
          rw [Hid, HT.out, ← List.append_assoc]
          exact h1
    · have HT := hide (show l.take j = l from List.take_of_length_le (by omega))
      go_wp2_with fail
      refine (tkSign_any _ _).mono ?_
      rintro e w3 ⟨rfl, hK3⟩
      have HP := hide (put_1 w3 q _ 4 0 [41] (HRr.out.same hK3) HLT.out)
      go_wp2_with fail
      refine HP.out.mono ?_
      rintro e w4 ⟨rfl, hR4, hK4⟩
      have HR4 := hide hR4
      clear hR4
      go_wp2_with fail
      go_end0
      refine ⟨rfl, ?_, HKr.out.trans ((KT.of_same hK3).trans hK4)⟩
      have := HR4.out
      rw [HT.out] at this
      simpa [signT] using this

end Go.Proofs.YtkkjchfhgjfclaaGreatDoor
