/- Slices of tokens in memory; halyardref.SameTokens. -/
import Derived.Test.YthbnhnnafkkpkaaDoorChecked
import Derived.Test.YthbnhnnafkkpkaaDoorBase
import Derived.Test.YthbnhnnafkkpkaaDoorLexSpec
import Derived.Laws.StructEq
namespace Go.Proofs.YthbnhnnafkkpkaaDoor
open Go.RowKit

/-- v is a slice of the tokens l, in w -/
def TokSl (w : World) (v : Value) (l : List Tok) : Prop :=
  ∃ ao cap, v = .slice ao l.length cap ∧ l.length ≤ 9000000000000 ∧ ∀ i t, l[i]? = some t → ∃ b off, ao = some ⟨b, off, none⟩ ∧
    w.cell? ⟨b, off + i * 3, none⟩ = some (.int .i64 t.k) ∧ w.cell? ⟨b, off + i * 3 + 1, none⟩ = some (.string ⟨t.s.toArray⟩) ∧ w.cell? ⟨b, off + i * 3 + 2, none⟩ = some (.int .i64 t.n)

def tokEq (a b : Tok) : Bool := decide (a.k = b.k) && decide (a.s = b.s) && decide (a.n = b.n)

theorem neq_tok (x y : Tok) (w : World) :
    (binOp .neq 39 (.agg #[.int .i64 x.k, .string ⟨x.s.toArray⟩, .int .i64 x.n]) (.agg #[.int .i64 y.k, .string ⟨y.s.toArray⟩, .int .i64 y.n])).run Tryd.prog w = .ok (.bool (!tokEq x y)) w := by
  rw [run_neq_struct, run_equalIn_agg _ _ _ _ _ (by kernel_rfl) (by kernel_rfl)]
  rw [show (Tryd.prog.fieldsOf 39).toList = [{ name := "Kind", type := 3, offset := 0, embedded := false, tag := "", pkgPath := "", byteOffset := 0 }, { name := "Text", type := 9, offset := 1, embedded := false, tag := "", pkgPath := "", byteOffset := 8 }, { name := "N", type := 3, offset := 2, embedded := false, tag := "", pkgPath := "", byteOffset := 24 }] from by kernel_rfl]
  simp [Op.eqFields, go_sem]
  unfold tokEq
  by_cases h1 : x.k = y.k <;> by_cases h2 : x.s = y.s <;> by_cases h3 : x.n = y.n <;> simp [h1, h2, h3]


theorem tokEq_iff (a b : Tok) : tokEq a b = true ↔ a = b := by
  unfold tokEq
  cases a; cases b
  simp [and_assoc]

def sameT : List Tok → List Tok → Bool
  | [], [] => true
  | x :: r, y :: r' => tokEq x y && sameT r r'
  | _, _ => false
theorem sameT_iff (a : List Tok) : ∀ b, sameT a b = true ↔ a = b := by
  induction a with
  | nil => intro b; cases b <;> simp [sameT]
  | cons x r ih => intro b; cases b with
    | nil => simp [sameT]
    | cons y r' => simp [sameT, ih, tokEq_iff]
theorem sameT_false {a b : List Tok} (h : a ≠ b) : sameT a b = false := by
  cases hx : sameT a b with
  | false => rfl
  | true => exact absurd ((sameT_iff a b).1 hx) h

theorem TokSl.at {w : World} {ao : Option Addr} {n cap : Nat} {l : List Tok} (h : TokSl w (.slice ao n cap) l) (i : Nat) (hi : i < l.length) : ∃ b off, ao = some ⟨b, off, none⟩ ∧
    w.cell? ⟨b, off + i * 3, none⟩ = some (.int .i64 l[i].k) ∧ w.cell? ⟨b, off + i * 3 + 1, none⟩ = some (.string ⟨l[i].s.toArray⟩) ∧ w.cell? ⟨b, off + i * 3 + 2, none⟩ = some (.int .i64 l[i].n) := by
  obtain ⟨ao', cap', hv, _, h3⟩ := h
  cases hv
  exact h3 i l[i] (List.getElem?_eq_getElem hi)

set_option maxHeartbeats 800000 in
theorem sameTokens_any (w : World) (va vb : Value) (a b : List Tok) (ha : TokSl w va a) (hb : TokSl w vb b) :
    Calls Tryd.prog 9 #[va, vb] w fun e w' => e = .returned (.bool (sameT a b)) ∧ ∃ n, w' = w.drewN n := by
  obtain ⟨aa, ca, rfl, hla, hca⟩ := id ha
  obtain ⟨ab, cb, rfl, hlb, hcb⟩ := id hb
  clear hca hcb
  by_cases hne : a.length = b.length
  · have hne' : ((a.length : Int) != (b.length : Int)) = false := by simp; omega
    have hl1 : a.length ≤ b.length := by omega
    have hl2 : b.length ≤ a.length := by omega
    clear hne
    go_enter Tryd.func9, Tryd.ntmps9
    go_wp2_with fail
    go_loopg [5] a.length (fun g i wr => ∃ k n : Nat, k + g = a.length ∧ i = .int .i64 k ∧ wr = w.drewN n ∧ Hid (a.take k = b.take k))
    case atStart => exact ⟨0, 0, by omega, rfl, rfl, rfl⟩
    case round =>
      obtain ⟨k, n, hk, rfl, rfl, HE⟩ := hrel
      by_cases hlt : k < a.length
      · obtain ⟨b1, o1, e1, p0, p1, p2⟩ := ha.at k hlt
        obtain ⟨b2, o2, e2, q0, q1, q2⟩ := hb.at k (by omega)
        subst e1 e2
        have hkb : k < b.length := by omega
        cases he : tokEq a[k] b[k] with
        | true =>
          have hnq := neq_tok a[k] b[k]
          rw [he] at hnq
          have HT := hide ((tokEq_iff _ _).1 he)
          clear he
          go_wp2_with fail
          go_quiet (fail)
          go_wp2_with fail
          go_roundg (gk - 1)
          case measure => omega
          case rel => exact ⟨k + 1, _, by omega, by go_num, rfl, by show a.take (k + 1) = b.take (k + 1); rw [List.take_succ_eq_append_getElem hlt, List.take_succ_eq_append_getElem hkb, HE.out, HT.out]⟩
        | false =>
          have hnq := neq_tok a[k] b[k]
          rw [he] at hnq
          have HT := hide he
          clear he
          go_wp2_with fail
          go_quiet (fail)
          go_wp2_with fail
          go_ret
          refine ⟨ret_bool (sameT_false ?_).symm, n + nq, by rw [World.drewN_drewN]⟩
          intro e
          subst e
          have := (tokEq_iff a[k] a[k]).2 rfl
          rw [HT.out] at this
          cases this
      · go_wp2_with fail
        go_ret
        refine ⟨ret_bool ?_, _, rfl⟩
        have e1 : a.take k = a := List.take_of_length_le (by omega)
        have e2 : b.take k = b := List.take_of_length_le (by omega)
        have := HE.out
        rw [e1, e2] at this
        exact ((sameT_iff a b).2 this).symm
  · have hne' : ((a.length : Int) != (b.length : Int)) = true := by simp; omega
    have HF := hide (sameT_false (a := a) (b := b) (fun e => hne (by rw [e])))
    go_enter Tryd.func9, Tryd.ntmps9
    go_wp2_with fail
    go_ret
    exact ⟨ret_bool HF.out.symm, 0, rfl⟩


theorem TokSl.keep {w w' : World} {v : Value} {l : List Tok} (h : TokSl w v l) {X : Nat → Prop} (hk : Kept X w w') (hX : ∀ k, X k → w.heap.size ≤ k) : TokSl w' v l := by
  obtain ⟨ao, cap, hv, hl, hc⟩ := h
  refine ⟨ao, cap, hv, hl, fun i t ht => ?_⟩
  obtain ⟨b, off, ha, h0, h1, h2⟩ := hc i t ht
  have hb : b < w.heap.size := World.block_lt_of_cell? w _ h0
  have hx : ¬ X b := fun x => by have := hX b x; omega
  exact ⟨b, off, ha, hk.cell h0 hx, hk.cell h1 hx, hk.cell h2 hx⟩

theorem TokSl.same {w w' : World} {v : Value} {l : List Tok} (h : TokSl w v l) (hk : Same w w') : TokSl w' v l := h.keep hk (fun _ f => f.elim)

theorem TokSl.nil (w : World) : TokSl w (.slice none 0 0) [] := ⟨none, 0, rfl, by simp, fun i t h => by simp at h⟩

end Go.Proofs.YthbnhnnafkkpkaaDoor
