import Derived.Test.YtkkjchfhgjfclacValidtellsupto16
import Derived.Test.YtkkjchfhgjfclacValidtellsupto20
import Derived.Test.YtkkjchfhgjfclacChecked
import Derived.Test.YtkkjchfhgjfclacValidtellsupto07
import Derived.Test.YtkkjchfhgjfclacValidtellsupto08
/- The laws' own schema. -/
namespace Go.Proofs.Ytkkjchfhgjfclac
open Go.RowKit

def tyA : TypeT := ⟨[65], [⟨[110], 1, []⟩, ⟨[116], 2, []⟩, ⟨[98], 3, [66]⟩, ⟨[108], 4, [65]⟩]⟩
def tyB : TypeT := ⟨[66], [⟨[109], 1, []⟩]⟩
def types2 : List TypeT := [tyA, tyB]

/-- fields in a new block -/
theorem FldSl.new (w : World) (l : List FieldT) (hl : l.length ≤ 1000) (x : Array Value) (hx : x.toList = l.flatMap (fun f => [.string ⟨f.name.toArray⟩, .int .i64 f.kind, .string ⟨f.of.toArray⟩])) (w' : World) (hk : Same (w.alloc (.cells x 74)) w') (c : Nat) (hc : l.length ≤ c) :
    FldSl (fun b => b = w.heap.size) w' (.slice (some ⟨w.heap.size, 0, none⟩) l.length c) l := by
  refine ⟨_, c, rfl, ⟨by unfold maxLen; omega, hc⟩, fun i f hf => ⟨w.heap.size, 0, rfl, rfl, ?_⟩⟩
  have key : ∀ j u, x.toList[j]? = some u → w'.cell? ⟨w.heap.size, j, none⟩ = some u := by
    intro j u hj
    refine hk.cell ?_ (fun f => f)
    rw [World.cell?_alloc_new]
    simpa using hj
  have hg : ∀ (l : List FieldT) (i : Nat) (f : FieldT), l[i]? = some f → (l.flatMap (fun f => [Value.string ⟨f.name.toArray⟩, .int .i64 f.kind, .string ⟨f.of.toArray⟩]))[i * 3]? = some (.string ⟨f.name.toArray⟩) ∧ (l.flatMap (fun f => [Value.string ⟨f.name.toArray⟩, .int .i64 f.kind, .string ⟨f.of.toArray⟩]))[i * 3 + 1]? = some (.int .i64 f.kind) ∧ (l.flatMap (fun f => [Value.string ⟨f.name.toArray⟩, .int .i64 f.kind, .string ⟨f.of.toArray⟩]))[i * 3 + 2]? = some (.string ⟨f.of.toArray⟩) := by
    intro l i f hf
    have := fldCells_get l i f hf
    rw [show i * 3 = 3 * i from by omega]
    exact this
  obtain ⟨h1, h2, h3⟩ := hg l i f hf
  rw [← hx] at h1 h2 h3
  rw [Nat.zero_add]
  exact ⟨key _ _ h1, key _ _ h2, key _ _ h3⟩

theorem types_any (w : World) :
    Calls Try.prog 29 #[] w fun e w' => ∃ b, e = .returned (.slice (some ⟨b, 0, none⟩) 2 2) ∧ TypSl (fun b => w.heap.size ≤ b) w' (.slice (some ⟨b, 0, none⟩) 2 2) types2 ∧ Same w w' := by
  go_enter Try.func29, Try.ntmps29
  go_wp2
  go_ret
  obtain ⟨w1, hw1⟩ : ∃ w1, w1 = w.alloc (.cells #[.string ⟨#[110]⟩, .int .i64 1, .string ⟨#[]⟩, .string ⟨#[116]⟩, .int .i64 2, .string ⟨#[]⟩, .string ⟨#[98]⟩, .int .i64 3, .string ⟨#[66]⟩, .string ⟨#[108]⟩, .int .i64 4, .string ⟨#[65]⟩] 74) := ⟨_, rfl⟩
  obtain ⟨w2, hw2⟩ : ∃ w2, w2 = w1.alloc (.cells #[.string ⟨#[109]⟩, .int .i64 1, .string ⟨#[]⟩] 74) := ⟨_, rfl⟩
  obtain ⟨w3, hw3⟩ : ∃ w3, w3 = w2.alloc (.cells #[.string ⟨#[65]⟩, .slice (some ⟨w.heap.size, 0, none⟩) 4 4, .string ⟨#[66]⟩, .slice (some ⟨w1.heap.size, 0, none⟩) 1 1] 79) := ⟨_, rfl⟩
  have k12 : Same w1 w2 := by rw [hw2]; exact (Kept.refl _ _).alloc _
  have k23 : Same w2 w3 := by rw [hw3]; exact (Kept.refl _ _).alloc _
  have k01 : Same w w1 := by rw [hw1]; exact (Kept.refl _ _).alloc _
  have s1 : w1.heap.size = w.heap.size + 1 := by rw [hw1]; simp
  have s2 : w2.heap.size = w.heap.size + 2 := by rw [hw2, World.size_alloc, s1]
  have k13 : Same w1 w3 := k12.trans k23 (fun _ _ f => f.elim)
  have k13' := k13
  rw [hw1] at k13'
  have k23' := k23
  rw [hw2] at k23'
  have f1 := FldSl.new w tyA.fields (by decide) _ (by rfl) w3 k13' 4 (by decide)
  have f2 := FldSl.new w1 tyB.fields (by decide) _ (by rfl) w3 k23' 1 (by decide)
  have key : ∀ j u, [Value.string ⟨#[65]⟩, .slice (some ⟨w.heap.size, 0, none⟩) 4 4, .string ⟨#[66]⟩, .slice (some ⟨w1.heap.size, 0, none⟩) 1 1][j]? = some u → w3.cell? ⟨w2.heap.size, j, none⟩ = some u := by
    intro j u hj
    rw [hw3, World.cell?_alloc_new]
    simpa using hj
  refine ⟨w.heap.size + 2, ?_, ?_, ?_⟩
  · rfl
  · have : TypSl (fun b => w.heap.size ≤ b) w3 (.slice (some ⟨w2.heap.size, 0, none⟩) 2 2) types2 := by
      refine ⟨_, 2, rfl, ⟨by decide, by decide⟩, fun i t ht => ?_⟩
      match i, ht with
      | 0, ht =>
        simp [types2] at ht
        subst ht
        exact ⟨w2.heap.size, 0, _, rfl, by omega, key 0 _ rfl, key 1 _ rfl, f1.mono (fun b _ hb => by omega)⟩
      | 1, ht =>
        simp [types2] at ht
        subst ht
        exact ⟨w2.heap.size, 0, _, rfl, by omega, key 2 _ rfl, key 3 _ rfl, f2.mono (fun b _ hb => by omega)⟩
      | i + 2, ht => simp [types2] at ht
    rw [s2, hw3, hw2, hw1] at this
    simpa using this
  · have := k01.trans (k12.trans k23 (fun _ _ f => f.elim)) (fun _ _ f => f.elim)
    rw [hw3, hw2, hw1] at this
    simpa using this

theorem ck1 : checkSc types2 = 0 := by kernel_rfl

end Go.Proofs.Ytkkjchfhgjfclac

/- What must be in any case of chapter 6; the laws' own query. -/
namespace Go.Proofs.Ytkkjchfhgjfclac
open Go.RowKit

def lookK : Sels := .cons [] [105, 100] [] .nil (.cons [107] [108] [⟨[102, 105, 114, 115, 116], false, [], 1⟩] (.cons [] [110] [] .nil .nil) (.cons [] [98] [] (.cons [] [109] [] .nil .nil) .nil))
def look1 : Sels := .cons [] [65] [] lookK .nil
def look2 : Sels := .cons [] [65] [] .nil .nil
def lookP : List (List UInt8) := [[65], [65, 47, 105, 100], [65, 47, 107], [65, 47, 107, 47, 110], [65, 47, 98], [65, 47, 98, 47, 109]]

theorem cv1 : checkV types2 look1 = 0 := by kernel_rfl
theorem cv2 : checkV types2 look2 = 4 := by kernel_rfl
theorem pv1 : pathsV [] look1 = lookP := by kernel_rfl

theorem look_any (w : World) :
    Calls Try.prog 30 #[] w fun e w' => ∃ b, e = .returned (.slice (some ⟨b, 0, none⟩) 1 1) ∧ SelSl w' (.slice (some ⟨b, 0, none⟩) 1 1) look1 ∧ Same w w' := by
  go_enter Try.func30, Try.ntmps30
  go_wp2
  go_ret
  obtain ⟨w1, hw1⟩ : ∃ w1, w1 = w.alloc (.cells #[.string ⟨#[102, 105, 114, 115, 116]⟩, .bool false, .string ⟨#[]⟩, .int .i64 1] 101) := ⟨_, rfl⟩
  obtain ⟨w2, hw2⟩ : ∃ w2, w2 = w1.alloc (.cells #[.string ⟨#[]⟩, .string ⟨#[110]⟩, .slice none 0 0, .slice none 0 0] 62) := ⟨_, rfl⟩
  obtain ⟨w3, hw3⟩ : ∃ w3, w3 = w2.alloc (.cells #[.string ⟨#[]⟩, .string ⟨#[109]⟩, .slice none 0 0, .slice none 0 0] 62) := ⟨_, rfl⟩
  obtain ⟨w4, hw4⟩ : ∃ w4, w4 = w3.alloc (.cells #[.string ⟨#[]⟩, .string ⟨#[105, 100]⟩, .slice none 0 0, .slice none 0 0, .string ⟨#[107]⟩, .string ⟨#[108]⟩, .slice (some ⟨w.heap.size, 0, none⟩) 1 1, .slice (some ⟨w.heap.size + 1, 0, none⟩) 1 1, .string ⟨#[]⟩, .string ⟨#[98]⟩, .slice none 0 0, .slice (some ⟨w.heap.size + 1 + 1, 0, none⟩) 1 1] 62) := ⟨_, rfl⟩
  obtain ⟨w5, hw5⟩ : ∃ w5, w5 = w4.alloc (.cells #[.string ⟨#[]⟩, .string ⟨#[65]⟩, .slice none 0 0, .slice (some ⟨w.heap.size + 1 + 1 + 1, 0, none⟩) 3 3] 62) := ⟨_, rfl⟩
  have k01 : Same w w1 := by rw [hw1]; exact (Kept.refl _ _).alloc _
  have k12 : Same w1 w2 := by rw [hw2]; exact (Kept.refl _ _).alloc _
  have k23 : Same w2 w3 := by rw [hw3]; exact (Kept.refl _ _).alloc _
  have k34 : Same w3 w4 := by rw [hw4]; exact (Kept.refl _ _).alloc _
  have k45 : Same w4 w5 := by rw [hw5]; exact (Kept.refl _ _).alloc _
  have s1 : w1.heap.size = w.heap.size + 1 := by rw [hw1]; simp
  have s2 : w2.heap.size = w.heap.size + 1 + 1 := by rw [hw2, World.size_alloc, s1]
  have s3 : w3.heap.size = w.heap.size + 1 + 1 + 1 := by rw [hw3, World.size_alloc, s2]
  have s4 : w4.heap.size = w.heap.size + 1 + 1 + 1 + 1 := by rw [hw4, World.size_alloc, s3]
  have key1 : ∀ j u, [Value.string ⟨#[102, 105, 114, 115, 116]⟩, .bool false, .string ⟨#[]⟩, .int .i64 1][j]? = some u → w5.cell? ⟨w.heap.size, j, none⟩ = some u := by
    intro j u hj
    refine (tra (tra k12 k23) (tra k34 k45)).cell ?_ (fun f => f)
    rw [hw1, World.cell?_alloc_new]
    simpa using hj
  have key2 : ∀ j u, [Value.string ⟨#[]⟩, .string ⟨#[110]⟩, .slice none 0 0, .slice none 0 0][j]? = some u → w5.cell? ⟨w.heap.size + 1, j, none⟩ = some u := by
    intro j u hj
    refine (tra k23 (tra k34 k45)).cell ?_ (fun f => f)
    rw [hw2, ← s1, World.cell?_alloc_new]
    simpa using hj
  have key3 : ∀ j u, [Value.string ⟨#[]⟩, .string ⟨#[109]⟩, .slice none 0 0, .slice none 0 0][j]? = some u → w5.cell? ⟨w.heap.size + 1 + 1, j, none⟩ = some u := by
    intro j u hj
    refine (tra k34 k45).cell ?_ (fun f => f)
    rw [hw3, ← s2, World.cell?_alloc_new]
    simpa using hj
  have key4 : ∀ j u, [Value.string ⟨#[]⟩, .string ⟨#[105, 100]⟩, .slice none 0 0, .slice none 0 0, .string ⟨#[107]⟩, .string ⟨#[108]⟩, .slice (some ⟨w.heap.size, 0, none⟩) 1 1, .slice (some ⟨w.heap.size + 1, 0, none⟩) 1 1, .string ⟨#[]⟩, .string ⟨#[98]⟩, .slice none 0 0, .slice (some ⟨w.heap.size + 1 + 1, 0, none⟩) 1 1][j]? = some u → w5.cell? ⟨w.heap.size + 1 + 1 + 1, j, none⟩ = some u := by
    intro j u hj
    refine k45.cell ?_ (fun f => f)
    rw [hw4, ← s3, World.cell?_alloc_new]
    simpa using hj
  have key5 : ∀ j u, [Value.string ⟨#[]⟩, .string ⟨#[65]⟩, .slice none 0 0, .slice (some ⟨w.heap.size + 1 + 1 + 1, 0, none⟩) 3 3][j]? = some u → w5.cell? ⟨w.heap.size + 1 + 1 + 1 + 1, j, none⟩ = some u := by
    intro j u hj
    rw [hw5, ← s4, World.cell?_alloc_new]
    simpa using hj
  have nilA : ArgSl w5 (.slice none 0 0) [] := (ArgSlP.nil (fun _ => True) w5).plain
  have oneA : ArgSl w5 (.slice (some ⟨w.heap.size, 0, none⟩) 1 1) [⟨[102, 105, 114, 115, 116], false, [], 1⟩] := by
    refine ⟨_, 1, rfl, ⟨by decide, by decide⟩, fun i a ha => ?_⟩
    cases i with
    | zero =>
      simp at ha
      subst ha
      exact ⟨w.heap.size, 0, rfl, key1 0 _ rfl, key1 1 _ rfl, key1 2 _ rfl, key1 3 _ rfl⟩
    | succ i => simp at ha
  have hAll : SelSl w5 (.slice (some ⟨w.heap.size + 1 + 1 + 1 + 1, 0, none⟩) 1 1) look1 := by
    refine ⟨_, 1, rfl, ⟨by decide, by decide⟩, .inr ⟨_, 0, rfl, key5 0 _ rfl, key5 1 _ rfl, ⟨_, key5 2 _ rfl, nilA⟩, ⟨_, 3, key5 3 _ rfl, ⟨by decide, by decide⟩, .inr ⟨_, 0, rfl, ?_⟩⟩, trivial⟩⟩
    refine ⟨key4 0 _ rfl, key4 1 _ rfl, ⟨_, key4 2 _ rfl, nilA⟩, ⟨none, 0, key4 3 _ rfl, ⟨by decide, by decide⟩, .inl rfl⟩, key4 4 _ rfl, key4 5 _ rfl, ⟨_, key4 6 _ rfl, oneA⟩, ⟨_, 1, key4 7 _ rfl, ⟨by decide, by decide⟩, .inr ⟨_, 0, rfl, ?_⟩⟩, key4 8 _ rfl, key4 9 _ rfl, ⟨_, key4 10 _ rfl, nilA⟩, ⟨_, 1, key4 11 _ rfl, ⟨by decide, by decide⟩, .inr ⟨_, 0, rfl, ?_⟩⟩, trivial⟩
    · exact ⟨key2 0 _ rfl, key2 1 _ rfl, ⟨_, key2 2 _ rfl, nilA⟩, ⟨none, 0, key2 3 _ rfl, ⟨by decide, by decide⟩, .inl rfl⟩, trivial⟩
    · exact ⟨key3 0 _ rfl, key3 1 _ rfl, ⟨_, key3 2 _ rfl, nilA⟩, ⟨none, 0, key3 3 _ rfl, ⟨by decide, by decide⟩, .inl rfl⟩, trivial⟩
  have hK : Same w w5 := tra (tra k01 k12) (tra (tra k23 k34) k45)
  rw [hw5, hw4, hw3, hw2, hw1] at hAll hK
  exact ⟨w.heap.size + 1 + 1 + 1 + 1, rfl, hAll, hK⟩

theorem StrSl.at {P : Nat → Prop} {w : World} {ao : Option Addr} {n cap : Nat} {l : List (List UInt8)} (h : StrSl P w (.slice ao n cap) l) (i : Nat) (hi : i < l.length) : ∃ b off, ao = some ⟨b, off, none⟩ ∧ w.cell? ⟨b, off + i, none⟩ = some (.string ⟨l[i].toArray⟩) := by
  obtain ⟨ao', cap', hv, _, h3⟩ := h
  cases hv
  obtain ⟨b, off, ha, _, h⟩ := h3 i l[i] (List.getElem?_eq_getElem hi)
  exact ⟨b, off, ha, h⟩

set_option maxRecDepth 20000 in
set_option maxHeartbeats 1600000 in
theorem sameTexts_eq (w : World) (a1 a2 : Option Addr) (c1 c2 : Nat) (l : List (List UInt8)) (P Q : Nat → Prop) (h1 : StrSl P w (.slice a1 l.length c1) l) (h2 : StrSl Q w (.slice a2 l.length c2) l) (hl : l.length ≤ 1000) :
    Calls Try.prog 15 #[.slice a1 l.length c1, .slice a2 l.length c2] w fun e w' => e = .returned (.bool true) ∧ ∃ n, w' = w.drewN n := by
  have H1 := hide h1
  have H2 := hide h2
  clear h1 h2
  go_enter Try.func15, Try.ntmps15
  go_wp2_with fail
  go_loopg [5] l.length (fun g i wr => ∃ j n : Nat, j + g = l.length ∧ i = .int .i64 j ∧ wr = w.drewN n)
  case atStart => exact ⟨0, 0, by omega, rfl, rfl⟩
  case round =>
    obtain ⟨j, n, hj, rfl, rfl⟩ := hrel
    by_cases hlt : j < l.length
    · obtain ⟨b1, o1, e1, x1⟩ := H1.out.at j hlt
      obtain ⟨b2, o2, e2, x2⟩ := H2.out.at j hlt
      subst e1 e2
      go_wp2_with fail
      go_region
      go_wp2_with fail
      go_roundg (gk - 1)
      case measure => omega
      case rel => exact ⟨j + 1, _, by omega, by go_num, rfl⟩
    · go_wp2_with fail
      go_ret
      exact ⟨rfl, _, rfl⟩

/-- one select without anything of it, in a block of its own -/
theorem look2_new (w : World) : SelSl (w.alloc (.cells #[.string ⟨#[]⟩, .string ⟨#[65]⟩, .slice none 0 0, .slice none 0 0] 62)) (.slice (some ⟨w.heap.size, 0, none⟩) 1 1) look2 := by
  have key : ∀ j u, [Value.string ⟨#[]⟩, .string ⟨#[65]⟩, .slice none 0 0, .slice none 0 0][j]? = some u → (w.alloc (.cells #[.string ⟨#[]⟩, .string ⟨#[65]⟩, .slice none 0 0, .slice none 0 0] 62)).cell? ⟨w.heap.size, j, none⟩ = some u := by
    intro j u hj
    rw [World.cell?_alloc_new]
    simpa using hj
  exact ⟨_, 1, rfl, ⟨by decide, by decide⟩, .inr ⟨_, 0, rfl, key 0 _ rfl, key 1 _ rfl, ⟨_, key 2 _ rfl, (ArgSlP.nil (fun _ => True) _).plain⟩, ⟨none, 0, key 3 _ rfl, ⟨by decide, by decide⟩, .inl rfl⟩, trivial⟩⟩

theorem lookP_new (w : World) : StrSl anyB (w.alloc (.cells #[.string ⟨#[65]⟩, .string ⟨#[65, 47, 105, 100]⟩, .string ⟨#[65, 47, 107]⟩, .string ⟨#[65, 47, 107, 47, 110]⟩, .string ⟨#[65, 47, 98]⟩, .string ⟨#[65, 47, 98, 47, 109]⟩] 9)) (.slice (some ⟨w.heap.size, 0, none⟩) 6 6) lookP := by
  refine ⟨_, 6, rfl, ⟨by decide, by decide⟩, fun i s hs => ⟨w.heap.size, 0, rfl, trivial, ?_⟩⟩
  rw [World.cell?_alloc_new]
  match i, hs with
  | 0, hs => cases hs; rfl
  | 1, hs => cases hs; rfl
  | 2, hs => cases hs; rfl
  | 3, hs => cases hs; rfl
  | 4, hs => cases hs; rfl
  | 5, hs => cases hs; rfl
  | i + 6, hs => simp [lookP] at hs

set_option maxRecDepth 20000 in
set_option maxHeartbeats 3200000 in
theorem validBegun_any (w : World) : Calls Try.prog 13 #[] w fun e w' => e = .returned (.bool true) ∧ Same w w' := by
  have HT := hide types_any
  have HL := hide look_any
  go_enter Try.func13, Try.ntmps13
  go_wp2_with fail
  refine (HT.out _).mono ?_
  rintro e w1 ⟨b1, rfl, ht1, hK1⟩
  have HT1 := hide ht1.any
  clear ht1
  go_wp2_with fail
  refine (HL.out _).mono ?_
  rintro e w2 ⟨b2, rfl, hl2, hK2⟩
  have hp := vPaths_ok w2 (.slice (some ⟨b1, 0, none⟩) 2 2) (.slice (some ⟨b2, 0, none⟩) 1 1) types2 look1 (HT1.out.same hK2) hl2 cv1
  rw [pv1] at hp
  have HP := hide hp
  have HK2 := hide (tra hK1 hK2)
  clear hp hl2 hK1 hK2
  go_wp2_with fail
  refine HP.out.mono ?_
  rintro e w3 ⟨a3, c3, rfl, hs3, hK3⟩
  have HS3 := hide hs3
  have HK3 := hide (tra HK2.out hK3)
  clear hs3 hK3
  go_wp2_with fail
  refine (HT.out _).mono ?_
  rintro e w4 ⟨b4, rfl, ht4, hK4⟩
  have HT4 := hide ht4.any
  have HS4 := hide (HS3.out.same hK4)
  have HK4 := hide (tra HK3.out hK4)
  clear ht4 hK4
  go_wp2_with fail
  refine (HL.out _).mono ?_
  rintro e w5 ⟨b5, rfl, hl5, hK5⟩
  have hq := vQuery_any w5 (.slice (some ⟨b4, 0, none⟩) 2 2) (.slice (some ⟨b5, 0, none⟩) 1 1) types2 look1 (HT4.out.same hK5) hl5
  rw [cv1] at hq
  have HQ := hide hq
  have HS5 := hide (HS4.out.same hK5)
  have HK5 := hide (tra HK4.out hK5)
  clear hl5 hK5 hq
  go_wp2_with fail
  refine HQ.out.mono ?_
  rintro e w6 ⟨rfl, hK6⟩
  have HS6 := hide (HS5.out.same hK6)
  have HK6 := hide (tra HK5.out hK6)
  clear hK6
  go_wp2_with fail
  refine (HT.out _).mono ?_
  rintro e w7 ⟨b7, rfl, ht7, hK7⟩
  have hA : Same w7 (w7.alloc (.cells #[.string ⟨#[]⟩, .string ⟨#[65]⟩, .slice none 0 0, .slice none 0 0] 62)) := (Kept.refl _ w7).alloc _
  have hq := vQuery_any _ (.slice (some ⟨b7, 0, none⟩) 2 2) (.slice (some ⟨w7.heap.size, 0, none⟩) 1 1) types2 look2 (ht7.any.same hA) (look2_new w7)
  rw [cv2] at hq
  have HQ2 := hide hq
  have HS7 := hide (HS6.out.same (tra hK7 hA))
  have HK7 := hide (tra HK6.out (tra hK7 hA))
  clear hK7 ht7 hq hA
  go_wp2_with fail
  refine HQ2.out.mono ?_
  rintro e w8 ⟨rfl, hK8⟩
  have HS8 := hide (HS7.out.same hK8)
  have HK8 := hide (tra HK7.out hK8)
  clear hK8
  have hB : Same w8 (w8.alloc (.cells #[.string ⟨#[65]⟩, .string ⟨#[65, 47, 105, 100]⟩, .string ⟨#[65, 47, 107]⟩, .string ⟨#[65, 47, 107, 47, 110]⟩, .string ⟨#[65, 47, 98]⟩, .string ⟨#[65, 47, 98, 47, 109]⟩] 9)) := (Kept.refl _ w8).alloc _
  have HST := hide (sameTexts_eq _ a3 (some ⟨w8.heap.size, 0, none⟩) c3 6 lookP _ anyB (HS8.out.same hB) (lookP_new w8) (by decide))
  have HKB := hide (tra HK8.out hB)
  clear hB
  go_wp2_with fail
  refine HST.out.mono ?_
  rintro e w9 ⟨rfl, n9, rfl⟩
  go_wp2_with fail
  go_ret
  exact ⟨rfl, Kept.drewN HKB.out _⟩

end Go.Proofs.Ytkkjchfhgjfclac

/- The reference: between. -/
namespace Go.Proofs.Ytkkjchfhgjfclac
open Go.RowKit

theorem between_any (n a b : Int) (w : World) :
    Calls Try.prog 55 #[.int .i64 n, .int .i64 a, .int .i64 b] w fun e w' => e = .returned (.bool (decide (a ≤ n) && decide (n ≤ b))) ∧ w' = w := by
  go_enter Try.func55, Try.ntmps55
  go_wp2
  all_goals go_ret
  all_goals refine ⟨ret_bool ?_, rfl⟩
  all_goals (rw [Bool.eq_iff_iff]; simp; try omega)

theorem between_is (n a b : Int) (w : World) (t : Bool) (ht : (decide (a ≤ n) && decide (n ≤ b)) = t) :
    Calls Try.prog 55 #[.int .i64 n, .int .i64 a, .int .i64 b] w fun e w' => e = .returned (.bool t) ∧ w' = w := by
  subst ht; exact between_any n a b w

end Go.Proofs.Ytkkjchfhgjfclac

/- Walks of the document's own functions, on bytes, names and numbers. -/
namespace Go.Proofs.Ytkkjchfhgjfclac
open Go.RowKit

theorem rDigit_any (c : UInt8) (w : World) :
    Calls Try.prog 89 #[.int .u8 c.toNat] w fun e w' => e = .returned (.bool (dig c)) ∧ w' = w := by
  have h1 : (decide ((48 : Int) ≤ (c.toNat : Int)) && decide ((c.toNat : Int) ≤ 57)) = dig c := by rw [Bool.eq_iff_iff]; simp; omega
  have H1 := hide (between_is (c.toNat : Int) 48 57 w _ h1)
  clear h1
  have h256 : (c.toNat : Int) < 256 := by have := c.toNat_lt; omega
  go_enter Try.func89, Try.ntmps89
  go_wp2_with fail
  refine H1.out.mono ?_
  rintro e w' ⟨rfl, rfl⟩
  go_wp2_with fail
  go_ret
  exact ⟨rfl, rfl⟩

theorem rLetter_any (c : UInt8) (w : World) :
    Calls Try.prog 88 #[.int .u8 c.toNat] w fun e w' => e = .returned (.bool (beg c)) ∧ w' = w := by
  obtain ⟨t1, h1⟩ : ∃ t, (decide ((97 : Int) ≤ (c.toNat : Int)) && decide ((c.toNat : Int) ≤ 122)) = t := ⟨_, rfl⟩
  obtain ⟨t2, h2⟩ : ∃ t, (decide ((65 : Int) ≤ (c.toNat : Int)) && decide ((c.toNat : Int) ≤ 90)) = t := ⟨_, rfl⟩
  have key : beg c = (t1 || t2 || ((c.toNat : Int) == 95)) := by rw [← h1, ← h2, Bool.eq_iff_iff]; simp; omega
  have HK := hide key
  have H1 := hide (fun w => between_is (c.toNat : Int) 97 122 w _ h1)
  have H2 := hide (fun w => between_is (c.toNat : Int) 65 90 w _ h2)
  clear h1 h2 key
  have h256 : (c.toNat : Int) < 256 := by have := c.toNat_lt; omega
  cases t1
  · cases t2
    · go_enter Try.func88, Try.ntmps88
      go_wp2_with fail
      refine (H1.out _).mono ?_
      rintro e w' ⟨rfl, rfl⟩
      go_wp2_with fail
      refine (H2.out _).mono ?_
      rintro e w' ⟨rfl, rfl⟩
      go_wp2_with fail
      go_ret
      exact ⟨ret_bool (by rw [HK.out]; simp), rfl⟩
    · go_enter Try.func88, Try.ntmps88
      go_wp2_with fail
      refine (H1.out _).mono ?_
      rintro e w' ⟨rfl, rfl⟩
      go_wp2_with fail
      refine (H2.out _).mono ?_
      rintro e w' ⟨rfl, rfl⟩
      go_wp2_with fail
      go_ret
      exact ⟨ret_bool (by rw [HK.out]; simp), rfl⟩
  · go_enter Try.func88, Try.ntmps88
    go_wp2_with fail
    refine (H1.out _).mono ?_
    rintro e w' ⟨rfl, rfl⟩
    go_wp2_with fail
    go_ret
    exact ⟨ret_bool (by rw [HK.out]; simp), rfl⟩

end Go.Proofs.Ytkkjchfhgjfclac
