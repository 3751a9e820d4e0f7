import Derived.Test.YtkkjchfhgjfclaaGreatDoorQuerytellsupto02
import Derived.Test.YtkkjchfhgjfclaaGreatDoorQuerytellsupto08
import Derived.Test.YtkkjchfhgjfclaaGreatDoorChecked
import Derived.Test.YtkkjchfhgjfclaaGreatDoorQuerytellsupto01
import Derived.Defers
import Derived.Recover
/- Selects in memory, with the blocks that they lie in. -/
namespace Go.Proofs.YtkkjchfhgjfclaaGreatDoor
open Go.RowKit

def ArgSlP (P : Nat → Prop) (w : World) (v : Value) (l : List ArgT) : Prop :=
  ∃ ao cap, v = .slice ao l.length cap ∧ (l.length ≤ maxLen ∧ l.length ≤ cap) ∧ ∀ i a, l[i]? = some a → ∃ b off, ao = some ⟨b, off, none⟩ ∧ P b ∧
    w.cell? ⟨b, off + i * 4, none⟩ = some (.string ⟨a.name.toArray⟩) ∧ w.cell? ⟨b, off + i * 4 + 1, none⟩ = some (.bool a.isText) ∧ w.cell? ⟨b, off + i * 4 + 2, none⟩ = some (.string ⟨a.text.toArray⟩) ∧ w.cell? ⟨b, off + i * 4 + 3, none⟩ = some (.int .i64 a.n)

def SelAtP (P : Nat → Prop) (w : World) : Sels → Nat → Nat → Prop
  | .nil, _, _ => True
  | .cons al nm args k r, b, off =>
    w.cell? ⟨b, off, none⟩ = some (.string ⟨al.toArray⟩) ∧ w.cell? ⟨b, off + 1, none⟩ = some (.string ⟨nm.toArray⟩) ∧
    (∃ va, w.cell? ⟨b, off + 2, none⟩ = some va ∧ ArgSlP P w va args) ∧
    (∃ ao cap, w.cell? ⟨b, off + 3, none⟩ = some (.slice ao k.len cap) ∧ (k.len ≤ maxLen ∧ k.len ≤ cap) ∧ (k = .nil ∨ ∃ b' o', ao = some ⟨b', o', none⟩ ∧ P b' ∧ SelAtP P w k b' o')) ∧
    SelAtP P w r b (off + 4)

/-- v is a slice of the selects f, in w, in blocks of which P holds -/
def SelSlP (P : Nat → Prop) (w : World) (v : Value) (f : Sels) : Prop :=
  ∃ ao cap, v = .slice ao f.len cap ∧ (f.len ≤ maxLen ∧ f.len ≤ cap) ∧ (f = .nil ∨ ∃ b o, ao = some ⟨b, o, none⟩ ∧ P b ∧ SelAtP P w f b o)

theorem ArgSlP.plain {P : Nat → Prop} {w : World} {v : Value} {l : List ArgT} (h : ArgSlP P w v l) : ArgSl w v l := by
  obtain ⟨ao, cap, hv, hl, hc⟩ := h
  refine ⟨ao, cap, hv, hl, fun i a ha => ?_⟩
  obtain ⟨b, off, e, _, h⟩ := hc i a ha
  exact ⟨b, off, e, h⟩
theorem SelAtP.plain {P : Nat → Prop} {w : World} : ∀ (f : Sels) (b off : Nat), SelAtP P w f b off → SelAt w f b off := by
  intro f
  induction f with
  | nil => intro b off _; trivial
  | cons al nm args k r ihk ihr =>
    rintro b off ⟨h0, h1, ⟨va, h2, ha⟩, ⟨ao, cap, h3, hl, hs⟩, hr⟩
    refine ⟨h0, h1, ⟨va, h2, ha.plain⟩, ⟨ao, cap, h3, hl, ?_⟩, ihr _ _ hr⟩
    rcases hs with rfl | ⟨b', o', e, _, hs⟩
    · exact .inl rfl
    · exact .inr ⟨b', o', e, ihk _ _ hs⟩
theorem SelSlP.plain {P : Nat → Prop} {w : World} {v : Value} {f : Sels} (h : SelSlP P w v f) : SelSl w v f := by
  obtain ⟨ao, cap, hv, hl, hs⟩ := h
  refine ⟨ao, cap, hv, hl, ?_⟩
  rcases hs with rfl | ⟨b, o, e, _, hs⟩
  · exact .inl rfl
  · exact .inr ⟨b, o, e, SelAtP.plain _ _ _ hs⟩

theorem ArgSlP.keep {P X Q : Nat → Prop} {w w' : World} {v : Value} {l : List ArgT} (h : ArgSlP P w v l) (hk : Kept X w w') (hx : ∀ b, b < w.heap.size → P b → ¬ X b ∧ Q b) : ArgSlP Q w' v l := by
  obtain ⟨ao, cap, hv, hl, hc⟩ := h
  refine ⟨ao, cap, hv, hl, fun i t ht => ?_⟩
  obtain ⟨b, off, ha, hp, h0, h1, h2, h3⟩ := hc i t ht
  obtain ⟨x, q⟩ := hx b (World.block_lt_of_cell? w _ h0) hp
  exact ⟨b, off, ha, q, hk.cell h0 x, hk.cell h1 x, hk.cell h2 x, hk.cell h3 x⟩

theorem SelAtP.keep {P X Q : Nat → Prop} {w w' : World} (hk : Kept X w w') (hx : ∀ b, b < w.heap.size → P b → ¬ X b ∧ Q b) : ∀ (f : Sels) (b off : Nat), ¬ X b → SelAtP P w f b off → SelAtP Q w' f b off := by
  intro f
  induction f with
  | nil => intro b off _ _; trivial
  | cons al nm args k r ihk ihr =>
    rintro b off hb ⟨h0, h1, ⟨va, h2, ha⟩, ⟨ao, cap, h3, hl, hs⟩, hr⟩
    refine ⟨hk.cell h0 hb, hk.cell h1 hb, ⟨va, hk.cell h2 hb, ha.keep hk hx⟩, ⟨ao, cap, hk.cell h3 hb, hl, ?_⟩, ihr _ _ hb hr⟩
    rcases hs with rfl | ⟨b', o', e, hp, hs⟩
    · exact .inl rfl
    · by_cases hn : k = .nil
      · exact .inl hn
      · have hlt : b' < w.heap.size := by
          cases k with
          | nil => exact absurd rfl hn
          | cons a1 a2 a3 a4 a5 => exact World.block_lt_of_cell? w _ hs.1
        obtain ⟨x, q⟩ := hx b' hlt hp
        exact .inr ⟨b', o', e, q, ihk _ _ x hs⟩

theorem SelSlP.keep {P X Q : Nat → Prop} {w w' : World} {v : Value} {f : Sels} (h : SelSlP P w v f) (hk : Kept X w w') (hx : ∀ b, b < w.heap.size → P b → ¬ X b ∧ Q b) : SelSlP Q w' v f := by
  obtain ⟨ao, cap, hv, hl, hs⟩ := h
  refine ⟨ao, cap, hv, hl, ?_⟩
  rcases hs with rfl | ⟨b, o, e, hp, hs⟩
  · exact .inl rfl
  · by_cases hn : f = .nil
    · exact .inl hn
    · have hlt : b < w.heap.size := by
        cases f with
        | nil => exact absurd rfl hn
        | cons a1 a2 a3 a4 a5 => exact World.block_lt_of_cell? w _ hs.1
      obtain ⟨x, q⟩ := hx b hlt hp
      exact .inr ⟨b, o, e, q, SelAtP.keep hk hx _ _ _ x hs⟩

theorem SelSlP.nil (P : Nat → Prop) (w : World) : SelSlP P w (.slice none 0 0) .nil := ⟨none, 0, rfl, ⟨Nat.zero_le _, Nat.le_refl _⟩, .inl rfl⟩
theorem ArgSlP.nil (P : Nat → Prop) (w : World) : ArgSlP P w (.slice none 0 0) [] := ⟨none, 0, rfl, ⟨Nat.zero_le _, Nat.le_refl _⟩, fun i a h => by simp at h⟩

/-- selects as cells: each with where its arguments and its own selects lie -/
structure SelC where
  al : List UInt8
  nm : List UInt8
  args : List ArgT
  k : Sels
  va : Value
  vk : Value

def selC (p : SelC) : List Value := [.string ⟨p.al.toArray⟩, .string ⟨p.nm.toArray⟩, p.va, p.vk]
def selCells (l : List SelC) : List Value := l.flatMap selC
def selsOf : List SelC → Sels
  | [] => .nil
  | p :: r => .cons p.al p.nm p.args p.k (selsOf r)
theorem selsOf_len (l : List SelC) : (selsOf l).len = l.length := by
  induction l with
  | nil => rfl
  | cons p r ih => rw [selsOf, Sels.len, ih]; rfl
theorem selsOf_app (a b : List SelC) : selsOf (a ++ b) = appS (selsOf a) (selsOf b) := by
  induction a with
  | nil => rfl
  | cons p r ih => rw [List.cons_append, selsOf, selsOf, appS, ih]
theorem selCells_app (a b : List SelC) : selCells (a ++ b) = selCells a ++ selCells b := by simp [selCells]

/-- what a select's parts lie in -/
def partsOk (P : Nat → Prop) (w : World) (p : SelC) : Prop := ArgSlP P w p.va p.args ∧ SelSlP P w p.vk p.k

theorem selAt_cells {P : Nat → Prop} {w : World} {b : Nat} (l : List SelC) : ∀ o, (∀ j u, (selCells l)[j]? = some u → w.cell? ⟨b, o + j, none⟩ = some u) → (∀ p ∈ l, partsOk P w p) → SelAtP P w (selsOf l) b o := by
  induction l with
  | nil => intro o _ _; trivial
  | cons p r ih =>
    intro o hc hp
    have e : selCells (p :: r) = .string ⟨p.al.toArray⟩ :: .string ⟨p.nm.toArray⟩ :: p.va :: p.vk :: selCells r := by simp [selCells, selC]
    obtain ⟨ha, hk⟩ := hp p (by simp)
    obtain ⟨ak, ck, hvk, hl, hs⟩ := hk
    have c3 := hc 3 p.vk (by rw [e]; rfl)
    rw [hvk] at c3
    refine ⟨hc 0 _ (by rw [e]; rfl), hc 1 _ (by rw [e]; rfl), ⟨p.va, hc 2 _ (by rw [e]; rfl), ha⟩, ⟨ak, ck, c3, hl, hs⟩, ih (o + 4) (fun j u hj => ?_) (fun x hx => hp x (by simp [hx]))⟩
    have := hc (j + 4) u (by rw [e]; simpa using hj)
    rw [show o + 4 + j = o + (j + 4) from by omega]
    exact this

theorem SelSl.below {w : World} {v : Value} {f : Sels} (h : SelSl w v f) : SelSlP (· < w.heap.size) w v f := by
  have hArg : ∀ (v : Value) (l : List ArgT), ArgSl w v l → ArgSlP (· < w.heap.size) w v l := by
    rintro v l ⟨ao, cap, hv, hl, hc⟩
    refine ⟨ao, cap, hv, hl, fun i a ha => ?_⟩
    obtain ⟨b, off, e, h0, h1⟩ := hc i a ha
    exact ⟨b, off, e, World.block_lt_of_cell? w _ h0, h0, h1⟩
  have hAt : ∀ (f : Sels) (b off : Nat), SelAt w f b off → SelAtP (· < w.heap.size) w f b off := by
    intro f
    induction f with
    | nil => intro b off _; trivial
    | cons al nm args k r ihk ihr =>
      rintro b off ⟨h0, h1, ⟨va, h2, ha⟩, ⟨ao, cap, h3, hl, hs⟩, hr⟩
      refine ⟨h0, h1, ⟨va, h2, hArg _ _ ha⟩, ⟨ao, cap, h3, hl, ?_⟩, ihr _ _ hr⟩
      cases k with
      | nil => exact .inl rfl
      | cons a1 a2 a3 a4 a5 =>
        rcases hs with hs | ⟨b', o', e, hs⟩
        · cases hs
        · exact .inr ⟨b', o', e, World.block_lt_of_cell? w _ hs.1, ihk _ _ hs⟩
  obtain ⟨ao, cap, hv, hl, hs⟩ := h
  refine ⟨ao, cap, hv, hl, ?_⟩
  cases f with
  | nil => exact .inl rfl
  | cons a1 a2 a3 a4 a5 =>
    rcases hs with hs | ⟨b, o, e, hs⟩
    · cases hs
    · exact .inr ⟨b, o, e, World.block_lt_of_cell? w _ hs.1, hAt _ _ _ hs⟩

end Go.Proofs.YtkkjchfhgjfclaaGreatDoor

/- parse.Caught: what is panicked with is answered. -/
namespace Go.Proofs.YtkkjchfhgjfclaaGreatDoor
open Go.RowKit

/-- what is panicked with -/
abbrev fault (n : Int) : Ending := .panicked [{ v := .iface 72 (.int .i64 n), recovered := false }]

theorem catch_fault (p : Addr) (x n : Int) (older : List PanicEntry) (w : World) (hc : w.cell? p = some (.int .i64 x)) (hz : w.frozen? p = false) :
    CallsD Tryz.prog 38 #[.pointer (some p)] (.panicking ({ v := .iface 72 (.int .i64 n), recovered := false } :: older)) w fun e u' w' =>
      e = .returned (.tuple #[]) ∧ u' = .panicking ({ v := .iface 72 (.int .i64 n), recovered := true } :: older) ∧ w' = w.setCell p (.int .i64 n) := by
  have hta : ∀ w, (Instr.typeAssert (.iface 72 (.int .i64 n)) 20 72 true).run Tryz.prog w = .ok (.tuple #[.int .i64 n, .bool true]) w := fun _ => by kernel_rfl
  refine callsD_of_wpS Tryz.func38 rfl fun c₀ cs hu => ?_
  apply wpS_seq
  apply wpS_region
  simp [wpOpsS, go_sem, recoverD, hu, Tryz.ntmps38, Exit.thenS]
  refine wpS_of_wp ?_
  rw [show (#[Value.pointer (some p)] ++ ((Array.replicate 15 undef).setIfInBounds 3 (Value.iface 72 (.int .i64 n))).setIfInBounds 0 (Value.iface 72 (.int .i64 n))) = #[.pointer (some p), .iface 72 (.int .i64 n), undef, undef, .iface 72 (.int .i64 n), undef, undef, undef, undef, undef, undef, undef, undef, undef, undef, undef] from rfl]
  go_wp2_with fail
  simp [bodyPostS, results, Tryz.results38]


theorem catch_idle (p : Addr) (w : World) :
    CallsD Tryz.prog 38 #[.pointer (some p)] .returning w fun e u' w' => e = .returned (.tuple #[]) ∧ u' = .returning ∧ w' = w := by
  refine callsD_of_wpS Tryz.func38 rfl fun c₀ cs hu => ?_
  apply wpS_seq
  apply wpS_region
  simp [wpOpsS, go_sem, recoverD, hu, Tryz.ntmps38, Exit.thenS]
  refine wpS_of_wp ?_
  rw [show (#[Value.pointer (some p)] ++ ((Array.replicate 15 undef).setIfInBounds 3 Value.nilIface).setIfInBounds 0 Value.nilIface) = #[.pointer (some p), .nilIface, undef, undef, .nilIface, undef, undef, undef, undef, undef, undef, undef, undef, undef, undef, undef] from rfl]
  go_wp2_with fail
  cases c₀
  simp_all [bodyPostS, results, Tryz.results38]

/-- Caught, of a method value: what it gave up with, or 0. -/
theorem caught_method (f : FuncId) (x : Value) (w : World) (X : Nat → Prop) (hX : ∀ i, X i → i < w.heap.size) (R : World → Prop) (S : Int → World → Prop)
    (hcf : ∀ (args : Array Value) (w : World), (callFunc f args).run Tryz.prog w = .ok (.enter f args) w)
    (hW : Hid (Calls Tryz.prog f #[x] (w.alloc (.cells #[.int .i64 0] 24)) fun e w' =>
      (e = .returned (.tuple #[]) ∧ R w' ∧ Kept X (w.alloc (.cells #[.int .i64 0] 24)) w') ∨ (∃ n, e = fault n ∧ S n w' ∧ Kept X (w.alloc (.cells #[.int .i64 0] 24)) w'))) :
    Calls Tryz.prog 18 #[.func (.func f) #[x] #[]] w fun e w' =>
      (∃ w1, e = .returned (.int .i64 0) ∧ R w1 ∧ Kept X (w.alloc (.cells #[.int .i64 0] 24)) w1 ∧ w' = w1.setCell ⟨w.heap.size, 0, none⟩ (.int .i64 0))
      ∨ (∃ n w1, e = .returned (.int .i64 n) ∧ S n w1 ∧ Kept X (w.alloc (.cells #[.int .i64 0] 24)) w1 ∧ w' = w1.setCell ⟨w.heap.size, 0, none⟩ (.int .i64 n)) := by
  have hmf : ∀ (fn : Fn) (first cap : Array Value) (w : World), (Instr.makeFunc fn first cap).run Tryz.prog w = .ok (.func fn first cap) w := fun _ _ _ _ => rfl
  go_enter_defers Tryz.func18, Tryz.ntmps18
  go_wp2_with fail
  refine hW.out.mono ?_
  rintro e w1 (⟨rfl, hR, hK⟩ | ⟨n, rfl, hS, hK⟩)
  · have hg := new_kept (w := w) hK (fun h => Nat.lt_irrefl _ (hX _ h))
    have c0 : w1.cell? ⟨w.heap.size, 0, none⟩ = some (.int .i64 0) := by simp [World.cell?, hg]
    have f0 : w1.frozen? ⟨w.heap.size, 0, none⟩ = false := by simp [World.frozen?, hg]
    go_wp2_with fail
    refine leaves_cons (f := 38) (args := #[.pointer (some ⟨w.heap.size, 0, none⟩)]) (by simp) (by simp [go_sem]) ?_
    refine (catch_idle ⟨w.heap.size, 0, none⟩ _).mono ?_
    rintro e u' w'' ⟨rfl, rfl, rfl⟩
    have c1 := World.cell?_setCell_same w1 ⟨w.heap.size, 0, none⟩ (.int .i64 0) c0
    simp only [Leaves, settle, results, Tryz.results18]
    exact ⟨.int .i64 0, by simp [go_sem, c1], .inl ⟨w1, rfl, hR, hK, rfl⟩⟩
  · have hg := new_kept (w := w) hK (fun h => Nat.lt_irrefl _ (hX _ h))
    have c0 : w1.cell? ⟨w.heap.size, 0, none⟩ = some (.int .i64 0) := by simp [World.cell?, hg]
    have f0 : w1.frozen? ⟨w.heap.size, 0, none⟩ = false := by simp [World.frozen?, hg]
    go_wp2_with fail
    refine leaves_cons (f := 38) (args := #[.pointer (some ⟨w.heap.size, 0, none⟩)]) (by simp) (by simp [go_sem]) ?_
    refine (catch_fault ⟨w.heap.size, 0, none⟩ 0 n [] _ c0 f0).mono ?_
    rintro e u' w'' ⟨rfl, rfl, rfl⟩
    have c1 := World.cell?_setCell_same w1 ⟨w.heap.size, 0, none⟩ (.int .i64 n) c0
    simp only []
    rw [show settle (FrameMode.panicking [{ v := Value.iface 72 (.int .i64 n), recovered := true }]) = FrameMode.returning from rfl]
    simp only [Leaves, results, Tryz.results18]
    exact ⟨.int .i64 n, by simp [go_sem, c1], .inr ⟨n, w1, rfl, hS, hK, rfl⟩⟩

end Go.Proofs.YtkkjchfhgjfclaaGreatDoor

/- parse.Text: Ended, Peek, Next, Pass. -/
namespace Go.Proofs.YtkkjchfhgjfclaaGreatDoor
open Go.RowKit

/-- A text lies in block b: what is left of it. -/
def Txt (w : World) (b : Nat) (l : List UInt8) : Prop := w.heap[b]? = some (.cells #[.string ⟨l.toArray⟩] 97 (0, 0))

theorem Txt.c0 {w : World} {b : Nat} {l : List UInt8} (h : Txt w b l) : w.cell? ⟨b, 0, none⟩ = some (.string ⟨l.toArray⟩) := by
  unfold Txt at h; simp [World.cell?, h]
theorem Txt.f {w : World} {b : Nat} {l : List UInt8} (h : Txt w b l) (o : Nat) : w.frozen? ⟨b, o, none⟩ = false := by
  unfold Txt at h; simp [World.frozen?, h]
theorem Txt.lt {w : World} {b : Nat} {l : List UInt8} (h : Txt w b l) : b < w.heap.size := World.block_lt_of_cell? w _ h.c0
theorem Txt.set {w : World} {b : Nat} {l : List UInt8} (h : Txt w b l) (m : List UInt8) : Txt (w.setCell ⟨b, 0, none⟩ (.string ⟨m.toArray⟩)) b m := by
  unfold Txt at *
  simp [World.setCell, Array.getElem?_modify, h]
theorem Txt.keep {w w' : World} {b : Nat} {l : List UInt8} (h : Txt w b l) {X : Nat → Prop} (hk : Kept X w w') (hX : ¬ X b) : Txt w' b l := by
  have hb := h.lt
  unfold Txt at *
  rw [hk.block b hb hX]; exact h
theorem Txt.al {w : World} {b : Nat} {l : List UInt8} (h : Txt w b l) (o : Obj) : Txt (w.alloc o) b l := h.keep (X := fun _ => False) ((Kept.refl _ w).alloc o) (fun f => f)

theorem bytes_size (l : List UInt8) : (⟨l.toArray⟩ : ByteArray).size = l.length := by simp [ByteArray.size]
theorem bytes_extract (l : List UInt8) (i j : Nat) : (⟨l.toArray⟩ : ByteArray).extract i j = ⟨((l.drop i).take (j - i)).toArray⟩ := by
  apply ByteArray.ext
  apply Array.ext'
  rw [ByteArray.data_extract, Array.toList_extract, List.extract_eq_take_drop]

theorem tEnded (w : World) (b : Nat) (l : List UInt8) (h : Txt w b l) :
    Calls Tryz.prog 61 #[.pointer (some ⟨b, 0, none⟩)] w fun e w' => e = .returned (.bool l.isEmpty) ∧ w' = w := by
  have c0 := h.c0
  cases l with
  | nil =>
    go_enter Tryz.func61, Tryz.ntmps61
    go_wp2
    go_ret
    exact ⟨rfl, rfl⟩
  | cons c r =>
    have he : (⟨(c :: r).toArray⟩ : ByteArray).toList.isEmpty = false := by rw [ByteArray.toList_eq]; simp
    go_enter Tryz.func61, Tryz.ntmps61
    go_wp2
    go_ret
    exact ⟨rfl, rfl⟩

theorem tPeek (w : World) (b : Nat) (c : UInt8) (r : List UInt8) (h : Txt w b (c :: r)) :
    Calls Tryz.prog 84 #[.pointer (some ⟨b, 0, none⟩)] w fun e w' => e = .returned (.int .u8 c.toNat) ∧ w' = w := by
  have c0 := h.c0
  have hz : 0 < (⟨(c :: r).toArray⟩ : ByteArray).size := by rw [bytes_size]; simp
  go_enter Tryz.func84, Tryz.ntmps84
  go_wp2_with fail
  refine (tEnded _ b _ h).mono ?_
  rintro e w1 ⟨rfl, rfl⟩
  go_wp2
  go_ret
  exact ⟨rfl, rfl⟩

theorem tPeek_end (w : World) (b : Nat) (h : Txt w b []) :
    Calls Tryz.prog 84 #[.pointer (some ⟨b, 0, none⟩)] w fun e w' => e = fault 1 ∧ w' = w := by
  go_enter Tryz.func84, Tryz.ntmps84
  go_wp2_with fail
  refine (tEnded _ b _ h).mono ?_
  rintro e w1 ⟨rfl, rfl⟩
  go_wp2_with fail
  exact ⟨rfl, rfl, rfl⟩

theorem tNext (w : World) (b : Nat) (c : UInt8) (r : List UInt8) (h : Txt w b (c :: r)) :
    Calls Tryz.prog 94 #[.pointer (some ⟨b, 0, none⟩)] w fun e w' => e = .returned (.int .u8 c.toNat) ∧ Txt w' b r ∧ Kept (· = b) w w' := by
  have c0 := h.c0
  have f0 := h.f 0
  have hz : 1 ≤ (⟨(c :: r).toArray⟩ : ByteArray).size := by rw [bytes_size]; simp
  have HX := hide (show (⟨(c :: r).toArray⟩ : ByteArray).extract 1 (r.length + 1) = ⟨r.toArray⟩ by rw [bytes_extract]; simp)
  go_enter Tryz.func94, Tryz.ntmps94
  go_wp2_with fail
  refine (tPeek _ b c r h).mono ?_
  rintro e w1 ⟨rfl, rfl⟩
  go_wp2
  go_ret
  refine ⟨rfl, ?_, (by repeat' (first | assumption | exact Kept.refl _ _ | refine Kept.drewN ?_ _ | refine Kept.drew ?_ | refine Kept.alloc ?_ _ | refine Kept.setB ?_ _ _))⟩
  rw [HX.out]
  exact h.set r

theorem tNext_end (w : World) (b : Nat) (h : Txt w b []) :
    Calls Tryz.prog 94 #[.pointer (some ⟨b, 0, none⟩)] w fun e w' => e = fault 1 ∧ w' = w := by
  go_enter Tryz.func94, Tryz.ntmps94
  go_wp2_with fail
  refine (tPeek_end _ b h).mono ?_
  rintro e w1 ⟨rfl, rfl⟩
  go_wp2_with fail
  exact ⟨rfl, rfl, rfl⟩

end Go.Proofs.YtkkjchfhgjfclaaGreatDoor
