import Derived.Test.YthbnhnnafkkpkaaDoorLex1
namespace Go.Proofs.YthbnhnnafkkpkaaDoor
open Go.RowKit

/-- A reader lies in block b: its text, its place, its tokens. -/
def Rdr (w : World) (b : Nat) (s : ByteArray) (k : Nat) (v : Value) : Prop := w.heap[b]? = some (.cells #[.string s, .int .i64 k, v] 35 (0, 0))

theorem Rdr.c0 {w : World} {b k : Nat} {s : ByteArray} {v : Value} (h : Rdr w b s k v) : w.cell? ⟨b, 0, none⟩ = some (.string s) := by
  unfold Rdr at h; simp [World.cell?, h]
theorem Rdr.c1 {w : World} {b k : Nat} {s : ByteArray} {v : Value} (h : Rdr w b s k v) : w.cell? ⟨b, 1, none⟩ = some (.int .i64 k) := by
  unfold Rdr at h; simp [World.cell?, h]
theorem Rdr.c2 {w : World} {b k : Nat} {s : ByteArray} {v : Value} (h : Rdr w b s k v) : w.cell? ⟨b, 2, none⟩ = some v := by
  unfold Rdr at h; simp [World.cell?, h]
theorem Rdr.f {w : World} {b k : Nat} {s : ByteArray} {v : Value} (h : Rdr w b s k v) (o : Nat) : w.frozen? ⟨b, o, none⟩ = false := by
  unfold Rdr at h; simp [World.frozen?, h]

theorem ended_any (w : World) (b k : Nat) (s : ByteArray) (v : Value) (t : Bool) (ht : ((k : Int) == (s.size : Int)) = t) (h : Rdr w b s k v) :
    Calls Tryd.prog 34 #[.pointer (some ⟨b, 0, none⟩)] w fun e w' => e = .returned (.bool t) ∧ ∃ n, w' = w.drewN n := by
  have HT := hide (ht)
  clear ht
  have c0 := h.c0
  have c1 := h.c1
  go_enter Tryd.func34, Tryd.ntmps34
  go_wp2_with fail
  go_quiet (fail)
  go_wp2
  go_ret
  exact ⟨ret_bool HT.out, _, rfl⟩


theorem Rdr.set {w : World} {b k : Nat} {s : ByteArray} {v : Value} (h : Rdr w b s k v) (j : Nat) : Rdr (w.setCell ⟨b, 1, none⟩ (.int .i64 j)) b s j v := by
  unfold Rdr at *
  simp [World.setCell, Array.getElem?_modify, h]

set_option maxHeartbeats 800000 in
theorem pass_any (f : FuncId) (p : UInt8 → Bool) (hcf : ∀ (args : Array Value) (w : World), (callFunc f args).run Tryd.prog w = .ok (.enter f args) w) (hf : Hid (∀ (c : UInt8) (w : World), Calls Tryd.prog f #[.int .u8 c.toNat] w fun e w' => e = .returned (.bool (p c)) ∧ w' = w))
    (w : World) (b k : Nat) (s : ByteArray) (v : Value) (h : Rdr w b s k v) (hk : k ≤ s.size) (hs : s.size ≤ 2000) :
    Calls Tryd.prog 43 #[.pointer (some ⟨b, 0, none⟩), .func (.func f) #[] #[]] w fun e w' =>
      e = .returned (.string ⟨((s.data.toList.drop k).takeWhile p).toArray⟩) ∧ Rdr w' b s (k + run p s k) v ∧ Kept (· = b) w w' := by
  have c0 := h.c0
  have c1 := h.c1
  go_enter Tryd.func43, Tryd.ntmps43
  go_wp2_with fail
  go_loopg [] (s.size - k) (fun g wr => ∃ j : Nat, j + g = s.size ∧ k ≤ j ∧ Rdr wr b s j v ∧ Kept (· = b) w wr ∧ k + run p s k = j + run p s j)
  case atStart => exact ⟨k, by omega, Nat.le_refl _, h, Kept.refl _ _, rfl⟩
  case round =>
    obtain ⟨j, hj, hkj, hR, hK, hrun⟩ := hrel
    have HR : Hid (k + run p s k = j + run p s j) := hrun
    clear hrun c0 c1
    have c0 := hR.c0
    have c1 := hR.c1
    have f1 := hR.f 1
    by_cases hlt : j < s.size
    · have he : ((j : Int) == (s.size : Int)) = false := by simp; omega
      cases hp : p s[j] with
      | true =>
        have HP : Hid (p s[j] = true) := hp
        clear hp
        go_wp2_with fail
        go_quiet (first
          | (go_at_call 34; refine Calls.quiet_of (ended_any _ b j s v _ he ?_); exact hR)
          | exact Calls.quiet_of_same ((hf.out s[j] _).mono fun e w' h => ⟨h.1.trans (by rw [HP.out]), h.2⟩))
        go_wp2
        go_roundg (gk - 1)
        case measure => omega
        case rel => exact ⟨j + 1, by omega, by omega, hR.set (j + 1), (by repeat' (first | assumption | exact Kept.refl _ _ | refine Kept.drewN ?_ _ | refine Kept.drew ?_ | refine Kept.alloc ?_ _ | refine Kept.setB ?_ _ _)), by rw [HR.out, run_step hlt HP.out]; omega⟩
      | false =>
        have HP : Hid (p s[j] = false) := hp
        clear hp
        go_wp2_with fail
        go_quiet (first
          | (go_at_call 34; refine Calls.quiet_of (ended_any _ b j s v _ he ?_); exact hR)
          | exact Calls.quiet_of_same ((hf.out s[j] _).mono fun e w' h => ⟨h.1.trans (by rw [HP.out]), h.2⟩))
        go_wp2_with fail
        go_quiet (fail)
        go_wp2
        go_ret
        exact ⟨ret_str (by rw [← extract_run, HR.out, run_stop hlt HP.out]; rfl), by rw [HR.out, run_stop hlt HP.out]; exact hR, (by repeat' (first | assumption | exact Kept.refl _ _ | refine Kept.drewN ?_ _ | refine Kept.drew ?_ | refine Kept.alloc ?_ _ | refine Kept.setB ?_ _ _))⟩
    · have he : ((j : Int) == (s.size : Int)) = true := by simp; omega
      go_wp2_with fail
      go_quiet ((go_at_call 34; refine Calls.quiet_of (ended_any _ b j s v _ he ?_); exact hR))
      go_wp2_with fail
      go_quiet (fail)
      go_wp2
      go_ret
      exact ⟨ret_str (by rw [← extract_run, HR.out, run_end (by omega)]; rfl), by rw [HR.out, run_end (by omega)]; exact hR, (by repeat' (first | assumption | exact Kept.refl _ _ | refine Kept.drewN ?_ _ | refine Kept.drew ?_ | refine Kept.alloc ?_ _ | refine Kept.setB ?_ _ _))⟩

end Go.Proofs.YthbnhnnafkkpkaaDoor
