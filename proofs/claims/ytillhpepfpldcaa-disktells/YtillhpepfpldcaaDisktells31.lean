import Derived.Test.YtillhpepfpldcaaDisktells25
import Derived.Test.YtillhpepfpldcaaDisktells29
import Derived.Test.YtillhpepfpldcaaDisktells03
import Derived.Test.YtillhpepfpldcaaDisktells11
import Derived.Test.YtillhpepfpldcaaDisktells06
import Derived.Deep.RegionHeld3
import Derived.Laws.BitsLemmas
import Derived.Test.YtillhpepfpldcaaDisktells01
import Derived.Test.YtillhpepfpldcaaDisktells02
import Derived.Test.YtillhpepfpldcaaDisktells07
/- DiskTells: what the calls answer, each by one function of what it is handed; boxes of disks. -/
namespace Go.Proofs.Ytillhpepfpldcaa
open Go.RowKit

def ansD : Except Int DiskT → DiskT × Int
  | .ok d => (d, 0)
  | .error e => (disk0, e)
def opnA (d : DiskT) : List BatchT × DiskT × Int := if checkD d = 0 then (batchesD d.segs, openD d, 0) else ([], disk0, checkD d)

theorem DAns.one {x : Except Int DiskT} {w : World} {r : Ending} {w' : World} (h : DAns x w r w') {d : DiskT} {e : Int} (hx : ansD x = (d, e)) :
    ∃ ao cap, r = .returned (.tuple #[diV (.slice ao d.segs.length cap) d.synced, .int .i64 e]) ∧ StSl (fun _ => True) w' (.slice ao d.segs.length cap) d.segs ∧ Same w w' := by
  rcases h with ⟨d', sv, rfl, h2, h3, h4⟩ | ⟨e', rfl, _, h3, h4⟩
  · cases hx
    obtain ⟨ao, cap, rfl⟩ := h3.form
    exact ⟨ao, cap, h2, h3.mono (fun _ _ _ => trivial), h4⟩
  · cases hx
    exact ⟨none, 0, h3, StSl.nil _ _, h4⟩
theorem OAns.one {d : DiskT} {w : World} {r : Ending} {w' : World} (h : OAns d w r w') {l : List BatchT} {o : DiskT} {e : Int} (hx : opnA d = (l, o, e)) :
    ∃ ab cb ao cap, r = .returned (.tuple #[.slice ab l.length cb, diV (.slice ao o.segs.length cap) o.synced, .int .i64 e]) ∧ BaSl (fun _ => True) w' (.slice ab l.length cb) l ∧ StSl (fun _ => True) w' (.slice ao o.segs.length cap) o.segs ∧ Same w w' := by
  unfold opnA at hx
  by_cases hc : checkD d = 0
  · rw [if_pos hc] at hx
    cases hx
    obtain ⟨ab, cb, ao, cap, h1, h2, h3, h4⟩ := h.ok hc
    exact ⟨ab, cb, ao, cap, h1, h2.mono (fun _ _ _ => trivial), h3.mono (fun _ _ _ => trivial), h4⟩
  · rw [if_neg hc] at hx
    cases hx
    obtain ⟨h1, h2⟩ := h.no hc
    exact ⟨none, 0, none, 0, h1, BaSl.nil _ _, StSl.nil _ _, h2⟩

/-- block g holds the disk d -/
def BX (w : World) (g : Nat) (d : DiskT) : Prop := ∃ ao cap, w.heap[g]? = some (.cells #[.slice ao d.segs.length cap, .int .i64 d.synced] 38 (0, 0)) ∧ StSl (fun _ => True) w (.slice ao d.segs.length cap) d.segs
theorem BX.same {w w' : World} {g : Nat} {d : DiskT} (h : BX w g d) (k : Same w w') : BX w' g d := by
  obtain ⟨ao, cap, h1, h2⟩ := h
  exact ⟨ao, cap, blk_kept h1 k (fun f => f), h2.same k⟩
theorem BX.new {w : World} {d : DiskT} {ao : Option Addr} {cap : Nat} (h : StSl (fun _ => True) w (.slice ao d.segs.length cap) d.segs) : BX (w.alloc (.cells #[.slice ao d.segs.length cap, .int .i64 d.synced] 38)) w.heap.size d :=
  ⟨ao, cap, heap_alloc_new _ _, h.same ((Kept.refl _ w).alloc _)⟩
theorem BX.lt {w : World} {g : Nat} {d : DiskT} (h : BX w g d) : g < w.heap.size := by
  obtain ⟨ao, cap, h1, _⟩ := h
  exact (Array.getElem?_eq_some_iff.1 h1).1
theorem BX.box {w w' : World} {g k : Nat} {d e : DiskT} (h : BX w g d) (hb : BX w k e) (hk : Kept (· = k) w w') (hne : g ≠ k) : BX w' g d := by
  obtain ⟨ao, cap, h1, h2⟩ := h
  obtain ⟨a2, c2, h3, _⟩ := hb
  exact ⟨ao, cap, blk_kept h1 hk hne, h2.box h3 hk⟩
theorem StSl.bx {P : Nat → Prop} {w w' : World} {v : Value} {l : List (List UInt8)} {k : Nat} {e : DiskT} (h : StSl P w v l) (hb : BX w k e) (hk : Kept (· = k) w w') : StSl P w' v l := by
  obtain ⟨_, _, h3, _⟩ := hb; exact h.box h3 hk
theorem EvSl.bx {P : Nat → Prop} {w w' : World} {v : Value} {l : List EventT} {k : Nat} {e : DiskT} (h : EvSl P w v l) (hb : BX w k e) (hk : Kept (· = k) w w') : EvSl P w' v l := by
  obtain ⟨_, _, h3, _⟩ := hb; exact h.box h3 hk
theorem BaSl.bx {P : Nat → Prop} {w w' : World} {v : Value} {l : List BatchT} {k : Nat} {e : DiskT} (h : BaSl P w v l) (hb : BX w k e) (hk : Kept (· = k) w w') : BaSl P w' v l := by
  obtain ⟨_, _, h3, _⟩ := hb; exact h.box h3 hk

theorem BX.set {w : World} {k : Nat} {d e : DiskT} {ao : Option Addr} {cap : Nat} (hb : BX w k e) (h : StSl (fun _ => True) w (.slice ao d.segs.length cap) d.segs) :
    BX ((w.setCell ⟨k, 0, none⟩ (.slice ao d.segs.length cap)).setCell ⟨k, 1, none⟩ (.int .i64 d.synced)) k d ∧ Kept (· = k) w ((w.setCell ⟨k, 0, none⟩ (.slice ao d.segs.length cap)).setCell ⟨k, 1, none⟩ (.int .i64 d.synced)) := by
  obtain ⟨a2, c2, h3, _⟩ := hb
  have hk : Kept (· = k) w ((w.setCell ⟨k, 0, none⟩ (.slice ao d.segs.length cap)).setCell ⟨k, 1, none⟩ (.int .i64 d.synced)) := ((Kept.refl _ w).setB 0 _).setB 1 _
  exact ⟨⟨ao, cap, set2b h3 _ _, h.box h3 hk⟩, hk⟩
theorem BX.fro {w : World} {k : Nat} {e : DiskT} (hb : BX w k e) (o : Nat) : w.frozen? ⟨k, o, none⟩ = false := by obtain ⟨_, _, h, _⟩ := hb; exact fro2 h o
theorem BX.cells {w : World} {k : Nat} {d : DiskT} (hb : BX w k d) : ∃ ao cap, w.cell? ⟨k, 0, none⟩ = some (.slice ao d.segs.length cap) ∧ w.cell? ⟨k, 1, none⟩ = some (.int .i64 d.synced) ∧ (∀ w', Same w w' → StSl (fun _ => True) w' (.slice ao d.segs.length cap) d.segs ∧ w'.cell? ⟨k, 0, none⟩ = some (.slice ao d.segs.length cap) ∧ w'.cell? ⟨k, 1, none⟩ = some (.int .i64 d.synced)) := by
  obtain ⟨ao, cap, h, hs⟩ := hb
  obtain ⟨c0, c1⟩ := blk2 h
  exact ⟨ao, cap, c0, c1, fun w' hk => ⟨hs.same hk, hk.cell c0 (fun f => f), hk.cell c1 (fun f => f)⟩⟩

/-- the pure part: what is answered, and what the reference has of it -/
structure DTP (d : DiskT) (b : BatchT) (keep : Int) (u v1 vX wX x1 : Int) (oD yD mD kD aD sD cD : DiskT) (eO eA eS eC : Int) : Prop where
  op : eO = u ∧ oD = if u ≠ 0 then disk0 else oD
  ap : eA = vX ∧ aD = if vX ≠ 0 then disk0 else mD
  sy : eS = wX ∧ sD = if wX ≠ 0 then disk0 else yD
  cr : eC = x1 ∧ cD = if x1 ≠ 0 then disk0 else kD

theorem app_ok {d : DiskT} {b : BatchT} (hc : checkD d = 0) (hb : checkBa b = 0) : appendD d b = if tornD d then .error 4 else putD d (bytesB b) := by
  unfold appendD; rw [if_neg (by simp [hc]), if_neg (by simp [hb])]

end Go.Proofs.Ytillhpepfpldcaa

/- The reference: numberBytes. -/
namespace Go.Proofs.Ytillhpepfpldcaa
open Go.RowKit

theorem bytes_app (x y : List UInt8) : (⟨x.toArray⟩ : ByteArray) ++ ⟨y.toArray⟩ = ⟨(x ++ y).toArray⟩ := by
  apply ByteArray.ext
  simp

theorem enters_nb (args : Array Value) (w : World) : (callFunc 39 args).run Try.prog w = .ok (.enter 39 args) w := by kernel_rfl
theorem far_cell {wa w : World} {x : Value} {t : TypeId} (hK : Same (wa.alloc (.cells #[x] t)) w) : w.cell? ⟨wa.heap.size, 0, none⟩ = some x := by
  have := new_kept (X := fun _ => False) hK (fun f => f)
  simp [World.cell?, this]
theorem far_cell2 {wa w : World} {x : Value} {t : TypeId} (hK : Same (wa.alloc (.cells #[x] t)).drew w) : w.cell? ⟨wa.heap.size, 0, none⟩ = some x := far_cell hK.unD

set_option maxHeartbeats 1600000 in
theorem numberBytes_any : ∀ (k n : Nat), k ≤ 4 → n < 4611686018427387904 → ∀ w : World,
    Calls Try.prog 39 #[.int .i64 n, .int .i64 k] w fun r w' => r = .returned (.string ⟨(beN k n).toArray⟩) ∧ Same w w' := by
  intro k
  induction k with
  | zero =>
    intro n _ _ w
    go_enter Try.func39, Try.ntmps39
    go_wp2_with fail
    go_ret
    exact ⟨rfl, Kept.refl _ _⟩
  | succ k ih =>
    intro n hk hn w
    obtain ⟨m, hm⟩ : ∃ m, m = n / 256 := ⟨_, rfl⟩
    have HI := hide (fun wx => ih m (by omega) (by omega) wx)
    clear ih
    obtain ⟨c, hc⟩ : ∃ c, c = UInt8.ofNat (n % 256) := ⟨_, rfl⟩
    have HB := hide (show beN (k + 1) n = beN k m ++ [c] by rw [beN, hc, hm])
    have hcn : (n : Int) % 256 = (c.toNat : Int) := by rw [hc, UInt8.toNat_ofNat']; omega
    have htm : (n : Int).tmod 256 = (c.toNat : Int) := by rw [Int.tmod_eq_emod_of_nonneg (by omega)]; exact hcn
    have hdv : (n : Int) / 256 = (m : Int) := by omega
    have hbl : (beN k m).length ≤ 4 := by rw [beN_len]; omega
    have hc256 := c.toNat_lt
    have hwm : IntKind.i64.wrap (m : Int) = m := by rw [IntKind.wrap_i64]; omega
    have hwk : IntKind.i64.wrap (k : Int) = k := by rw [IntKind.wrap_i64]; omega
    have hwc : IntKind.i64.wrap (c.toNat : Int) = c.toNat := by rw [IntKind.wrap_i64]; omega
    have hwu : IntKind.u8.wrap (c.toNat : Int) = c.toNat := by rw [IntKind.wrap_u8]; omega
    have hconv := fun X g => one_string X g c
    have hconv2 : ∀ X : World, (convert 56 9 (.slice (some ⟨X.heap.size, 0, none⟩) 1 1)).run Try.prog (X.alloc (.cells #[.int .u8 c.toNat] 5)) = .ok (.string ⟨#[c]⟩) (X.alloc (.cells #[.int .u8 c.toNat] 5)) := fun X => one_string _ _ c (by simp)
    have hconv3 : ∀ X : World, (convert 56 9 (.slice (some ⟨X.heap.size, 0, none⟩) 1 1)).run Try.prog (X.alloc (.cells #[.int .u8 c.toNat] 5)).drew = .ok (.string ⟨#[c]⟩) (X.alloc (.cells #[.int .u8 c.toNat] 5)).drew := fun X => one_string _ _ c (by simp)
    clear hc hm
    generalize beN k m = B at *
    have hadd : ¬ 9223372036854775807 < B.length + 1 := by omega
    go_enter Try.func39, Try.ntmps39
    go_wp2_with fail
    go_region_law (refine step_call rfl 39 _ _ rfl #[.int .i64 m, .int .i64 k] (by simp [Act.eval, Act.put]) (enters_nb _) (HI.out _) ?_; rintro e w9 ⟨rfl, hK9⟩; refine ⟨_, rfl, ?_⟩; first | (have hcc := far_cell2 hK9) | (have hcc := far_cell hK9) | skip; try rw [htm, hwu] at hcc)
    all_goals
      go_wp2_with fail
      go_ret
      refine ⟨ret_str (by rw [HB.out]; exact bytes_app B [c]), ?_⟩
      first
        | exact hK9.unD.alloc _
        | exact hK9.unD.unA
        | exact hK9.unA.unD
        | exact (hK9.unD.alloc _).drew
        | exact hK9.unD.unA.drew

end Go.Proofs.Ytillhpepfpldcaa

/- The reference: BatchBytes. -/
namespace Go.Proofs.Ytillhpepfpldcaa
open Go.RowKit

/-- numberBytes, at numbers as they come -/
def nbs (x k : Int) : List UInt8 := beN k.toNat x.toNat
theorem nbs_len (x k : Int) (hk4 : k ≤ 4) : (nbs x k).length ≤ 4 := by unfold nbs; rw [beN_len]; omega
theorem nB (w : World) (x k : Int) (h0 : 0 ≤ x) (h1 : x < 4611686018427387904) (hk0 : 0 ≤ k) (hk4 : k ≤ 4) :
    Calls Try.prog 39 #[.int .i64 x, .int .i64 k] w fun r w' => r = .returned (.string ⟨(nbs x k).toArray⟩) ∧ Same w w' := by
  obtain ⟨n, rfl⟩ := Int.eq_ofNat_of_zero_le h0
  obtain ⟨m, rfl⟩ := Int.eq_ofNat_of_zero_le hk0
  refine (numberBytes_any m n (by omega) (by omega) w).mono ?_
  rintro r w' ⟨rfl, hK⟩
  exact ⟨by unfold nbs; simp, hK⟩

theorem ev_bytes {e : EventT} (h : wrongE e = 0) : evB e = beN 1 e.kind.toNat ++ (beN 1 e.ty.toNat ++ (beN 2 e.id.toNat ++
    (if e.kind = 4 then beN 1 e.field.toNat ++ (beN 1 e.text.length ++ e.text) else if 2 < e.kind then beN 1 e.field.toNat ++ beN 4 (e.n + 999999999).toNat else []))) := by
  have hk := kind_ok (wrongE_ok h).1
  unfold evB
  congr 3
  by_cases h4 : e.kind = 4
  · have h1 : namesF e.kind = true := by unfold namesF namesT; simp [h4]
    have h2 : namesT e.kind = true := by unfold namesT; simp [h4]
    rw [if_pos h1, if_pos h2, if_pos h4]
  · have h2 : ¬ namesT e.kind = true := by unfold namesT; simp [h4]
    rw [if_neg h4]
    by_cases h3 : 2 < e.kind
    · have h1 : namesF e.kind = true := by unfold namesF namesN; simp; omega
      rw [if_pos h1, if_neg h2, if_pos h3]
    · have h1 : ¬ namesF e.kind = true := by unfold namesF namesN namesT; simp; omega
      rw [if_neg h1, if_neg h3]

theorem bsz5 (l : List UInt8) : (⟨l.toArray⟩ : ByteArray).size = l.length := by simp [ByteArray.size]
set_option maxRecDepth 20000 in
set_option maxHeartbeats 6400000 in
theorem batchBytes_any (P : Nat → Prop) (w : World) (b : BatchT) (v : Value) (hc : checkBa b = 0) (h : EvSl P w v b.events) :
    Calls Try.prog 11 #[baV b.number v] w fun r w' => r = .returned (.string ⟨(bytesB b).toArray⟩) ∧ Same w w' := by
  have trs : ∀ {a b c : World}, Same a b → Same b c → Same a c := fun h k => h.trans k (fun _ _ f => f)
  obtain ⟨hn1, hn2, he1, he2, hev⟩ := checkBa_ok hc
  obtain ⟨num, l⟩ := b
  simp only at h hn1 hn2 he1 he2 hev
  obtain ⟨ao, cap, rfl⟩ := h.form
  obtain ⟨_, hl, hcap⟩ := h.len
  obtain ⟨W, hW⟩ : ∃ W, W = w.alloc (.cells #[.int .i64 num, .slice ao l.length cap] 24) := ⟨_, rfl⟩
  have HG := hide (show W.heap[w.heap.size]? = some (.cells #[.int .i64 num, .slice ao l.length cap] 24 (0, 0)) by rw [hW]; exact heap_alloc_new _ _)
  have HKW := hide (show Same w W by rw [hW]; exact (Kept.refl _ w).alloc _)
  have HS := hide (h.same HKW.out)
  have HEV := hide hev
  have HNB := hide (fun wx x k h0 h1 hk0 hk4 => nB wx x k h0 h1 hk0 hk4)
  clear h hev hc
  obtain ⟨c0, c1⟩ := blk2 HG.out
  have HALL := hide (fun wy (hy : Same W wy) => (⟨hy.cell c0 (fun f => f), hy.cell c1 (fun f => f)⟩ : wy.cell? ⟨w.heap.size, 0, none⟩ = _ ∧ wy.cell? ⟨w.heap.size, 1, none⟩ = _))
  have hKc : Same W W := Kept.refl _ _
  go_enter Try.func11, Try.ntmps11
  go_wp2_with fail
  rw [← hW]
  clear hW
  have hq0 : ¬ 9223372036854775807 < (nbs num 2).length + (nbs l.length 1).length := by
    have h1 := nbs_len num 2 (by omega)
    have h2 := nbs_len l.length 1 (by omega)
    omega
  have hq1 : ¬ 9223372036854775807 < (nbs l.length 1).length + (nbs num 2).length := by omega
  go_region_held3 (fun w' => w'.cell? ⟨w.heap.size, 0, none⟩ = some (.int .i64 num) ∧ w'.cell? ⟨w.heap.size, 1, none⟩ = some (.slice ao l.length cap)) (go_keep) (
    (go_at_call 39; refine (HNB.out _ _ _ (by omega) (by omega) (by omega) (by omega)).mono ?_; rintro e w9 ⟨rfl, hKn⟩; have hKc := trs (by first | exact hKc.drewN _ | exact hKc.drew | exact hKc) hKn; obtain ⟨c0, c1⟩ := HALL.out _ hKc))
  all_goals
    rw [bytes_app]
    obtain ⟨S0, hS0⟩ : ∃ S0, S0 = nbs num 2 ++ nbs l.length 1 := ⟨_, rfl⟩
    rw [← hS0]
    have HS0 := hide (show S0 = beN 2 num.toNat ++ (beN 1 l.length ++ (l.take 0).flatMap evB) by rw [hS0]; unfold nbs; simp)
    have hS0l : S0.length ≤ 3 + 60 * 0 := by rw [hS0, List.length_append]; unfold nbs; rw [beN_len, beN_len]; decide
    have HK0 := hide hKc
    clear hS0 hq0 hq1
    clear hKc hKn c0 c1
    go_wp2_with fail
    go_loopg [3, 4] l.length (fun gk sv iv wr => ∃ (i : Nat) (S : List UInt8), sv = .string ⟨S.toArray⟩ ∧ iv = .int .i64 i ∧ i + gk = l.length ∧ Hid (S = beN 2 num.toNat ++ (beN 1 l.length ++ (l.take i).flatMap evB)) ∧ S.length ≤ 3 + 60 * i ∧ Hid (Same W wr))
    case atStart => exact ⟨0, S0, rfl, rfl, by omega, HS0, hS0l, HK0⟩
    case round =>
      obtain ⟨i, S, rfl, rfl, hin, HSS, hSl, HKr⟩ := hrel
      clear HK0 HS0 hS0l
      have hzS := bsz5 S
      obtain ⟨c0, c1⟩ := HALL.out _ HKr.out
      by_cases hlt : i < l.length
      · obtain ⟨m, hm⟩ : ∃ m, gk = m + 1 := ⟨gk - 1, by omega⟩
        subst hm
        obtain ⟨b, off, hao, _, e0, e1, e2, e3, e4, e5⟩ := (HS.out.same HKr.out).at i hlt
        subst hao
        obtain ⟨x, hx⟩ : ∃ x, x = l[i] := ⟨_, rfl⟩
        have hwr : wrongE x = 0 := by rw [hx]; exact HEV.out _ (List.getElem_mem hlt)
        have HT := hide (show l.take (i + 1) = l.take i ++ [x] by rw [hx]; exact List.take_succ_eq_append_getElem hlt)
        rw [← hx] at e0 e1 e2 e3 e4 e5
        clear hx
        have HEB := hide (ev_bytes hwr)
        have HEL := hide (evB_len hwr)
        obtain ⟨hk0, _, _, _, hr, htl⟩ := wrongE_ok hwr
        have hk16 := kind_ok hk0
        obtain ⟨hy0, hy1, hi0, hi1, hf0, hf1, hn0, hn9⟩ := range_ok hr
        clear hk0 hr hwr
        obtain ⟨xk, xty, xid, xf, xn, xt⟩ := x
        simp only at e0 e1 e2 e3 e4 e5 htl hk16 hy0 hy1 hi0 hi1 hf0 hf1 hn0 hn9
        have hzt := bsz5 xt
        obtain ⟨g, hg⟩ : ∃ g, g = wr.heap.size := ⟨_, rfl⟩
        obtain ⟨W1, hW1⟩ : ∃ W1, W1 = wr.alloc (.cells #[.int .i64 xk, .int .i64 xty, .int .i64 xid, .int .i64 xf, .int .i64 xn, .string ⟨xt.toArray⟩] 66) := ⟨_, rfl⟩
        have HG1 := hide (show W1.heap[g]? = some (.cells #[.int .i64 xk, .int .i64 xty, .int .i64 xid, .int .i64 xf, .int .i64 xn, .string ⟨xt.toArray⟩] 66 (0, 0)) by rw [hW1, hg]; exact heap_alloc_new _ _)
        have HKX := hide (show Same W W1 by rw [hW1]; exact HKr.out.alloc _)
        go_wp2_with fail
        rw [← hW1, ← hg]
        clear hW1 hg c0 c1 e0 e1 e2 e3 e4 e5
        obtain ⟨z0, z1, z2, z3, z4, z5, _⟩ := cells6 HG1.out
        have HALL1 := hide (fun wy (hy : Same W1 wy) => (⟨hy.cell z0 (fun f => f), hy.cell z1 (fun f => f), hy.cell z2 (fun f => f), hy.cell z3 (fun f => f), hy.cell z4 (fun f => f), hy.cell z5 (fun f => f)⟩ : wy.cell? ⟨g, 0, none⟩ = _ ∧ wy.cell? ⟨g, 1, none⟩ = _ ∧ wy.cell? ⟨g, 2, none⟩ = _ ∧ wy.cell? ⟨g, 3, none⟩ = _ ∧ wy.cell? ⟨g, 4, none⟩ = _ ∧ wy.cell? ⟨g, 5, none⟩ = _))
        have hKc : Same W1 W1 := Kept.refl _ _
        have hqa := nbs_len xk 1 (by omega)
        have hqb := nbs_len xty 1 (by omega)
        have hqc := nbs_len xid 2 (by omega)
        have hq0 : ¬ 9223372036854775807 < (nbs xk 1).length + (nbs xty 1).length := by omega
        have hq1 : ¬ 9223372036854775807 < (nbs xk 1).length + (nbs xty 1).length + (nbs xid 2).length := by omega
        have hq2 : ¬ 9223372036854775807 < S.length + ((nbs xk 1).length + (nbs xty 1).length + (nbs xid 2).length) := by omega
        go_region_held3 (fun w' => w'.cell? ⟨g, 0, none⟩ = some (.int .i64 xk) ∧ w'.cell? ⟨g, 1, none⟩ = some (.int .i64 xty) ∧ w'.cell? ⟨g, 2, none⟩ = some (.int .i64 xid)) (go_keep) (
          (go_at_call 39; refine (HNB.out _ _ _ (by omega) (by omega) (by omega) (by omega)).mono ?_; rintro e w9 ⟨rfl, hKn⟩; have hKc := trs (by first | exact hKc.drewN _ | exact hKc.drew | exact hKc) hKn; obtain ⟨z0, z1, z2, z3, z4, z5⟩ := HALL1.out _ hKc))
        all_goals
          rw [bytes_app, bytes_app, bytes_app]
          obtain ⟨S1, hS1⟩ : ∃ S1, S1 = S ++ (nbs xk 1 ++ nbs xty 1 ++ nbs xid 2) := ⟨_, rfl⟩
          rw [← hS1]
          have hS1l : S1.length ≤ 3 + 60 * i + 12 := by rw [hS1]; simp only [List.length_append]; omega
          have HS1 := hide hS1
          have hzS1 := bsz5 S1
          have hKc6 := hKc
          clear hS1 hq0 hq1 hq2 hqa hqb hqc hzS HKr
          have hqf := nbs_len xf 1 (by omega)
          by_cases hk4 : xk = 4
          · have hk4' : ((xk : Int) == 4) = true := by simp; omega
            have hqt := nbs_len xt.length 1 (by omega)
            have hq0 : ¬ 9223372036854775807 < (nbs xf 1).length + (nbs xt.length 1).length := by omega
            have hq1 : ¬ 9223372036854775807 < (nbs xf 1).length + (nbs xt.length 1).length + xt.length := by omega
            have hq2 : ¬ 9223372036854775807 < S1.length + ((nbs xf 1).length + (nbs xt.length 1).length + xt.length) := by omega
            have HB := hide (show S1 ++ (nbs xf 1 ++ nbs xt.length 1 ++ xt) = beN 2 num.toNat ++ (beN 1 l.length ++ (l.take (i + 1)).flatMap evB) by
              rw [HT.out, List.flatMap_append, HS1.out, HSS.out, List.flatMap_cons, List.flatMap_nil, HEB.out, if_pos hk4]; unfold nbs; simp)
            clear hk4 HEB HT HSS HS1
            go_wp2_with fail
            go_region_held3 (fun w' => w'.cell? ⟨g, 3, none⟩ = some (.int .i64 xf) ∧ w'.cell? ⟨g, 5, none⟩ = some (.string ⟨xt.toArray⟩)) (go_keep) (
              (go_at_call 39; refine (HNB.out _ _ _ (by omega) (by omega) (by omega) (by omega)).mono ?_; rintro e w9 ⟨rfl, hKn⟩; have hKc := trs (by first | exact hKc.drewN _ | exact hKc.drew | exact hKc) hKn; obtain ⟨z0, z1, z2, z3, z4, z5⟩ := HALL1.out _ hKc))
            all_goals
              rw [bytes_app, bytes_app, bytes_app]
              have hSl2 : (S1 ++ (nbs xf 1 ++ nbs xt.length 1 ++ xt)).length ≤ 3 + 60 * (i + 1) := by simp only [List.length_append]; omega
              have HKF := hide (trs HKX.out hKc)
              generalize S1 ++ (nbs xf 1 ++ nbs xt.length 1 ++ xt) = S2 at *
              clear hq0 hq1 hq2 hKc hKc6
              go_wp2_with fail
              go_roundg m
              case measure => omega
              case rel => exact ⟨i + 1, S2, rfl, by go_num, by omega, HB, hSl2, HKF⟩
          · have hk4' : ((xk : Int) == 4) = false := by rw [beq_eq_false_iff_ne]; omega
            by_cases hk2 : 2 < xk
            · have hqt := nbs_len (xn + 999999999) 4 (by omega)
              have hwx : IntKind.i64.wrap (xn + 999999999) = xn + 999999999 := by rw [IntKind.wrap_i64]; omega
              have hq0 : ¬ 9223372036854775807 < (nbs xf 1).length + (nbs (xn + 999999999) 4).length := by omega
              have hq2 : ¬ 9223372036854775807 < S1.length + ((nbs xf 1).length + (nbs (xn + 999999999) 4).length) := by omega
              have HB := hide (show S1 ++ (nbs xf 1 ++ nbs (xn + 999999999) 4) = beN 2 num.toNat ++ (beN 1 l.length ++ (l.take (i + 1)).flatMap evB) by
                rw [HT.out, List.flatMap_append, HS1.out, HSS.out, List.flatMap_cons, List.flatMap_nil, HEB.out, if_neg hk4, if_pos hk2]; unfold nbs; simp)
              clear hk4 HEB HT HSS HS1
              go_wp2_with fail
              go_region_held3 (fun w' => w'.cell? ⟨g, 3, none⟩ = some (.int .i64 xf) ∧ w'.cell? ⟨g, 4, none⟩ = some (.int .i64 xn)) (go_keep) (
                (go_at_call 39; refine (HNB.out _ _ _ (by omega) (by omega) (by omega) (by omega)).mono ?_; rintro e w9 ⟨rfl, hKn⟩; have hKc := trs (by first | exact hKc.drewN _ | exact hKc.drew | exact hKc) hKn; obtain ⟨z0, z1, z2, z3, z4, z5⟩ := HALL1.out _ hKc))
              all_goals
                rw [bytes_app, bytes_app]
                have hSl2 : (S1 ++ (nbs xf 1 ++ nbs (xn + 999999999) 4)).length ≤ 3 + 60 * (i + 1) := by simp only [List.length_append]; omega
                have HKF := hide (trs HKX.out hKc)
                generalize S1 ++ (nbs xf 1 ++ nbs (xn + 999999999) 4) = S2 at *
                clear hq0 hq2 hKc hKc6
                go_wp2_with fail
                go_roundg m
                case measure => omega
                case rel => exact ⟨i + 1, S2, rfl, by go_num, by omega, HB, hSl2, HKF⟩
            · have HB := hide (show S1 = beN 2 num.toNat ++ (beN 1 l.length ++ (l.take (i + 1)).flatMap evB) by
                rw [HT.out, List.flatMap_append, HS1.out, HSS.out, List.flatMap_cons, List.flatMap_nil, HEB.out, if_neg hk4, if_neg hk2]; unfold nbs; simp)
              have HKF := hide (trs HKX.out hKc)
              clear hk4 HEB HT HSS HS1 hKc hKc6
              go_wp2_with fail
              go_roundg m
              case measure => omega
              case rel => exact ⟨i + 1, S1, rfl, by go_num, by omega, HB, by omega, HKF⟩
      · have hil : i = l.length := by omega
        have hgk : gk = 0 := by omega
        subst hgk
        have HE := hide (show (bytesB ⟨num, l⟩) = nbs S.length 2 ++ S by
          have h1 : S = innerB ⟨num, l⟩ := by rw [HSS.out, hil, List.take_length]; rfl
          unfold bytesB nbs
          rw [← h1]; rfl)
        have hqa := nbs_len S.length 2 (by omega)
        have hq0 : ¬ 9223372036854775807 < (nbs S.length 2).length + S.length := by omega
        have hnlt : ¬ (i : Int) < (l.length : Int) := by omega
        have hsb : S.length ≤ 500 := by omega
        clear hil
        go_wp2_with fail
        refine (HNB.out _ _ _ (by omega) (by omega) (by omega) (by omega)).mono ?_
        rintro e w9 ⟨rfl, hKn⟩
        go_wp2_with fail
        rw [bytes_app]
        go_ret
        exact ⟨ret_str (by rw [HE.out]), trs (trs HKW.out HKr.out) hKn⟩

end Go.Proofs.Ytillhpepfpldcaa
