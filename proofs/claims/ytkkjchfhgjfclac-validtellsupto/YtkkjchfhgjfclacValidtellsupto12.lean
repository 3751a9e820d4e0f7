import Derived.Test.YtkkjchfhgjfclacValidtellsupto11
import Derived.Test.YtkkjchfhgjfclacValidtellsupto10
/- query.fits, whatever it is handed. -/
namespace Go.Proofs.Ytkkjchfhgjfclac
open Go.RowKit

def Sels.size : Sels → Nat
  | .nil => 0
  | .cons _ _ _ k r => k.size + r.size + 1

/-- the counter at q holds n -/
def Lft (w : World) (q : Nat) (n : Int) : Prop := w.heap[q]? = some (.cells #[.int .i64 n] 3 (0, 0))

theorem Lft.al {w : World} {q : Nat} {n : Int} (h : Lft w q n) (o : Obj) : Lft (w.alloc o) q n := by
  have hq : q < w.heap.size := by
    rcases Nat.lt_or_ge q w.heap.size with h' | h'
    · exact h'
    · unfold Lft at h; simp [Array.getElem?_eq_none h'] at h
  unfold Lft at *
  rw [Below.heap_alloc _ _ _ hq]; exact h
theorem Lft.lt {w : World} {q : Nat} {n : Int} (h : Lft w q n) : q < w.heap.size := by
  rcases Nat.lt_or_ge q w.heap.size with h' | h'
  · exact h'
  · unfold Lft at h; simp [Array.getElem?_eq_none h'] at h
theorem Lft.c {w : World} {q : Nat} {n : Int} (h : Lft w q n) : w.cell? ⟨q, 0, none⟩ = some (.int .i64 n) := by simp [Lft] at h; simp [World.cell?, h]
theorem Lft.f {w : World} {q : Nat} {n : Int} (h : Lft w q n) : w.frozen? ⟨q, 0, none⟩ = false := by simp [Lft] at h; simp [World.frozen?, h]
theorem Lft.set {w : World} {q : Nat} {n m : Int} (h : Lft w q n) : Lft (w.setCell ⟨q, 0, none⟩ (.int .i64 m)) q m := by
  unfold Lft at *
  simp [World.setCell, Array.getElem?_modify, h]

theorem keptq {w0 w : World} {q : Nat} (hq : w0.heap.size ≤ q) (h : Kept (· = q) w0 w) {p : Addr} {v : Value} (hv : w0.cell? p = some v) : w.cell? p = some v :=
  h.cell hv (fun e => by have := World.block_lt_of_cell? w0 p hv; omega)

set_option maxRecDepth 20000 in
set_option maxHeartbeats 1600000 in
theorem fits_any (m : Nat) : ∀ (f : Sels), f.size ≤ m → ∀ (w0 w : World) (v : Value) (q d left : Nat), SelSl w0 v f → w0.heap.size ≤ q → Kept (· = q) w0 w → Lft w q left → d ≤ 6 → left ≤ 40 →
    Calls Try.prog 59 #[v, .int .i64 d, .pointer (some ⟨q, 0, none⟩)] w fun e w' =>
      (∃ n : Nat, fitsQ f d left = some n ∧ n ≤ 40 ∧ e = .returned (.bool true) ∧ Lft w' q n ∧ Kept (· = q) w w') ∨ (fitsQ f d left = none ∧ e = .returned (.bool false) ∧ Kept (· = q) w w') := by
  induction m with
  | zero =>
    intro f hf w0 w v q d left hv hq hK hL hd hl
    obtain ⟨ao, cap, rfl, hlen, hs⟩ := hv
    cases f with
    | cons al nm args k r => simp [Sels.size] at hf
    | nil =>
      go_enter Try.func59, Try.ntmps59
      go_wp2_with fail
      go_loopg [11] 1 (fun g i wr => wr = w ∧ i = .int .i64 0)
      case atStart => exact ⟨rfl, rfl⟩
      case round =>
        obtain ⟨rfl, rfl⟩ := hrel
        simp only [Sels.len]
        go_wp2_with fail
        go_ret
        exact .inl ⟨left, rfl, hl, rfl, hL, Kept.refl _ _⟩
  | succ m ih =>
    intro f hf w0 w v q d left hv hq hK hL hd hl
    obtain ⟨ao, cap, rfl, hlen, hs⟩ := hv
    have IH := hide ih
    have HS0 := hide hs
    clear ih hs
    have hlen2 : f.len ≤ 9223372036854775807 := hlen.1
    clear hlen
    go_enter Try.func59, Try.ntmps59
    go_wp2_with fail
    go_loopg [11] f.len (fun g i wr => ∃ (j : Nat) (s : Sels) (lf : Nat), s.len ≤ g ∧ g ≤ s.len ∧ j + s.len ≤ f.len ∧ f.len ≤ j + s.len ∧ i = .int .i64 j ∧ lf ≤ 40 ∧ s.size ≤ m + 1 ∧ Lft wr q lf ∧ Kept (· = q) w wr ∧ Hid (fitsQ f d left = fitsQ s d lf) ∧ Hid (s = .nil ∨ ∃ b o, ao = some ⟨b, o, none⟩ ∧ SelAt w0 s b (o + j * 4)))
    case atStart =>
      refine ⟨0, f, left, Nat.le_refl _, Nat.le_refl _, by omega, by omega, rfl, hl, hf, hL, Kept.refl _ _, rfl, ?_⟩
      rcases HS0.out with h | ⟨b, o, e, h⟩
      · exact .inl h
      · exact .inr ⟨b, o, e, by simpa using h⟩
    case round =>
      obtain ⟨j, s, lf, hg1, hg2, hj1, hj2, rfl, hlf, hsz, hLr, hKr, HF, HS⟩ := hrel
      cases s with
      | nil =>
        simp only [Sels.len] at hg1 hg2 hj1 hj2
        go_wp2_with fail
        go_ret
        exact .inl ⟨lf, HF.out, hlf, rfl, hLr, hKr⟩
      | cons al nm args k r =>
        simp only [Sels.len] at hg1 hg2 hj1 hj2
        simp only [Sels.size] at hsz
        obtain ⟨b, o, rfl, h0, h1, ⟨va, h2, ha⟩, ⟨ao', cap', h3, hl3, hs3⟩, hr⟩ : ∃ b o, ao = some ⟨b, o, none⟩ ∧ SelAt w0 (.cons al nm args k r) b (o + j * 4) := by
          rcases HS.out with h | h
          · cases h
          · exact h
        obtain ⟨aoa, capa, rfl, _, _⟩ := id ha
        have hK0 : Kept (· = q) w0 wr := hK.trans hKr (fun _ _ e => e)
        have c0 := keptq hq hK0 h0
        have c1 := keptq hq hK0 h1
        have c2 := keptq hq hK0 h2
        have c3 := keptq hq hK0 h3
        have HR := hide hr
        have HK3 := hide (show SelSl w0 (.slice ao' k.len cap') k from ⟨ao', cap', rfl, hl3, hs3⟩)
        have hqw := hLr.lt
        have cq : ∀ ob, (wr.alloc ob).cell? ⟨q, 0, none⟩ = some (.int .i64 lf) := fun ob => (hLr.al ob).c
        have fq : ∀ ob, (wr.alloc ob).frozen? ⟨q, 0, none⟩ = false := fun ob => (hLr.al ob).f
        have cs : ∀ (z : Int) ob, ((wr.setCell ⟨q, 0, none⟩ (.int .i64 z)).alloc ob).cell? ⟨q, 0, none⟩ = some (.int .i64 z) := fun z ob => ((hLr.set (m := z)).al ob).c
        clear h0 h1 h2 h3 hr ha hs3 hl3 HS
        by_cases hz : lf = 0
        · subst hz
          go_wp2_with fail
          go_ret
          exact .inr ⟨by rw [HF.out, fitsQ, if_pos (.inl rfl)], rfl, (hKr.setB 0 _).alloc _⟩
        · have hpos : (0 : Int) < lf := by omega
          have HZ := hide hz
          clear hz
          by_cases h5 : 5 < d
          · have h5' : (5 : Int) < d := by omega
            go_wp2_with fail
            go_ret
            exact .inr ⟨by rw [HF.out, fitsQ, if_pos (.inr h5)], rfl, (hKr.setB 0 _).alloc _⟩
          · have h5' : (d : Int) ≤ 5 := by omega
            have h1 : ∀ ob, Lft ((wr.setCell ⟨q, 0, none⟩ (.int .i64 ((lf : Int) - 1))).alloc ob) q ((lf - 1 : Nat) : Int) := fun ob => by
              have h := (hLr.set (m := (lf : Int) - 1)).al ob
              rw [show ((lf - 1 : Nat) : Int) = (lf : Int) - 1 from by omega]
              exact h
            have HL1 := hide h1
            clear h1
            go_wp2_with fail
            refine (IH.out k (by omega) w0 _ _ q (d + 1) (lf - 1) HK3.out hq (hK0.trans ((Kept.refl (· = q) wr).setB 0 _ |>.alloc _) (fun _ _ e => e)) (HL1.out _) (by omega) (by omega)).mono ?_
            rintro e w2 (⟨n, hn, hn40, rfl, hL2, hK2⟩ | ⟨hn, rfl, hK2⟩)
            · have HN := hide hn
              have HFF := hide (show fitsQ f d left = fitsQ r d n by rw [HF.out, fitsQ, if_neg (by have := HZ.out; omega), HN.out]; rfl)
              clear hn
              have hKw : Kept (· = q) w w2 := ((hKr.setB 0 _).alloc _).trans hK2 (fun _ _ e => e)
              go_wp2_with fail
              go_roundg (gk - 1)
              case measure => omega
              case rel => exact ⟨j + 1, r, n, by omega, by omega, by omega, by omega, by go_num, hn40, by omega, hL2, hKw, HFF, .inr ⟨b, o, rfl, by rw [show o + (j + 1) * 4 = o + j * 4 + 4 from by omega]; exact HR.out⟩⟩
            · have HN := hide hn
              have HFF := hide (show fitsQ f d left = none by rw [HF.out, fitsQ, if_neg (by have := HZ.out; omega), HN.out]; rfl)
              clear hn
              have hKw : Kept (· = q) w w2 := ((hKr.setB 0 _).alloc _).trans hK2 (fun _ _ e => e)
              go_wp2_with fail
              go_ret
              exact .inr ⟨HFF.out, rfl, hKw⟩

end Go.Proofs.Ytkkjchfhgjfclac

/- query.valueToken, called. -/
namespace Go.Proofs.Ytkkjchfhgjfclac
open Go.RowKit

theorem valueToken_any (w : World) (nm tx : ByteArray) (t : Bool) (n : Int) :
    Calls Try.prog 122 #[.agg #[.string nm, .bool t, .string tx, .int .i64 n]] w fun e w' => ∃ k, e = .returned (.agg #[.int .i64 k, .string tx, .int .i64 n]) ∧ k = (bif t then 3 else 2) ∧ Same w w' := by
  cases t
  · go_enter Try.func122, Try.ntmps122
    go_wp2_with fail
    refine bodyPost_ret (v := .agg #[.int .i64 2, .string tx, .int .i64 n]) (by simp [results, Try.results122, go_sem]) rfl ⟨2, rfl, rfl, (by repeat' (first | assumption | exact Kept.refl _ _ | refine Kept.drewN ?_ _ | refine Kept.drew ?_ | refine Kept.alloc ?_ _ | refine Kept.setB ?_ _ _))⟩
  · go_enter Try.func122, Try.ntmps122
    go_wp2_with fail
    refine bodyPost_ret (v := .agg #[.int .i64 3, .string tx, .int .i64 n]) (by simp [results, Try.results122, go_sem]) rfl ⟨3, rfl, rfl, (by repeat' (first | assumption | exact Kept.refl _ _ | refine Kept.drewN ?_ _ | refine Kept.drew ?_ | refine Kept.alloc ?_ _ | refine Kept.setB ?_ _ _))⟩

theorem called_any (w : World) (al nm : ByteArray) (va vk : Value) (a1 a2 : Option Addr) (n1 n2 c1 c2 : Nat) (h1 : va = .slice a1 n1 c1) (h2 : vk = .slice a2 n2 c2) :
    Calls Try.prog 24 #[.agg #[.string al, .string nm, va, vk]] w fun e w' => ∃ b : ByteArray, e = .returned (.string b) ∧ b.data.toList = calledQ al.data.toList nm.data.toList ∧ Same w w' := by
  subst h1 h2
  cases he : al.toList.isEmpty with
  | true =>
    have HA := hide (show calledQ al.data.toList nm.data.toList = nm.data.toList by unfold calledQ; rw [if_pos (by rw [ByteArray.toList_eq] at he; exact List.isEmpty_iff.1 he)])
    go_enter Try.func24, Try.ntmps24
    go_wp2_with fail
    go_ret
    exact ⟨nm, rfl, HA.out.symm, (by repeat' (first | assumption | exact Kept.refl _ _ | refine Kept.drewN ?_ _ | refine Kept.drew ?_ | refine Kept.alloc ?_ _ | refine Kept.setB ?_ _ _))⟩
  | false =>
    have HA := hide (show calledQ al.data.toList nm.data.toList = al.data.toList by unfold calledQ; rw [if_neg (by intro e; rw [ByteArray.toList_eq, e] at he; cases he)])
    go_enter Try.func24, Try.ntmps24
    go_wp2_with fail
    go_ret
    exact ⟨al, rfl, HA.out.symm, (by repeat' (first | assumption | exact Kept.refl _ _ | refine Kept.drewN ?_ _ | refine Kept.drew ?_ | refine Kept.alloc ?_ _ | refine Kept.setB ?_ _ _))⟩

end Go.Proofs.Ytkkjchfhgjfclac

/- query's closures: the same name. -/
namespace Go.Proofs.Ytkkjchfhgjfclac
open Go.RowKit

theorem argSame_any (w : World) (g : Nat) (nm nm0 tx : ByteArray) (t : Bool) (n : Int) (hc : w.cell? ⟨g, 0, none⟩ = some (.string nm0)) :
    Calls Try.prog 120 #[.agg #[.string nm, .bool t, .string tx, .int .i64 n], .pointer (some ⟨g, 0, none⟩)] w fun e w' => e = .returned (.bool (decide (nm.data.toList = nm0.data.toList))) ∧ Same w w' := by
  have hg := World.block_lt_of_cell? w _ hc
  have hc2 : ∀ ob, (w.alloc ob).cell? ⟨g, 0, none⟩ = some (.string nm0) := fun ob => ((Kept.refl (fun _ => False) w).alloc ob).cell hc (fun f => f)
  go_enter Try.func120, Try.ntmps120
  go_wp2_with fail
  go_ret
  exact ⟨ret_bool (by rw [ByteArray.toList_eq, ByteArray.toList_eq, Bool.eq_iff_iff]; simp), (by repeat' (first | assumption | exact Kept.refl _ _ | refine Kept.drewN ?_ _ | refine Kept.drew ?_ | refine Kept.alloc ?_ _ | refine Kept.setB ?_ _ _))⟩

theorem argSame_is (w : World) (g : Nat) (nm nm0 tx : ByteArray) (t : Bool) (n : Int) (hc : w.cell? ⟨g, 0, none⟩ = some (.string nm0)) (q : Bool) (hq : decide (nm.data.toList = nm0.data.toList) = q) :
    Calls Try.prog 120 #[.agg #[.string nm, .bool t, .string tx, .int .i64 n], .pointer (some ⟨g, 0, none⟩)] w fun e w' => e = .returned (.bool q) ∧ Same w w' := by
  rw [← hq]; exact argSame_any w g nm nm0 tx t n hc

theorem ArgSl.at {w : World} {ao : Option Addr} {n cap : Nat} {l : List ArgT} (h : ArgSl w (.slice ao n cap) l) (i : Nat) (hi : i < l.length) : ∃ b off, ao = some ⟨b, off, none⟩ ∧
    w.cell? ⟨b, off + i * 4, none⟩ = some (.string ⟨l[i].name.toArray⟩) ∧ w.cell? ⟨b, off + i * 4 + 1, none⟩ = some (.bool l[i].isText) ∧ w.cell? ⟨b, off + i * 4 + 2, none⟩ = some (.string ⟨l[i].text.toArray⟩) ∧ w.cell? ⟨b, off + i * 4 + 3, none⟩ = some (.int .i64 l[i].n) := by
  obtain ⟨ao', cap', hv, _, h3⟩ := h
  cases hv
  exact h3 i l[i] (List.getElem?_eq_getElem hi)

set_option maxRecDepth 20000 in
set_option maxHeartbeats 1600000 in
theorem indexArgs_any (w : World) (v : Value) (l : List ArgT) (g : Nat) (nm0 : ByteArray) (h : ArgSl w v l) (hl : l.length ≤ 5) (hc : w.cell? ⟨g, 0, none⟩ = some (.string nm0)) :
    Calls Try.prog 132 #[v, .func (.func 120) #[] #[.pointer (some ⟨g, 0, none⟩)]] w fun e w' =>
      (∃ j : Nat, e = .returned (.int .i64 j) ∧ (l.any fun a => decide (a.name = nm0.data.toList)) = true ∧ Same w w') ∨ (e = .returned (.int .i64 (-1)) ∧ (l.any fun a => decide (a.name = nm0.data.toList)) = false ∧ Same w w') := by
  obtain ⟨ao, cap, rfl, _, _⟩ := id h
  have hcf : ∀ (args : Array Value) (w : World), (callFunc 120 args).run Try.prog w = .ok (.enter 120 args) w := by intro args w; kernel_rfl
  go_enter Try.func132, Try.ntmps132
  go_wp2_with fail
  go_loopg [8] l.length (fun gg i wr => ∃ j : Nat, j + gg = l.length ∧ i = .int .i64 j ∧ Same w wr ∧ Hid ((l.take j).any (fun a => decide (a.name = nm0.data.toList)) = false))
  case atStart => exact ⟨0, by omega, rfl, Kept.refl _ _, by simp [Hid]⟩
  case round =>
    obtain ⟨j, hj, rfl, hK, HN⟩ := hrel
    by_cases hlt : j < l.length
    · obtain ⟨b, off, rfl, c0, c1, c2, c3⟩ := (h.same hK).at j hlt
      have hcr := hK.cell hc (fun f => f)
      have HT := hide (show l.take (j + 1) = l.take j ++ [l[j]] from List.take_succ_eq_append_getElem hlt)
      have HM := hide (show l[j] ∈ l from List.getElem_mem hlt)
      obtain ⟨a, ha⟩ : ∃ a, a = l[j] := ⟨_, rfl⟩
      rw [← ha] at c0 c1 c2 c3 HT HM
      clear ha
      obtain ⟨q, hq⟩ : ∃ q, decide (a.name = nm0.data.toList) = q := ⟨_, rfl⟩
      have HS := hide (fun w hc => argSame_is w g ⟨a.name.toArray⟩ nm0 ⟨a.text.toArray⟩ a.isText a.n hc q (by simpa using hq))
      have HQ := hide hq
      clear hq
      go_wp2_with fail
      refine (HS.out _ (by exact hcr)).mono ?_
      rintro e w1 ⟨rfl, hK1⟩
      cases q
      · go_wp2_with fail
        go_roundg (gk - 1)
        case measure => omega
        case rel => exact ⟨j + 1, by omega, by go_num, hK.trans hK1 (fun _ _ f => f.elim), by rw [Hid, HT.out, List.any_append, HN.out]; simp; simpa using HQ.out⟩
      · go_wp2_with fail
        go_ret
        exact .inl ⟨j, rfl, List.any_eq_true.2 ⟨a, HM.out, HQ.out⟩, hK.trans hK1 (fun _ _ f => f.elim)⟩
    · go_wp2_with fail
      go_ret
      exact .inr ⟨rfl, by rw [← HN.out, List.take_of_length_le (by omega)], hK⟩

theorem containsArgs_is (w : World) (v : Value) (l : List ArgT) (g : Nat) (nm0 : ByteArray) (h : ArgSl w v l) (hl : l.length ≤ 5) (hc : w.cell? ⟨g, 0, none⟩ = some (.string nm0)) (q : Bool) (hq : (l.any fun a => decide (a.name = nm0.data.toList)) = q) :
    Calls Try.prog 121 #[v, .func (.func 120) #[] #[.pointer (some ⟨g, 0, none⟩)]] w fun e w' => e = .returned (.bool q) ∧ Same w w' := by
  have HI := hide (indexArgs_any w v l g nm0 h hl hc)
  have HQ := hide hq
  clear h hc hq
  go_enter Try.func121, Try.ntmps121
  go_wp2_with fail
  refine HI.out.mono ?_
  rintro e w1 (⟨j, rfl, ha, hK⟩ | ⟨rfl, ha, hK⟩)
  · have HA := hide ha
    clear ha
    go_wp2_with fail
    go_ret
    exact ⟨ret_bool (by rw [← HQ.out, HA.out]), hK⟩
  · have HA := hide ha
    clear ha
    go_wp2_with fail
    go_ret
    exact ⟨ret_bool (by rw [← HQ.out, HA.out]), hK⟩

end Go.Proofs.Ytkkjchfhgjfclac

/- query.wrongArgs, whatever it is handed. -/
namespace Go.Proofs.Ytkkjchfhgjfclac
open Go.RowKit

theorem wrongA_step (seen : List (List UInt8)) (a : ArgT) (r : List ArgT) :
    wrongA seen (a :: r) = if wrongT (nameT a.name) ≠ 0 then wrongT (nameT a.name) else if seen.contains a.name then 6 else if wrongT (valueT a) ≠ 0 then wrongT (valueT a) else wrongA (seen ++ [a.name]) r := by rw [wrongA]

/-- what is wrong with arguments, all of them -/
def argsE (l : List ArgT) : Int := if 5 < l.length then 2 else wrongA [] l

theorem ArgSl.take {w : World} {ao : Option Addr} {n cap : Nat} {l : List ArgT} (h : ArgSl w (.slice ao n cap) l) (j : Nat) (hj : j ≤ l.length) : ArgSl w (.slice ao j cap) (l.take j) := by
  obtain ⟨ao', cap', hv, hm, h3⟩ := h
  cases hv
  refine ⟨ao, cap, by rw [List.length_take, Nat.min_eq_left hj], by rw [List.length_take]; exact ⟨by omega, by omega⟩, fun i a ha => ?_⟩
  rw [List.getElem?_take] at ha
  split at ha
  · exact h3 i a ha
  · cases ha

theorem cells4 {w : World} {g : Nat} {x y z u : Value} {t : TypeId} (h : w.heap[g]? = some (.cells #[x, y, z, u] t (0, 0))) :
    w.cell? ⟨g, 0, none⟩ = some x ∧ w.cell? ⟨g, 1, none⟩ = some y ∧ w.cell? ⟨g, 2, none⟩ = some z ∧ w.cell? ⟨g, 3, none⟩ = some u := by
  simp [World.cell?, h]

set_option maxRecDepth 20000 in
set_option maxHeartbeats 3200000 in
theorem wrongArgs_any (w : World) (v : Value) (l : List ArgT) (h : ArgSl w v l) :
    Calls Try.prog 112 #[v] w fun e w' => e = .returned (.int .i64 (argsE l)) ∧ Same w w' := by
  obtain ⟨ao, cap, rfl, hmax, _⟩ := id h
  have hmf : ∀ (fn : Fn) (first cap : Array Value) (w : World), (Instr.makeFunc fn first cap).run Try.prog w = .ok (.func fn first cap) w := fun _ _ _ _ => rfl
  by_cases hbig : 5 < l.length
  · have HF := hide (show argsE l = 2 by unfold argsE; rw [if_pos hbig])
    clear hmax
    go_enter Try.func112, Try.ntmps112
    go_wp2_with fail
    go_ret
    exact ⟨ret_int HF.out.symm, Kept.refl _ _⟩
  · have HF := hide (show argsE l = wrongA [] l by unfold argsE; rw [if_neg hbig])
    have hl5 : l.length ≤ 5 := by omega
    have hcap := hmax.2
    clear hmax hbig
    go_enter Try.func112, Try.ntmps112
    go_wp2_with fail
    go_loopg [13] l.length (fun g i wr => ∃ j : Nat, j + g = l.length ∧ i = .int .i64 j ∧ Same w wr ∧ Hid (wrongA [] l = wrongA ((l.take j).map (·.name)) (l.drop j)))
    case atStart => exact ⟨0, by omega, rfl, Kept.refl _ _, rfl⟩
    case round =>
      obtain ⟨j, hj, rfl, hK, HE⟩ := hrel
      by_cases hlt : j < l.length
      · obtain ⟨b, off, rfl, c0, c1, c2, c3⟩ := (h.same hK).at j hlt
        have HS := hide (show wrongA [] l = _ from by rw [HE.out, List.drop_eq_getElem_cons hlt, wrongA_step])
        have HMEM := hide (show l.take (j + 1) = l.take j ++ [l[j]] from List.take_succ_eq_append_getElem hlt)
        obtain ⟨a, ha⟩ : ∃ a, a = l[j] := ⟨_, rfl⟩
        rw [← ha] at c0 c1 c2 c3 HS HMEM
        clear ha
        obtain ⟨m, hm⟩ : ∃ m, m = wrongT (nameT a.name) := ⟨_, rfl⟩
        have HM := hide hm
        have HWN := hide (fun w => wrongName_is w a.name m hm.symm)
        clear hm
        go_wp2_with fail
        refine (HWN.out _).mono ?_
        rintro e w2 ⟨rfl, hK1⟩
        have hb2 := new_kept hK1 (fun f => f)
        have hKb : Same w w2 := tra (hK.alloc _) hK1
        clear hK1 HWN
        by_cases hm0 : m = 0
        · have HM0 := hide (show wrongT (nameT a.name) = 0 by rw [← HM.out]; exact hm0)
          subst hm0
          obtain ⟨g0, g1, g2, g3⟩ := cells4 hb2
          obtain ⟨q, hq⟩ : ∃ q, ((l.take j).any fun x => decide (x.name = (⟨a.name.toArray⟩ : ByteArray).data.toList)) = q := ⟨_, rfl⟩
          have HCF := hide (containsArgs_is w2 _ (l.take j) wr.heap.size ⟨a.name.toArray⟩ ((h.same hKb).take j (by omega)) (by rw [List.length_take]; omega) g0 q hq)
          have HQ := hide (show ((l.take j).map (·.name)).contains a.name = q by
            rw [← hq, Bool.eq_iff_iff, List.contains_iff_mem, List.mem_map, List.any_eq_true]
            exact ⟨fun ⟨x, h1, h2⟩ => ⟨x, h1, decide_eq_true h2⟩, fun ⟨x, h1, h2⟩ => ⟨x, h1, of_decide_eq_true h2⟩⟩)
          clear hq
          go_wp2_with fail
          refine HCF.out.mono ?_
          rintro e w3 ⟨rfl, hK3⟩
          have hKc : Same w w3 := tra hKb hK3
          have hwz : wr.heap.size < w2.heap.size := World.block_lt_of_cell? w2 _ g0
          have hb3 := (hK3.block wr.heap.size hwz (fun f => f)).trans hb2
          obtain ⟨p0, p1, p2, p3⟩ := cells4 hb3
          clear g0 g1 g2 g3 hb2 hb3 HCF
          cases q
          · go_wp2_with fail
            refine (valueToken_any _ _ _ _ _).mono ?_
            rintro e w4 ⟨kd, rfl, hkd, hK4⟩
            have hKd : Same w w4 := tra hKc hK4
            have hc5 := check_any _ _ _ (tok_new w4 kd a.n a.text)
            rw [check_one] at hc5
            obtain ⟨m2, hm2⟩ : ∃ m2, m2 = wrongT (valueT a) := ⟨_, rfl⟩
            rw [show wrongT ⟨kd, a.text, a.n⟩ = m2 by rw [hm2, hkd]; unfold valueT; cases a.isText <;> rfl] at hc5
            have HM2 := hide hm2
            have HC5 := hide hc5
            clear hc5 hm2 hkd
            go_wp2_with fail
            refine HC5.out.mono ?_
            rintro e w5 ⟨rfl, hK5⟩
            have hKe : Same w w5 := tra (hKd.alloc _) hK5
            by_cases hm20 : m2 = 0
            · have HM20 := hide (show wrongT (valueT a) = 0 by rw [← HM2.out]; exact hm20)
              subst hm20
              go_wp2_with fail
              go_roundg (gk - 1)
              case measure => omega
              case rel => exact ⟨j + 1, by omega, by go_num, hKe, by rw [Hid, HS.out, HM0.out, HQ.out, HM20.out, HMEM.out, List.map_append]; rfl⟩
            · have hm21 : (m2 != 0) = true := by simp [hm20]
              have HM21 := hide hm20
              clear hm20
              go_wp2_with fail
              go_ret
              exact ⟨ret_int (by rw [HF.out, HS.out, HM0.out, HQ.out, if_neg (by simp), if_neg (by simp), if_pos (by rw [← HM2.out]; exact HM21.out), ← HM2.out]), hKe⟩
          · go_wp2_with fail
            go_ret
            exact ⟨ret_int (by rw [HF.out, HS.out, HM0.out, HQ.out]; rfl), hKc⟩
        · have hm1 : (m != 0) = true := by simp [hm0]
          have HM1 := hide hm0
          clear hm0
          go_wp2_with fail
          go_ret
          exact ⟨ret_int (by rw [HF.out, HS.out, if_pos (by rw [← HM.out]; exact HM1.out), HM.out]), hKb⟩
      · go_wp2_with fail
        go_ret
        exact ⟨ret_int (by rw [HF.out, HE.out, List.drop_eq_nil_of_le (by omega)]; rfl), hK⟩

end Go.Proofs.Ytkkjchfhgjfclac
