import Derived.Test.YtidodjbmlbjchaaGreatHistorystaysupto22
import Derived.Test.YtidodjbmlbjchaaGreatHistorystaysupto11
import Derived.Test.YtidodjbmlbjchaaGreatHistorystaysupto12
import Derived.Test.YtidodjbmlbjchaaGreatHistorystaysupto17
import Derived.Laws.OwnMore
import Derived.Maps.AppendAt
/- state.wrongEvent, suits, unchange. -/
namespace Go.Proofs.YtidodjbmlbjchaaGreat
open Go.RowKit

theorem shape_named (e : EventT) : (if e.kind < 1 ∨ 6 < e.kind then 7 else if e ≠ namedE e then 1 else 0) = shapeE e := by
  obtain ⟨k, ty, i, f, n, t⟩ := e
  unfold shapeE
  simp only
  by_cases h1 : k < 1 ∨ 6 < k
  · rw [if_pos h1, if_pos]
    unfold evKind
    rw [Bool.and_eq_false_iff]
    simp; omega
  · have hk : evKind k = true := by unfold evKind; simp; omega
    rw [if_neg h1, if_neg (show ¬ evKind k = false by simp [hk])]
    unfold namedE namesF namesN namesT
    simp only []
    have hk6 : k = 1 ∨ k = 2 ∨ k = 3 ∨ k = 4 ∨ k = 5 ∨ k = 6 := by omega
    rcases hk6 with rfl | rfl | rfl | rfl | rfl | rfl <;> simp
    all_goals
      by_cases hf : f = 0
      all_goals by_cases hn : n = 0
      all_goals by_cases ht : t = []
      all_goals simp [hf, hn, ht]

theorem wrongEv_eq (types : List TypeT) (e : EventT) : wrongEv types e = if shapeE e ≠ 0 then shapeE e else if isIx e.ty types.length = false then 5 else if isIdT e.id = false then 3 else 0 := by
  rw [← shape_named]
  unfold wrongEv
  by_cases h1 : e.kind < 1 ∨ 6 < e.kind
  · rw [if_pos h1, if_pos h1]; rfl
  · rw [if_neg h1, if_neg h1]
    by_cases h2 : e ≠ namedE e
    · rw [if_pos h2, if_pos h2]; rfl
    · rw [if_neg h2, if_neg h2, if_neg (show ¬ (0 : Int) ≠ 0 by simp)]

set_option maxRecDepth 20000 in
set_option maxHeartbeats 1600000 in
theorem wrongEvent_any (w : World) (vt : Value) (types : List TypeT) (e : EventT) (P : Nat → Prop) (ht : TypSl P w vt types) :
    Calls Tryz.prog 25 #[vt, evV e] w fun r w' => r = .returned (.int .i64 (wrongEv types e)) ∧ Same w w' := by
  obtain ⟨at', ct, rfl, _, _⟩ := id ht
  clear ht
  have HM := hide (wrongEv_eq types e)
  obtain ⟨m, hm⟩ : ∃ m, wrongEv types e = m := ⟨_, rfl⟩
  rw [hm] at HM ⊢
  clear hm
  have HS := hide (fun wx => pShape e wx)
  obtain ⟨k, ty, i, f, n, t⟩ := e
  obtain ⟨q, hq⟩ : ∃ q, shapeE ⟨k, ty, i, f, n, t⟩ = q := ⟨_, rfl⟩
  rw [hq] at HM HS
  clear hq
  obtain ⟨q1, hq1⟩ : ∃ q, isIx ty types.length = q := ⟨_, rfl⟩
  obtain ⟨q2, hq2⟩ : ∃ q, isIdT i = q := ⟨_, rfl⟩
  have HII := hide (fun wx => isIndex_is wx ty types.length q1 hq1)
  have HID := hide (fun wx => isId_is wx i q2 hq2)
  have HM' := hide (show m = if q ≠ 0 then q else if q1 = false then 5 else if q2 = false then 3 else 0 by rw [← hq1, ← hq2]; exact HM.out)
  clear HM hq1 hq2
  obtain ⟨W, hW⟩ : ∃ W, W = w.alloc (.cells #[.int .i64 k, .int .i64 ty, .int .i64 i, .int .i64 f, .int .i64 n, .string ⟨t.toArray⟩] 27) := ⟨_, rfl⟩
  obtain ⟨g, hg⟩ : ∃ g, g = w.heap.size := ⟨_, rfl⟩
  have HKW := hide (show Same w W by rw [hW]; exact (Kept.refl _ w).alloc _)
  have HG := hide (show ∀ wy, Same W wy → wy.cell? ⟨g, 1, none⟩ = some (.int .i64 ty) ∧ wy.cell? ⟨g, 2, none⟩ = some (.int .i64 i) from fun wy hy => by
    have h0 : W.heap[g]? = some (.cells #[.int .i64 k, .int .i64 ty, .int .i64 i, .int .i64 f, .int .i64 n, .string ⟨t.toArray⟩] 27 (0, 0)) := by rw [hW, hg]; exact heap_alloc_new _ _
    have h1 := blk_kept h0 hy (fun f => f)
    simp [World.cell?, h1])
  go_enter Tryz.func25, Tryz.ntmps25
  go_wp2_with fail
  rw [← hW, ← hg]
  clear hW hg
  refine (HS.out _).mono ?_
  rintro r w1 ⟨rfl, hK1⟩
  obtain ⟨c1, c2⟩ := HG.out _ hK1
  have HK1 := hide (tra HKW.out hK1)
  clear hK1
  by_cases hq0 : q = 0
  · subst hq0
    go_wp2_with fail
    refine (HII.out _).mono ?_
    rintro r w2 ⟨rfl, hw2⟩
    have hw2' := hw2.symm
    subst hw2'
    cases q1
    · have HF := hide (show 5 = m by rw [HM'.out]; rfl)
      go_wp2_with fail
      go_ret
      exact ⟨ret_int HF.out, HK1.out⟩
    · go_wp2_with fail
      refine (HID.out _).mono ?_
      rintro r w2 ⟨rfl, hw2⟩
      have hw2' := hw2.symm
      subst hw2'
      cases q2
      · have HF := hide (show 3 = m by rw [HM'.out]; rfl)
        go_wp2_with fail
        go_ret
        exact ⟨ret_int HF.out, HK1.out⟩
      · have HF := hide (show 0 = m by rw [HM'.out]; rfl)
        go_wp2_with fail
        go_ret
        exact ⟨ret_int HF.out, HK1.out⟩
  · have hqb : (q != 0) = true := by simp [hq0]
    have HF := hide (show q = m by rw [HM'.out, if_pos hq0])
    clear hq0
    go_wp2_with fail
    go_ret
    exact ⟨ret_int HF.out, HK1.out⟩

end Go.Proofs.YtidodjbmlbjchaaGreat

/- Rows and the blocks that they lie in: over any program. -/
namespace Go.Proofs.YtidodjbmlbjchaaGreat
open Go.RowKit

/-- the block that a row lies in -/
abbrev Row (v : Value) (k : Nat) : Prop := v.ownBlock = some k
theorem own_kept2 {w w' : World} {base : Nat} {e : TypeId} {size : Nat} {v : Value} {n : Nat} {xs : List Value} (h : w.ownsRow base e size v n xs) {X : Nat → Prop} (hk : Kept X w w') (hX : ∀ g, Row v g → ¬ X g) : w'.ownsRow base e size v n xs := by
  obtain ⟨h1, h2⟩ := h
  refine ⟨h1, ?_⟩
  rcases h2 with h2 | ⟨g, cap, cur, hv, hg, hh, r⟩
  · exact Or.inl h2
  · have hlt : g < w.heap.size := (Array.getElem?_eq_some_iff.1 hh).1
    exact Or.inr ⟨g, cap, cur, hv, hg, by rw [hk.block g hlt (hX g (by rw [hv]; rfl))]; exact hh, r⟩

end Go.Proofs.YtidodjbmlbjchaaGreat

/- Slices of events in memory. -/
namespace Go.Proofs.YtidodjbmlbjchaaGreat
open Go.RowKit

theorem addr_add (b off j : Nat) : ((⟨b, off, none⟩ : Addr).add j) = ⟨b, off + j, none⟩ := by
  unfold Addr.add
  split
  · rename_i h; rw [h]; rfl
  · rfl

/-- a batch as a value: its number, its events -/
abbrev baV (n : Int) (v : Value) : Value := .agg #[.int .i64 n, v]

/-- the six cells of an event at a place -/
def EvAt (w : World) (b o : Nat) (e : EventT) : Prop :=
  w.cell? ⟨b, o, none⟩ = some (.int .i64 e.kind) ∧ w.cell? ⟨b, o + 1, none⟩ = some (.int .i64 e.ty) ∧ w.cell? ⟨b, o + 2, none⟩ = some (.int .i64 e.id) ∧
  w.cell? ⟨b, o + 3, none⟩ = some (.int .i64 e.field) ∧ w.cell? ⟨b, o + 4, none⟩ = some (.int .i64 e.n) ∧ w.cell? ⟨b, o + 5, none⟩ = some (.string ⟨e.text.toArray⟩)

/-- v is a slice of the events l -/
def EvSl (P : Nat → Prop) (w : World) (v : Value) (l : List EventT) : Prop :=
  ∃ ao cap, v = .slice ao l.length cap ∧ (l.length ≤ maxLen ∧ l.length ≤ cap) ∧ ∀ i e, l[i]? = some e → ∃ b off, ao = some ⟨b, off, none⟩ ∧ P b ∧ EvAt w b (off + i * 6) e

theorem EvAt.keep {X : Nat → Prop} {w w' : World} {b o : Nat} {e : EventT} (h : EvAt w b o e) (hk : Kept X w w') (hx : ¬ X b) : EvAt w' b o e :=
  ⟨hk.cell h.1 hx, hk.cell h.2.1 hx, hk.cell h.2.2.1 hx, hk.cell h.2.2.2.1 hx, hk.cell h.2.2.2.2.1 hx, hk.cell h.2.2.2.2.2 hx⟩

theorem EvSl.keep {P X : Nat → Prop} {w w' : World} {v : Value} {l : List EventT} (h : EvSl P w v l) (hk : Kept X w w') (hx : ∀ b, P b → ¬ X b) : EvSl P w' v l := by
  obtain ⟨ao, cap, hv, hl, hc⟩ := h
  refine ⟨ao, cap, hv, hl, fun i t ht => ?_⟩
  obtain ⟨b, off, ha, hp, h0⟩ := hc i t ht
  exact ⟨b, off, ha, hp, h0.keep hk (hx b hp)⟩
theorem EvSl.same {P : Nat → Prop} {w w' : World} {v : Value} {l : List EventT} (h : EvSl P w v l) (hk : Same w w') : EvSl P w' v l := h.keep hk (fun _ _ f => f)
theorem EvSl.mono {P Q : Nat → Prop} {w : World} {v : Value} {l : List EventT} (h : EvSl P w v l) (hq : ∀ b, b < w.heap.size → P b → Q b) : EvSl Q w v l := by
  obtain ⟨ao, cap, hv, hl, hc⟩ := h
  refine ⟨ao, cap, hv, hl, fun i t ht => ?_⟩
  obtain ⟨b, off, ha, hp, h0⟩ := hc i t ht
  exact ⟨b, off, ha, hq b (World.block_lt_of_cell? w _ h0.1) hp, h0⟩
theorem EvSl.nil (P : Nat → Prop) (w : World) : EvSl P w (.slice none 0 0) [] := ⟨none, 0, rfl, ⟨Nat.zero_le _, Nat.le_refl _⟩, fun i t h => by simp at h⟩
theorem EvSl.at {P : Nat → Prop} {w : World} {ao : Option Addr} {n cap : Nat} {l : List EventT} (h : EvSl P w (.slice ao n cap) l) (i : Nat) (hi : i < l.length) : ∃ b off, ao = some ⟨b, off, none⟩ ∧ P b ∧ EvAt w b (off + i * 6) l[i] := by
  obtain ⟨ao', cap', hv, _, h3⟩ := h
  cases hv
  exact h3 i l[i] (List.getElem?_eq_getElem hi)
theorem EvSl.len {P : Nat → Prop} {w : World} {ao : Option Addr} {n cap : Nat} {l : List EventT} (h : EvSl P w (.slice ao n cap) l) : n = l.length ∧ l.length ≤ 9223372036854775807 ∧ l.length ≤ cap := by
  obtain ⟨_, _, hv, hl, _⟩ := h; cases hv; exact ⟨rfl, hl.1, hl.2⟩
theorem EvSl.form {P : Nat → Prop} {w : World} {v : Value} {l : List EventT} (h : EvSl P w v l) : ∃ ao cap, v = .slice ao l.length cap := by
  obtain ⟨ao, cap, hv, _⟩ := h; exact ⟨ao, cap, hv⟩

/-- the cells of events, one behind the other -/
def evC (e : EventT) : List Value := [.int .i64 e.kind, .int .i64 e.ty, .int .i64 e.id, .int .i64 e.field, .int .i64 e.n, .string ⟨e.text.toArray⟩]
def evCells (l : List EventT) : List Value := l.flatMap evC
theorem evCells_snoc (l : List EventT) (e : EventT) : evCells (l ++ [e]) = evCells l ++ evC e := by simp [evCells]
theorem evCells_len (l : List EventT) : (evCells l).length = l.length * 6 := by
  induction l with
  | nil => rfl
  | cons e r ih => simp only [evCells, List.flatMap_cons, List.length_append, List.length_cons] at ih ⊢; rw [ih]; simp [evC]; omega
theorem evC_one (e : EventT) : ∀ u ∈ evC e, u.oneCell' = true := by
  intro u hu
  simp [evC] at hu
  rcases hu with rfl | rfl | rfl | rfl | rfl | rfl <;> rfl
theorem evCells_get (l : List EventT) : ∀ (i : Nat) (e : EventT), l[i]? = some e → ∀ j, j < 6 → (evCells l)[i * 6 + j]? = (evC e)[j]? := by
  induction l with
  | nil => intro i e h; simp at h
  | cons x r ih =>
    intro i e h j hj
    have hx : (evC x).length = 6 := rfl
    simp only [evCells, List.flatMap_cons]
    cases i with
    | zero =>
      simp at h; subst h
      rw [List.getElem?_append_left (by rw [hx]; omega)]; simp
    | succ i =>
      rw [List.getElem?_append_right (by rw [hx]; omega), hx, show (i + 1) * 6 + j - 6 = i * 6 + j by omega]
      exact ih i e (by simpa using h) j hj

/-- events that stand in a row, cell by cell -/
theorem ev_row {w : World} {b off : Nat} {l : List EventT} (h : ∀ j u, (evCells l)[j]? = some u → w.cell? ⟨b, off + j, none⟩ = some u) (i : Nat) (e : EventT) (he : l[i]? = some e) : EvAt w b (off + i * 6) e := by
  have g := evCells_get l i e he
  refine ⟨?_, ?_, ?_, ?_, ?_, ?_⟩
  · have := h (i * 6 + 0) _ ((g 0 (by omega)).trans rfl); simpa using this
  · have := h (i * 6 + 1) _ ((g 1 (by omega)).trans rfl); simpa [Nat.add_assoc] using this
  · have := h (i * 6 + 2) _ ((g 2 (by omega)).trans rfl); simpa [Nat.add_assoc] using this
  · have := h (i * 6 + 3) _ ((g 3 (by omega)).trans rfl); simpa [Nat.add_assoc] using this
  · have := h (i * 6 + 4) _ ((g 4 (by omega)).trans rfl); simpa [Nat.add_assoc] using this
  · have := h (i * 6 + 5) _ ((g 5 (by omega)).trans rfl); simpa [Nat.add_assoc] using this

theorem own_evs {w : World} {base : Nat} {v : Value} {l : List EventT} {t : TypeId} (h : w.ownsRow base t 6 v l.length (evCells l)) (hl : l.length ≤ maxLen) : EvSl (base ≤ ·) w v l := by
  rcases h.2 with ⟨rfl, h0⟩ | ⟨g, cap, cur, rfl, hg, hb, hc1, hc2, hc3, htk⟩
  · obtain rfl : l = [] := List.length_eq_zero_iff.1 h0
    exact EvSl.nil _ _
  · have hcells := World.ownsRow.cells (v := .slice (some ⟨g, 0, none⟩) l.length cap) h (g := g) rfl
    refine ⟨some ⟨g, 0, none⟩, cap, rfl, ⟨hl, by omega⟩, fun i e he => ⟨g, 0, rfl, hg, ev_row (fun j u hj => ?_) i e he⟩⟩
    have := hcells j u hj
    rw [addr_add] at this
    exact this

end Go.Proofs.YtidodjbmlbjchaaGreat

/- Rows of the call's own: ids, cells; parts.CloneList of ids. -/
namespace Go.Proofs.YtidodjbmlbjchaaGreat
open Go.RowKit

section
variable {P : Program} {w : World}
theorem run_append_owned_nil (base : Nat) (t ty e : TypeId) (i : TypeInfo) (size c : Nat) (ht : P.underlying t = some (.slice e)) (hi : P.info? e = some i)
    (v : Value) (n : Nat) (xs : List Value) (hown : w.ownsRow base e size v n xs) :
    (Builtin.append_ #[t, t] ty #[v, .slice none 0 c]).run P w = .ok v w := by
  rcases hown.2 with ⟨rfl, rfl⟩ | ⟨g, cap, cur, rfl, _, _, hnc, _⟩
  · simp [Builtin.append_, run_underlying ht, sizeOf, typeInfo, hi, Builtin.lenOf, Builtin.firstCells]
  · simp [Builtin.append_, run_underlying ht, sizeOf, typeInfo, hi, Builtin.lenOf, Builtin.firstCells, hnc, storeCells]
end

/-- append from a slice, nil or not, onto an owned row: and where the new row lies -/
theorem wpl_append_any {P : Program} {w : World} {ops : Array Oper} {rest : List Oper} {o : Oper} {a : Act} (Q : Exit → Act → World → Prop) (hgd : o.guard = none) (s x : Operand) (t : TypeId)
    (ho : o.op = .call { callee := .builtin .append, args := #[s, x], argTypes := #[t, t] })
    (base : Nat) (e : TypeId) (i : TypeInfo) (z : Value) (size bytes : Nat) (ht : P.underlying t = some (.slice e)) (hi : P.info? e = some i) (hz : i.zero = some z)
    (hsize : i.size = size) (hby : i.bytes = bytes) (hzs : z.cells.size = size) (hsz : 0 < size)
    (v : Value) (n : Nat) (xs : List Value) (hs : a.eval s = v) (hown : w.ownsRow base e size v n xs)
    (ao : Option Addr) (m c : Nat) (news : List Value) (hx : a.eval x = .slice ao m c) (hnone : ao = none → m = 0) (hl : news.length = m * size) (hnews : ∀ ad, ao = some ad → ∀ j u, news[j]? = some u → w.cell? (ad.add j) = some u) (h1 : ∀ u ∈ news, u.oneCell' = true)
    (h63 : n + m ≤ maxLen) (hbytes : (n + m) * bytes ≤ 140737488355328) (hbase : base ≤ w.heap.size)
    (h : ∀ v' w', w'.ownsRow base e size v' (n + m) (xs ++ news) → w.grownBy w' v.ownBlock → (v'.ownBlock = v.ownBlock ∨ v'.ownBlock = some w.heap.size) → wpList P ops Q rest (a.put o.dst v') w') :
    wpList P ops Q (o :: rest) a w := by
  cases ao with
  | some ad => exact wpList_append_own_at _ hgd s x t ho base e i z size bytes ht hi hz hsize hby hzs hsz v n xs hs hown ad m c news hx hl (hnews ad rfl) h1 h63 hbytes hbase (fun v' w' a b _ d => h v' w' a b d)
  | none =>
    obtain rfl := hnone rfl
    obtain rfl : news = [] := List.length_eq_zero_iff.1 (by simpa using hl)
    have hrun := run_append_owned_nil (P := P) (w := w) base t o.type e i size c ht hi v n xs hown
    refine wpList_plain hgd fun K hK => ?_
    unfold Oper.wp
    simp only [execOp, ho, resolve, invoke, builtin, Sem.run_bind, Sem.run_pure, Result.andThen_ok, List.map_toArray, List.map_cons, List.map_nil, hs, hx, hrun]
    exact hK _ _ (h v w (by simpa using hown) ⟨rfl, rfl, rfl, Nat.le_refl _, fun _ _ _ => rfl⟩ (.inl rfl))

/-- rows of two types lie apart -/
theorem rows_apart {w : World} {b b' : Nat} {e e' : TypeId} {sz sz' n n' : Nat} {v v' : Value} {xs xs' : List Value} (h : w.ownsRow b e sz v n xs) (h' : w.ownsRow b' e' sz' v' n' xs') (hne : e ≠ e') (k : Nat) (hr : Row v k) : ¬ Row v' k := by
  intro hr'
  rcases h.2 with ⟨rfl, _⟩ | ⟨g, cap, cur, rfl, _, hh, _⟩
  · cases hr
  · rcases h'.2 with ⟨rfl, _⟩ | ⟨g', cap', cur', rfl, _, hh', _⟩
    · cases hr'
    · cases hr
      cases hr'
      rw [hh] at hh'
      injection hh' with h1
      injection h1 with h2 h3
      exact hne h3

def idCells (l : List Int) : List Value := l.map (.int .i64 ·)
theorem idCells_len (l : List Int) : (idCells l).length = l.length := by simp [idCells]
theorem idCells_one (l : List Int) : ∀ u ∈ idCells l, u.oneCell' = true := by
  intro u hu
  simp only [idCells, List.mem_map] at hu
  obtain ⟨s, _, rfl⟩ := hu
  rfl
theorem idCells_get {l : List Int} {i : Nat} {s : Int} (h : l[i]? = some s) : (idCells l)[i]? = some (.int .i64 s) := by
  unfold idCells; rw [List.getElem?_map, h]; rfl

theorem IdsSl.news {P : Nat → Prop} {w : World} {ao : Option Addr} {n cap : Nat} {l : List Int} (h : IdsSl P w (.slice ao n cap) l) : (ao = none → l.length = 0) ∧ ∀ ad, ao = some ad → ∀ j u, (idCells l)[j]? = some u → w.cell? (ad.add j) = some u := by
  obtain ⟨ao', cap', hv, hl, h3⟩ := h
  cases hv
  constructor
  · intro e
    cases l with
    | nil => rfl
    | cons x t => obtain ⟨b, off, ha, _⟩ := h3 0 x rfl; rw [e] at ha; cases ha
  · intro ad had j u hu
    have hj : j < l.length := by have := (List.getElem?_eq_some_iff.1 hu).1; rwa [idCells_len] at this
    obtain ⟨b, off, ha, _, h0⟩ := h3 j l[j] (List.getElem?_eq_getElem hj)
    rw [had] at ha
    cases ha
    have := idCells_get (List.getElem?_eq_getElem hj)
    rw [hu] at this
    cases this
    rw [addr_add]
    exact h0

/-- ids in a row of the call's own, in blocks from lo to hi -/
def IdO (lo hi : Nat) (w : World) (v : Value) (l : List Int) : Prop := w.ownsRow lo 3 1 v l.length (idCells l) ∧ ∀ k, Row v k → k < hi
theorem IdO.keep {lo hi : Nat} {X : Nat → Prop} {w w' : World} {v : Value} {l : List Int} (h : IdO lo hi w v l) (hk : Kept X w w') (hx : ∀ k, Row v k → ¬ X k) : IdO lo hi w' v l := ⟨own_kept2 h.1 hk hx, h.2⟩
theorem IdO.sl {lo hi : Nat} {w : World} {v : Value} {l : List Int} (h : IdO lo hi w v l) (hl : l.length ≤ maxLen) : IdsSl (fun k => lo ≤ k ∧ k < hi) w v l := by
  rcases h.1.2 with ⟨rfl, h0⟩ | ⟨g, cap, cur, rfl, hg, hb, hc1, hc2, hc3, htk⟩
  · obtain rfl : l = [] := List.length_eq_zero_iff.1 h0
    exact IdsSl.nil _ _
  · have hown : w.ownsRow lo 3 1 (.slice (some ⟨g, 0, none⟩) l.length cap) l.length (idCells l) := h.1
    refine ⟨some ⟨g, 0, none⟩, cap, rfl, ⟨hl, by omega⟩, fun i e he => ⟨g, 0, rfl, ⟨hg, h.2 g rfl⟩, ?_⟩⟩
    have hi : i < l.length := (List.getElem?_eq_some_iff.1 he).1
    have := World.ownsRow.cellAt hown i (by omega)
    rw [idCells_get he] at this
    rw [Nat.zero_add]
    exact this

theorem info_int : (Tryz.prog.info? 3).map (fun i => (i.zero, i.size, i.bytes)) = some (some (.int .i64 0), 1, 8) := by kernel_rfl
theorem info_ce : (Tryz.prog.info? 65).map (fun i => (i.zero, i.size, i.bytes)) = some (some (.agg #[.int .i64 0, .string ⟨#[]⟩, .slice none 0 0]), 3, 48) := by kernel_rfl
theorem info_th : (Tryz.prog.info? 68).map (fun i => (i.zero, i.size, i.bytes)) = some (some (.agg #[.int .i64 0, .int .i64 0, .slice none 0 0]), 3, 40) := by kernel_rfl

theorem cloneI_any (P : Nat → Prop) (w : World) (v : Value) (l : List Int) (h : IdsSl P w v l) (hl8 : l.length ≤ 1000) :
    Calls Tryz.prog 80 #[v] w fun r w' => ∃ a c, r = .returned (.slice a l.length c) ∧ IdO w.heap.size w'.heap.size w' (.slice a l.length c) l ∧ Same w w' := by
  obtain ⟨i0, hi, hz0, hz1, hz2⟩ := info_parts info_int
  obtain ⟨ao, cap, rfl, _, _⟩ := id h
  have HN := hide h.news
  obtain ⟨_, hl, hcap⟩ := h.len
  clear h
  go_enter Tryz.func80, Tryz.ntmps80
  go_wp2_with (at_builtin; refine wpl_append_any _ rfl _ _ 63 rfl w.heap.size 3 i0 _ 1 8 Tryz.underlying63 hi hz0 hz1 hz2 rfl (by decide) _ _ _ rfl (World.ownsRow_nil _ _ _ _) ao l.length cap (idCells l) rfl HN.out.1 (by rw [idCells_len, Nat.mul_one]) HN.out.2 (idCells_one l) ?y1 ?y2 (Nat.le_refl _) ?_)
  case y2 => omega
  intro v5 w5 hown5 hgr5 _
  have hS5 : Same w w5 := (Kept.refl _ w).grown hgr5 (fun k hk hlt => by cases hk)
  obtain ⟨a5, c5, e5⟩ := own_slice hown5
  subst e5
  have HO := hide hown5
  clear hown5 hgr5
  go_wp2_with fail
  go_ret
  exact ⟨a5, c5, rfl, ⟨HO.out, fun k hk => (own_up HO.out k hk).2⟩, hS5⟩

end Go.Proofs.YtidodjbmlbjchaaGreat
