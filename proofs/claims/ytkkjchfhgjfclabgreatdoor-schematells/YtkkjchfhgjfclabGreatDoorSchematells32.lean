/- The reference's SchemaBytes, of a right schema. -/
import Derived.Test.YtkkjchfhgjfclabGreatDoorSchematells29
import Derived.Test.YtkkjchfhgjfclabGreatDoorSchematells24
import Derived.Test.YtkkjchfhgjfclabGreatDoorSchematells31
import Derived.Test.YtkkjchfhgjfclabGreatDoorSchematells10
namespace Go.Proofs.YtkkjchfhgjfclabGreatDoor
open Go.RowKit

def FB (f : FieldT) : Obj := .cells #[.string ⟨f.name.toArray⟩, .int .i64 f.kind, .string ⟨f.of.toArray⟩] 40 (0, 0)
theorem RowB.fld {w wr : World} {v : Value} {T : List Tok} {g : Nat} {f : FieldT} (h : RowB w wr v T g (FB f)) :
    wr.cell? ⟨g, 0, none⟩ = some (.string ⟨f.name.toArray⟩) ∧ wr.cell? ⟨g, 1, none⟩ = some (.int .i64 f.kind) ∧ wr.cell? ⟨g, 2, none⟩ = some (.string ⟨f.of.toArray⟩) := blk3 h.box

/-- since w there is a row v of the tokens T, new -/
structure RowO (w wr : World) (v : Value) (T : List Tok) : Prop where
  same : Same w wr
  own : wr.ownsRow w.heap.size 65 3 v T.length (tokCells T)
theorem RowO.step {w wr w1 : World} {v : Value} {T : List Tok} (h : RowO w wr v T) (hk : Same wr w1) : RowO w w1 v T := ⟨tra h.same hk, own_kept h.own hk (fun _ _ f => f)⟩
theorem RowO.app {w w1 w2 : World} {v v2 : Value} {T : List Tok} (h : RowO w w1 v T) (N : List Tok) {cs : List Value} {n : Nat} (hcs : cs = tokCells N) (hn : n = N.length)
    (hown : w2.ownsRow w.heap.size 65 3 v2 (T.length + n) (tokCells T ++ cs)) (hgr : w1.grownBy w2 v.ownBlock) : RowO w w2 v2 (T ++ N) := by
  obtain ⟨h1, h2⟩ := row_app h.same h.own N hcs hn hown hgr
  exact ⟨h1, h2⟩
theorem RowB.row {w wr : World} {v : Value} {T : List Tok} {g : Nat} {o : Obj} (h : RowB w wr v T g o) : RowO w wr v T := ⟨h.same, h.own⟩

theorem fieldToks_step (l : List FieldT) (j : Nat) (h : j < l.length) : fieldToks (l.take (j + 1)) = fieldToks (l.take j) ++ [nameT l[j].name, signT [58]] ++ kindToks l[j] := by
  rw [List.take_succ_eq_append_getElem h, fieldToks_app]
  simp [fieldToks]

set_option maxRecDepth 20000 in
set_option maxHeartbeats 6400000 in
theorem schemaBytes_any (w : World) (v : Value) (l : List TypeT) (P : Nat → Prop) (h : TypSl P w v l) (hl : l.length ≤ 5) (h6 : ∀ t ∈ l, t.fields.length ≤ 6) (hok : lexCheck (typeToks l) = 0) :
    Calls Tryz.prog 20 #[v] w fun e w' => ∃ b : ByteArray, e = .returned (.string b) ∧ b.data.toList = printSc l ∧ Same w w' := by
  obtain ⟨ao, cap, rfl, _, _⟩ := id h
  obtain ⟨i0, hi, hz0, hz1, hz2⟩ := info_parts info39
  have HH := hide h
  have H6 := hide h6
  have HOK := hide hok
  have HMX := hide (show ∀ i, (typeToks (l.take i)).length ≤ 170 from fun i => by
    have h1 := (typeToks_max (l.take i) (fun t ht => h6 t (List.mem_of_mem_take ht))).1
    have h2 : (l.take i).length ≤ l.length := by rw [List.length_take]; omega
    omega)
  clear h h6 hok
  go_enter Tryz.func20, Tryz.ntmps20
  go_wp2_with fail
  go_loopg [3, 4] l.length (fun g v i wr => ∃ (j : Nat) (T : List Tok), j + g = l.length ∧ i = .int .i64 j ∧ Hid (T = typeToks (l.take j)) ∧ Hid (RowO w wr v T))
  case atStart => exact ⟨0, [], by omega, rfl, rfl, Kept.refl _ _, World.ownsRow_nil _ _ _ _⟩
  case round =>
    obtain ⟨i, T, hg, rfl, HT, HR⟩ := hrel
    obtain ⟨ao3, cap3, hv3⟩ := own_slice HR.out.own
    subst hv3
    have hTl : T.length ≤ 170 := by rw [HT.out]; exact HMX.out i
    by_cases hlt : i < l.length
    · obtain ⟨b, off, af, nf, cf, rfl, c0, c1, hnf, hfs⟩ := HH.out.at i hlt
      have HTS := hide (show typeToks (l.take (i + 1)) = typeToks (l.take i) ++ typeTok l[i] by rw [List.take_succ_eq_append_getElem hlt, typeToks_app, typeToks_one])
      have ht6 := H6.out l[i] (List.getElem_mem hlt)
      obtain ⟨t, hte⟩ : ∃ t, t = l[i] := ⟨_, rfl⟩
      rw [← hte] at HTS c0 hnf hfs ht6
      clear hte
      subst hnf
      have HC := hide (show ∀ wx, Same w wx → wx.cell? ⟨b, off + i * 2, none⟩ = some (.string ⟨t.name.toArray⟩) ∧ wx.cell? ⟨b, off + i * 2 + 1, none⟩ = some (.slice af t.fields.length cf) from fun wx hk => ⟨hk.cell c0 (fun f => f), hk.cell c1 (fun f => f)⟩)
      have HFS := hide (show ∀ wx, Same w wx → FldSl P wx (.slice af t.fields.length cf) t.fields from fun wx hk => hfs.same hk)
      clear c0 c1 hfs
      go_upto_region 5 with fail
      go_cut [3] from 7 to 84 (fun v wx => ∃ T1, Hid (T1 = T ++ [nameT bType, nameT t.name, signT [123]]) ∧ Hid (RowO w wx v T1))
      case first =>
        have hKc : Same wr wr.drew := (Kept.refl _ _).drew
        have hKd : ∀ n, Same wr (wr.drewN n) := fun n => (Kept.refl _ _).drewN n
        obtain ⟨f0, f1⟩ := HC.out wr HR.out.same
        have f0d : ∀ n, (wr.drewN n).cell? ⟨b, off + i * 2, none⟩ = some (.string ⟨t.name.toArray⟩) := fun n => f0
        go_region_law (first
          | (refine step_call rfl 35 _ _ rfl #[.string ⟨#[116, 121, 112, 101]⟩] ?hvs (enters_word _) (word_ref _ _) ?_; (case hvs => (simp [Act.eval]; done)); rintro e wn ⟨rfl, hKn⟩; refine ⟨_, rfl, ?_⟩; have hKc := tra (by first | exact hKc | exact hKd _) hKn; obtain ⟨f0, f1⟩ := HC.out _ (tra HR.out.same hKc); clear hKn)
          | (refine step_call rfl 35 _ _ rfl #[.string ⟨t.name.toArray⟩] ?hvs (enters_word _) (word_ref _ _) ?_; (case hvs => (simp [Act.eval]; done)); rintro e wn ⟨rfl, hKn⟩; refine ⟨_, rfl, ?_⟩; have hKc := tra (by first | exact hKc | exact hKd _) hKn; obtain ⟨f0, f1⟩ := HC.out _ (tra HR.out.same hKc); clear hKn)
          | (refine step_call rfl 34 _ _ rfl #[.string ⟨#[123]⟩] ?hvs (enters_sign _) (sign_ref _ _) ?_; (case hvs => (simp [Act.eval]; done)); rintro e wn ⟨rfl, hKn⟩; refine ⟨_, rfl, ?_⟩; have hKc := tra (by first | exact hKc | exact hKd _) hKn; obtain ⟨f0, f1⟩ := HC.out _ (tra HR.out.same hKc); clear hKn)
          | (have hownz := (HR.out.step hKc).own; refine step_append_at rfl (.tmp 13) (.tmp 22) 29 rfl w.heap.size 65 i0 _ 3 32 Tryz.underlying29 hi hz0 hz1 hz2 rfl (by decide) (.slice ao3 T.length cap3) T.length (tokCells T) (by simp [Act.eval]) (by exact hownz.alloc _) ⟨wn.heap.size, 0, none⟩ 3 3 (tokCells [nameT bType, nameT t.name, signT [123]]) (by simp [Act.eval]) rfl (by exact new_cs wn _ _) (tokCells_one _) (by unfold maxLen; omega) (by omega) (by have := (HR.out.step hKc).same.size; simp; omega) ?_; intro v5 w5 hown5 hgr5 hat5))
        all_goals
          have HX := hide (((HR.out.step hKc).step ((Kept.refl _ wn).alloc _)).app [nameT bType, nameT t.name, signT [123]] rfl rfl hown5 hgr5)
          clear hown5 hgr5 hat5 hownz f0 f1 f0d hKc hKd
          go_wp2_with fail
          go_meet
          case rel => exact ⟨T ++ [nameT bType, nameT t.name, signT [123]], rfl, HX.out⟩
      case rest =>
      obtain ⟨T1, HT1, HR1⟩ := hcut
      have hT1l : T1.length ≤ 173 := by rw [HT1.out, List.length_append]; simp; omega
      obtain ⟨G, hG1, hG2⟩ : ∃ G, G ≤ gk ∧ gk ≤ G := ⟨gk, Nat.le_refl _, Nat.le_refl _⟩
      go_wp2_with fail
      go_loopg [3, 5] t.fields.length (fun g v k wx => ∃ (j : Nat) (T2 : List Tok), j + g = t.fields.length ∧ k = .int .i64 j ∧ Hid (T2 = T1 ++ fieldToks (t.fields.take j)) ∧ Hid (RowO w wx v T2))
      case atStart => exact ⟨0, T1, by omega, rfl, by rw [Hid]; simp [fieldToks], HR1.out⟩
      case round =>
        obtain ⟨j, T2, hj, rfl, HT2, HR2⟩ := hrel
        obtain ⟨ao4, cap4, hv4⟩ := own_slice HR2.out.own
        subst hv4
        clear HR1
        have hT2l : T2.length ≤ 300 := by
          have h1 := (fieldToks_max (t.fields.take j)).1
          have h2 : (t.fields.take j).length ≤ t.fields.length := by rw [List.length_take]; omega
          rw [HT2.out, List.length_append]
          omega
        obtain ⟨c0, c1⟩ := HC.out wr HR2.out.same
        by_cases hlj : j < t.fields.length
        · obtain ⟨b2, o2, rfl, r0, r1, r2⟩ := (HFS.out wr HR2.out.same).at j hlj
          have HFT := hide (fieldToks_step t.fields j hlj)
          obtain ⟨f, hfe⟩ : ∃ f, f = t.fields[j] := ⟨_, rfl⟩
          rw [← hfe] at HFT r0 r1 r2
          clear hfe
          obtain ⟨w0, hw0⟩ : ∃ w0, w0 = wr.alloc (.cells #[.string ⟨f.name.toArray⟩, .int .i64 f.kind, .string ⟨f.of.toArray⟩] 40) := ⟨_, rfl⟩
          have kA : Same wr w0 := by rw [hw0]; exact (Kept.refl _ wr).alloc _
          have HR3 := hide (show RowB w w0 (.slice ao4 T2.length cap4) T2 wr.heap.size (FB f) from
            ⟨tra HR2.out.same kA, own_kept HR2.out.own kA (fun _ _ f => f), by rw [hw0]; exact heap_alloc_new wr _, (fun e => by have := (own_up HR2.out.own _ e).2; omega), HR2.out.same.size⟩)
          clear kA
          obtain ⟨x0, x1, x2⟩ := HR3.out.fld
          have hxl := HR3.out.lt
          go_wp2_with fail
          rw [← hw0]
          clear hw0 r0 r1 r2 c0 c1
          obtain ⟨g, hgg⟩ : ∃ g, g = wr.heap.size := ⟨_, rfl⟩
          rw [← hgg] at HR3 x0 x1 x2 hxl
          rw [← hgg]
          clear hgg x1 x2
          refine (word_ref _ _).mono ?_
          rintro e w2 ⟨rfl, hK2⟩
          go_wp2_with fail
          refine (sign_ref _ _).mono ?_
          rintro e w3 ⟨rfl, hK3⟩
          have HR4 := hide ((HR3.out.step hK2).step hK3)
          have hown4 := HR4.out.own
          have hws4 : w.heap.size ≤ w3.heap.size := HR4.out.same.size
          clear hK2 hK3 x0 hxl HR3 HR2
          go_wp2_with (at_builtin; refine wpList_append_own_at _ rfl _ _ 29 rfl w.heap.size 65 i0 _ 3 32 Tryz.underlying29 hi hz0 hz1 hz2 rfl (by decide) _ _ _ rfl (hown4.alloc _) ⟨w3.heap.size, 0, none⟩ 2 2 (tokCells [nameT f.name, signT [58]]) rfl rfl ?a1 ?a2 ?a3 ?a4 ?a5 ?_)
          case a1 => exact new_cs w3 _ _
          case a2 => exact tokCells_one _
          case a3 => unfold maxLen; omega
          case a4 => omega
          case a5 => simp; omega
          intro v5 w5 hown5 hgr5 _ hat5
          have HX := hide ((HR4.out.step ((Kept.refl _ w3).alloc _)).app [nameT f.name, signT [58]] rfl rfl hown5 hgr5 (by simpa using hat5))
          clear hown5 hgr5 hat5 hown4 HR4
          have hT3l : (T2 ++ [nameT f.name, signT [58]]).length ≤ 302 := by rw [List.length_append]; simp; omega
          have HT3 := hide (show ∀ N, N = kindToks f → (T2 ++ [nameT f.name, signT [58]]) ++ N = T1 ++ fieldToks (t.fields.take (j + 1)) from fun N hN => by rw [hN, HFT.out, HT2.out]; simp only [List.append_assoc])
          obtain ⟨T3, hT3⟩ : ∃ T3, T3 = T2 ++ [nameT f.name, signT [58]] := ⟨_, rfl⟩
          rw [← hT3] at HX hT3l HT3
          clear hT3 HT2 HFT
          obtain ⟨ao6, cap6, hv6⟩ := own_slice HX.out.own
          subst hv6
          obtain ⟨x0, x1, x2⟩ := HX.out.fld
          have hxl := HX.out.lt
          by_cases k1 : f.kind = 1
          · have HKT := hide (show [nameT bNumber] = kindToks f from by simp [kindToks, k1])
            rw [k1] at x1
            clear k1
            go_wp2_with fail
            refine (word_ref _ _).mono ?_
            rintro e w7 ⟨rfl, hK7⟩
            have HR7 := hide (HX.out.step hK7)
            have hown7 := HR7.out.own
            have hws7 : w.heap.size ≤ w7.heap.size := HR7.out.same.size
            clear hK7 x0 x1 x2 hxl
            go_wp2_with (at_builtin; refine wpList_append_own_at _ rfl _ _ 29 rfl w.heap.size 65 i0 _ 3 32 Tryz.underlying29 hi hz0 hz1 hz2 rfl (by decide) _ _ _ rfl (hown7.alloc _) ⟨w7.heap.size, 0, none⟩ 1 1 (tokCells [nameT bNumber]) rfl rfl ?a1 ?a2 ?a3 ?a4 ?a5 ?_)
            case a1 => exact new_cs w7 _ _
            case a2 => exact tokCells_one _
            case a3 => unfold maxLen; omega
            case a4 => omega
            case a5 => simp; omega
            intro v8 w8 hown8 hgr8 _ hat8
            have HY := hide ((HR7.out.row.step ((Kept.refl _ w7).alloc _)).app [nameT bNumber] rfl rfl hown8 hgr8)
            clear hown8 hgr8 hat8 hown7
            go_wp2_with fail
            go_roundg (gk - 1)
            case measure => omega
            case rel => exact ⟨j + 1, T3 ++ [nameT bNumber], by omega, by go_num, HT3.out _ HKT.out, HY.out⟩
          · have k1b : (f.kind == 1) = false := by simp [k1]
            by_cases k2 : f.kind = 2
            · have HKT := hide (show [nameT bText] = kindToks f from by simp [kindToks, k2])
              rw [k2] at x1
              clear k2 k1 k1b
              go_wp2_with fail
              refine (word_ref _ _).mono ?_
              rintro e w7 ⟨rfl, hK7⟩
              have HR7 := hide (HX.out.step hK7)
              have hown7 := HR7.out.own
              have hws7 : w.heap.size ≤ w7.heap.size := HR7.out.same.size
              clear hK7 x0 x1 x2 hxl
              go_wp2_with (at_builtin; refine wpList_append_own_at _ rfl _ _ 29 rfl w.heap.size 65 i0 _ 3 32 Tryz.underlying29 hi hz0 hz1 hz2 rfl (by decide) _ _ _ rfl (hown7.alloc _) ⟨w7.heap.size, 0, none⟩ 1 1 (tokCells [nameT bText]) rfl rfl ?a1 ?a2 ?a3 ?a4 ?a5 ?_)
              case a1 => exact new_cs w7 _ _
              case a2 => exact tokCells_one _
              case a3 => unfold maxLen; omega
              case a4 => omega
              case a5 => simp; omega
              intro v8 w8 hown8 hgr8 _ hat8
              have HY := hide ((HR7.out.row.step ((Kept.refl _ w7).alloc _)).app [nameT bText] rfl rfl hown8 hgr8)
              clear hown8 hgr8 hat8 hown7
              go_wp2_with fail
              go_roundg (gk - 1)
              case measure => omega
              case rel => exact ⟨j + 1, T3 ++ [nameT bText], by omega, by go_num, HT3.out _ HKT.out, HY.out⟩
            · have k2b : (f.kind == 2) = false := by simp [k2]
              by_cases k3 : f.kind = 3
              · have HKT := hide (show [nameT f.of] = kindToks f from by simp [kindToks, k3])
                rw [k3] at x1
                clear k3 k1 k2 k1b k2b
                go_wp2_with fail
                refine (word_ref _ _).mono ?_
                rintro e w7 ⟨rfl, hK7⟩
                have HR7 := hide (HX.out.step hK7)
                have hown7 := HR7.out.own
                have hws7 : w.heap.size ≤ w7.heap.size := HR7.out.same.size
                clear hK7 x0 x1 x2 hxl
                go_wp2_with (at_builtin; refine wpList_append_own_at _ rfl _ _ 29 rfl w.heap.size 65 i0 _ 3 32 Tryz.underlying29 hi hz0 hz1 hz2 rfl (by decide) _ _ _ rfl (hown7.alloc _) ⟨w7.heap.size, 0, none⟩ 1 1 (tokCells [nameT f.of]) rfl rfl ?a1 ?a2 ?a3 ?a4 ?a5 ?_)
                case a1 => exact new_cs w7 _ _
                case a2 => exact tokCells_one _
                case a3 => unfold maxLen; omega
                case a4 => omega
                case a5 => simp; omega
                intro v8 w8 hown8 hgr8 _ hat8
                have HY := hide ((HR7.out.row.step ((Kept.refl _ w7).alloc _)).app [nameT f.of] rfl rfl hown8 hgr8)
                clear hown8 hgr8 hat8 hown7
                go_wp2_with fail
                go_roundg (gk - 1)
                case measure => omega
                case rel => exact ⟨j + 1, T3 ++ [nameT f.of], by omega, by go_num, HT3.out _ HKT.out, HY.out⟩
              · have k3b : (f.kind == 3) = false := by simp [k3]
                by_cases k4 : f.kind = 4
                · have HKT := hide (show [signT [91], nameT f.of, signT [93]] = kindToks f by simp [kindToks, k4])
                  rw [k4] at x1
                  have HF := hide (show ∀ wx, Same w5 wx → wx.cell? ⟨g, 2, none⟩ = some (.string ⟨f.of.toArray⟩) from fun wx hk => (HX.out.step hk).fld.2.2)
                  clear k1 k2 k3 k4 k1b k2b k3b
                  go_wp2_with fail
                  have hKc : Same w5 w5.drew := (Kept.refl _ _).drew
                  have hKd : ∀ n, Same w5 (w5.drewN n) := fun n => (Kept.refl _ _).drewN n
                  have f0d : ∀ n, (w5.drewN n).cell? ⟨g, 2, none⟩ = some (.string ⟨f.of.toArray⟩) := fun n => x2
                  go_region_law (first
                    | (refine step_call rfl 35 _ _ rfl #[.string ⟨f.of.toArray⟩] ?hvs (enters_word _) (word_ref _ _) ?_; (case hvs => (simp [Act.eval]; done)); rintro e wn ⟨rfl, hKn⟩; refine ⟨_, rfl, ?_⟩; have hKc := tra (by first | exact hKc | exact hKd _) hKn; have x2 := HF.out _ hKc; clear hKn)
                    | (refine step_call rfl 34 _ _ rfl #[.string ⟨#[91]⟩] ?hvs (enters_sign _) (sign_ref _ _) ?_; (case hvs => (simp [Act.eval]; done)); rintro e wn ⟨rfl, hKn⟩; refine ⟨_, rfl, ?_⟩; have hKc := tra (by first | exact hKc | exact hKd _) hKn; have x2 := HF.out _ hKc; clear hKn)
                    | (refine step_call rfl 34 _ _ rfl #[.string ⟨#[93]⟩] ?hvs (enters_sign _) (sign_ref _ _) ?_; (case hvs => (simp [Act.eval]; done)); rintro e wn ⟨rfl, hKn⟩; refine ⟨_, rfl, ?_⟩; have hKc := tra (by first | exact hKc | exact hKd _) hKn; have x2 := HF.out _ hKc; clear hKn)
                    | (have hownz := (HX.out.step hKc).own; refine step_append_at rfl (.tmp 73) (.tmp 79) 29 rfl w.heap.size 65 i0 _ 3 32 Tryz.underlying29 hi hz0 hz1 hz2 rfl (by decide) (.slice ao6 T3.length cap6) T3.length (tokCells T3) (by simp [Act.eval]) (by exact hownz.alloc _) ⟨wn.heap.size, 0, none⟩ 3 3 (tokCells [signT [91], nameT f.of, signT [93]]) (by simp [Act.eval]) rfl (by exact new_cs wn _ _) (tokCells_one _) (by unfold maxLen; omega) (by omega) (by have := (HX.out.step hKc).same.size; simp; omega) ?_; intro v8 w8 hown8 hgr8 hat8))
                  all_goals
                    have HY := hide ((((HX.out.step hKc).row).step ((Kept.refl _ wn).alloc _)).app [signT [91], nameT f.of, signT [93]] rfl rfl hown8 hgr8)
                    clear hown8 hgr8 hat8 hownz x0 x1 x2 hKc hKd f0d
                    go_wp2_with fail
                    go_roundg (gk - 1)
                    case measure => omega
                    case rel => exact ⟨j + 1, T3 ++ [signT [91], nameT f.of, signT [93]], by omega, by go_num, HT3.out _ HKT.out, HY.out⟩
                · have k4b : (f.kind == 4) = false := by simp [k4]
                  have HKT := hide (show [] = kindToks f by simp [kindToks, k1, k2, k3, k4])
                  clear k1 k2 k3 k4
                  go_wp2_with fail
                  go_roundg (gk - 1)
                  case measure => omega
                  case rel => exact ⟨j + 1, T3, by omega, by go_num, by have := HT3.out _ HKT.out; rw [List.append_nil] at this; exact this, HX.out.row⟩
        · have HTE := hide (show T2 ++ [signT [125]] = typeToks (l.take (i + 1)) by
            rw [HTS.out, HT2.out, HT1.out, HT.out, show t.fields.take j = t.fields from List.take_of_length_le (by omega), typeTok]; simp)
          go_wp2_with fail
          refine (sign_ref _ _).mono ?_
          rintro e w3 ⟨rfl, hK3⟩
          have HR4 := hide (HR2.out.step hK3)
          have hown4 := HR4.out.own
          have hws4 : w.heap.size ≤ w3.heap.size := HR4.out.same.size
          clear hK3 c0 c1
          go_wp2_with (at_builtin; refine wpList_append_own_at _ rfl _ _ 29 rfl w.heap.size 65 i0 _ 3 32 Tryz.underlying29 hi hz0 hz1 hz2 rfl (by decide) _ _ _ rfl (hown4.alloc _) ⟨w3.heap.size, 0, none⟩ 1 1 (tokCells [signT [125]]) rfl rfl ?a1 ?a2 ?a3 ?a4 ?a5 ?_)
          case a1 => exact new_cs w3 _ _
          case a2 => exact tokCells_one _
          case a3 => unfold maxLen; omega
          case a4 => omega
          case a5 => simp; omega
          intro v5 w5 hown5 hgr5 _ hat5
          have HY := hide ((HR4.out.step ((Kept.refl _ w3).alloc _)).app [signT [125]] rfl rfl hown5 hgr5)
          clear hown5 hgr5 hat5 hown4 HR4
          go_wp2_with fail
          go_roundg (G - 1)
          case measure => omega
          case rel => exact ⟨i + 1, T2 ++ [signT [125]], by omega, by go_num, HTE.out, HY.out⟩
    · have HTL := hide (show T = typeToks l by rw [HT.out, List.take_of_length_le (by omega)])
      have HTS := hide (own_toks HR.out.own (by omega))
      go_wp2_with fail
      refine (rBytes_any _ _ T HTS.out (by rw [HTL.out]; exact HOK.out)).mono ?_
      rintro e w3 ⟨b, rfl, hb, hK3⟩
      have HB := hide hb
      clear hb
      go_wp2_with fail
      go_ret
      exact ⟨b, rfl, by rw [HB.out, HTL.out]; rfl, tra HR.out.same hK3⟩

end Go.Proofs.YtkkjchfhgjfclabGreatDoor
