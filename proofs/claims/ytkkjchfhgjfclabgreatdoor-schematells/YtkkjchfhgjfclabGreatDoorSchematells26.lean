import Derived.Test.YtkkjchfhgjfclabGreatDoorSchematells17
import Derived.Test.YtkkjchfhgjfclabGreatDoorProg
import Derived.Shelf.Strings.BuilderK
/- lex.quoted, lex.written. -/
namespace Go.Proofs.YtkkjchfhgjfclabGreatDoor
open Go.RowKit

set_option maxHeartbeats 1600000 in
theorem quoted_any (w : World) (s : ByteArray) (hs : s.size ≤ 2000) :
    Calls Tryz.prog 89 #[.string s] w fun e w' => e = .returned (.string ⟨(quoteL s.data.toList).toArray⟩) ∧ Same w w' := by
  obtain ⟨i0, hi, hz0, hz1, hz2⟩ := info_parts info5
  go_enter Tryz.func89, Tryz.ntmps89
  go_wp2_with fail
  go_loopg [3, 9] s.size (fun g tv i wr => ∃ (k : Nat) (T : List UInt8), k + g = s.size ∧ i = .int .i64 k ∧ T.length ≤ 2 * k + 1 ∧ Same w wr ∧ Hid (34 :: (s.data.toList.take k).flatMap quoteC = T) ∧ wr.ownsRow w.heap.size 5 1 tv T.length (Lib.byteCells T))
  case atStart =>
    refine ⟨0, [34], by omega, rfl, by simp, (by repeat' (first | assumption | exact Kept.refl _ _ | refine Kept.drewN ?_ _ | refine Kept.drew ?_ | refine Kept.alloc ?_ _ | refine Kept.setB ?_ _ _)), by simp [Hid], ?_⟩
    exact ⟨rfl, .inr ⟨w.heap.size, 1, _, rfl, Nat.le_refl _, heap_alloc_new w _, by decide, by decide, rfl, rfl⟩⟩
  case round =>
    obtain ⟨k, T, hk, rfl, hTl, hK, HE, hown⟩ := hrel
    by_cases hlt : k < s.size
    · have hq : 34 :: (s.data.toList.take (k + 1)).flatMap quoteC = (34 :: (s.data.toList.take k).flatMap quoteC) ++ quoteC s[k] := by rw [take_at hlt]; simp
      have h256 : (s[k].toNat : Int) < 256 := by have := s[k].toNat_lt; omega
      obtain ⟨c, hc⟩ : ∃ c : Int, (s[k].toNat : Int) = c := ⟨_, rfl⟩
      rcases (show c = 34 ∨ c = 92 ∨ c = 10 ∨ (c ≠ 34 ∧ c ≠ 92 ∧ c ≠ 10) from by omega) with h | h | h | h
      · have HQ := hide (show 34 :: (s.data.toList.take (k + 1)).flatMap quoteC = (34 :: (s.data.toList.take k).flatMap quoteC) ++ [92, s[k]] by rw [hq, quoteC, if_pos (by omega)])
        have t1 : ((s[k].toNat : Int) == 34) = true := by simp; omega
        clear hq h hc h256
        go_wp2_with (at_builtin; refine wpList_append_own _ rfl _ _ 90 rfl w.heap.size 5 i0 (.int .u8 0) 1 1 Tryz.underlying90 hi hz0 hz1 hz2 rfl (by decide) _ _ _ rfl (hown.alloc _) ⟨wr.heap.size, 0, none⟩ 2 2 [.int .u8 92, .int .u8 s[k].toNat] rfl rfl ?a1 ?a2 ?a3 ?a4 ?a5 ?_)
        case a1 =>
          intro jj u hjj
          match jj, hjj with
          | 0, hjj => simp at hjj; subst hjj; simp [Addr.add]
          | 1, hjj => simp at hjj; subst hjj; simp [Addr.add]
        case a2 => intro u hu; simp at hu; rcases hu with rfl | rfl <;> rfl
        case a3 => unfold maxLen; omega
        case a4 => omega
        case a5 => have := hK.size; simp; omega
        intro v5 w5 hown5 hgr5 _
        have hT5 : w5.ownsRow w.heap.size 5 1 v5 (T ++ [92, s[k]]).length (Lib.byteCells (T ++ [92, s[k]])) := by
          have e1 : Lib.byteCells (T ++ [92, s[k]]) = Lib.byteCells T ++ [.int .u8 92, .int .u8 s[k].toNat] := by simp [Lib.byteCells]
          rw [e1, List.length_append]; exact hown5
        have hK8 : Same w w5 := (hK.alloc _).grown hgr5 (fun k hk hlt => by have := own_row hown k hk; omega)
        clear hown5 hgr5
        go_wp2_with fail
        go_roundg (gk - 1)
        case measure => omega
        case rel => exact ⟨k + 1, T ++ [92, s[k]], by omega, by go_num, by rw [List.length_append]; simp; omega, hK8, by rw [HQ.out, HE.out]; exact hide rfl, hT5⟩
      · have HQ := hide (show 34 :: (s.data.toList.take (k + 1)).flatMap quoteC = (34 :: (s.data.toList.take k).flatMap quoteC) ++ [92, s[k]] by rw [hq, quoteC, if_pos (by omega)])
        have t1 : ((s[k].toNat : Int) == 34) = false := by simp; omega
        have t2 : ((s[k].toNat : Int) == 92) = true := by simp; omega
        clear hq h hc h256
        go_wp2_with (at_builtin; refine wpList_append_own _ rfl _ _ 90 rfl w.heap.size 5 i0 (.int .u8 0) 1 1 Tryz.underlying90 hi hz0 hz1 hz2 rfl (by decide) _ _ _ rfl (hown.alloc _) ⟨wr.heap.size, 0, none⟩ 2 2 [.int .u8 92, .int .u8 s[k].toNat] rfl rfl ?b1 ?b2 ?b3 ?b4 ?b5 ?_)
        case b1 =>
          intro jj u hjj
          match jj, hjj with
          | 0, hjj => simp at hjj; subst hjj; simp [Addr.add]
          | 1, hjj => simp at hjj; subst hjj; simp [Addr.add]
        case b2 => intro u hu; simp at hu; rcases hu with rfl | rfl <;> rfl
        case b3 => unfold maxLen; omega
        case b4 => omega
        case b5 => have := hK.size; simp; omega
        intro v5 w5 hown5 hgr5 _
        have hT5 : w5.ownsRow w.heap.size 5 1 v5 (T ++ [92, s[k]]).length (Lib.byteCells (T ++ [92, s[k]])) := by
          have e1 : Lib.byteCells (T ++ [92, s[k]]) = Lib.byteCells T ++ [.int .u8 92, .int .u8 s[k].toNat] := by simp [Lib.byteCells]
          rw [e1, List.length_append]; exact hown5
        have hK8 : Same w w5 := (hK.alloc _).grown hgr5 (fun k hk hlt => by have := own_row hown k hk; omega)
        clear hown5 hgr5
        go_wp2_with fail
        go_roundg (gk - 1)
        case measure => omega
        case rel => exact ⟨k + 1, T ++ [92, s[k]], by omega, by go_num, by rw [List.length_append]; simp; omega, hK8, by rw [HQ.out, HE.out]; exact hide rfl, hT5⟩
      · have HQ := hide (show 34 :: (s.data.toList.take (k + 1)).flatMap quoteC = (34 :: (s.data.toList.take k).flatMap quoteC) ++ [92, 110] by rw [hq, quoteC, if_neg (by omega), if_pos (by omega)])
        have t1 : ((s[k].toNat : Int) == 34) = false := by simp; omega
        have t2 : ((s[k].toNat : Int) == 92) = false := by simp; omega
        have t3 : ((s[k].toNat : Int) == 10) = true := by simp; omega
        clear hq h hc h256
        go_wp2_with (at_builtin; refine wpList_append_own _ rfl _ _ 90 rfl w.heap.size 5 i0 (.int .u8 0) 1 1 Tryz.underlying90 hi hz0 hz1 hz2 rfl (by decide) _ _ _ rfl (hown.alloc _) ⟨wr.heap.size, 0, none⟩ 2 2 [.int .u8 92, .int .u8 110] rfl rfl ?c1 ?c2 ?c3 ?c4 ?c5 ?_)
        case c1 =>
          intro jj u hjj
          match jj, hjj with
          | 0, hjj => simp at hjj; subst hjj; simp [Addr.add]
          | 1, hjj => simp at hjj; subst hjj; simp [Addr.add]
        case c2 => intro u hu; simp at hu; rcases hu with rfl | rfl <;> rfl
        case c3 => unfold maxLen; omega
        case c4 => omega
        case c5 => have := hK.size; simp; omega
        intro v5 w5 hown5 hgr5 _
        have hT5 : w5.ownsRow w.heap.size 5 1 v5 (T ++ [92, 110]).length (Lib.byteCells (T ++ [92, 110])) := by
          have e1 : Lib.byteCells (T ++ [92, 110]) = Lib.byteCells T ++ [.int .u8 92, .int .u8 110] := by simp [Lib.byteCells]
          rw [e1, List.length_append]; exact hown5
        have hK8 : Same w w5 := (hK.alloc _).grown hgr5 (fun k hk hlt => by have := own_row hown k hk; omega)
        clear hown5 hgr5
        go_wp2_with fail
        go_roundg (gk - 1)
        case measure => omega
        case rel => exact ⟨k + 1, T ++ [92, 110], by omega, by go_num, by rw [List.length_append]; simp; omega, hK8, by rw [HQ.out, HE.out]; exact hide rfl, hT5⟩
      · have HQ := hide (show 34 :: (s.data.toList.take (k + 1)).flatMap quoteC = (34 :: (s.data.toList.take k).flatMap quoteC) ++ [s[k]] by rw [hq, quoteC, if_neg (by omega), if_neg (by omega)])
        have t1 : ((s[k].toNat : Int) == 34) = false := by simp; omega
        have t2 : ((s[k].toNat : Int) == 92) = false := by simp; omega
        have t3 : ((s[k].toNat : Int) == 10) = false := by simp; omega
        clear hq h hc h256
        go_wp2_with (at_builtin; refine wpList_append_own _ rfl _ _ 90 rfl w.heap.size 5 i0 (.int .u8 0) 1 1 Tryz.underlying90 hi hz0 hz1 hz2 rfl (by decide) _ _ _ rfl (hown.alloc _) ⟨wr.heap.size, 0, none⟩ 1 1 [.int .u8 s[k].toNat] rfl rfl ?d1 ?d2 ?d3 ?d4 ?d5 ?_)
        case d1 =>
          intro jj u hjj
          match jj, hjj with
          | 0, hjj => simp at hjj; subst hjj; simp [Addr.add]
        case d2 => intro u hu; simp at hu; subst hu; rfl
        case d3 => unfold maxLen; omega
        case d4 => omega
        case d5 => have := hK.size; simp; omega
        intro v5 w5 hown5 hgr5 _
        have hT5 : w5.ownsRow w.heap.size 5 1 v5 (T ++ [s[k]]).length (Lib.byteCells (T ++ [s[k]])) := by
          have e1 : Lib.byteCells (T ++ [s[k]]) = Lib.byteCells T ++ [.int .u8 s[k].toNat] := by simp [Lib.byteCells]
          rw [e1, List.length_append]; exact hown5
        have hK8 : Same w w5 := (hK.alloc _).grown hgr5 (fun k hk hlt => by have := own_row hown k hk; omega)
        clear hown5 hgr5
        go_wp2_with fail
        go_roundg (gk - 1)
        case measure => omega
        case rel => exact ⟨k + 1, T ++ [s[k]], by omega, by go_num, by rw [List.length_append]; simp; omega, hK8, by rw [HQ.out, HE.out]; exact hide rfl, hT5⟩
    · go_wp2_with (at_builtin; refine wpList_append_own _ rfl _ _ 90 rfl w.heap.size 5 i0 (.int .u8 0) 1 1 Tryz.underlying90 hi hz0 hz1 hz2 rfl (by decide) _ _ _ rfl (hown.alloc _) ⟨wr.heap.size, 0, none⟩ 1 1 [.int .u8 34] rfl rfl ?e1 ?e2 ?e3 ?e4 ?e5 ?_)
      case e1 =>
        intro jj u hjj
        match jj, hjj with
        | 0, hjj => simp at hjj; subst hjj; simp [Addr.add]
      case e2 => intro u hu; simp at hu; subst hu; rfl
      case e3 => unfold maxLen; omega
      case e4 => omega
      case e5 => have := hK.size; simp; omega
      intro v5 w5 hown5 hgr5 _
      have hT5 : w5.ownsRow w.heap.size 5 1 v5 (T ++ [34]).length (Lib.byteCells (T ++ [34])) := by
        have e1 : Lib.byteCells (T ++ [34]) = Lib.byteCells T ++ [.int .u8 34] := by simp [Lib.byteCells]
        rw [e1, List.length_append]; exact hown5
      have hK8 : Same w w5 := (hK.alloc _).grown hgr5 (fun k hk hlt => by have := own_row hown k hk; omega)
      have hconv := own_string hT5
      have HF : Hid (quoteL s.data.toList = T ++ [34]) := by
        show quoteL s.data.toList = T ++ [34]
        have e := HE.out
        rw [List.take_of_length_le (by rw [size_toList]; omega)] at e
        rw [← e, quoteL]; rfl
      clear hown5 hgr5
      go_wp2_with fail
      go_ret
      exact ⟨ret_str (by rw [HF.out]), hK8⟩

end Go.Proofs.YtkkjchfhgjfclabGreatDoor

/- The shelf's contracts on strings.Builder's writers, laid at this dump by hand (the tool passes them over). -/
namespace Go.Proofs
open Go.Shelf Go.RowKit
def Tryz.laysB_ren : Go.Shelf.Ren := ⟨fun | 166 => 54 | 167 => 53 | 240 => 87 | 276 => 123 | n => n, fun | 0 => 0 | 3 => 3 | 4 => 4 | 5 => 5 | 9 => 9 | 20 => 20 | 37 => 90 | 70 => 89 | 72 => 92 | 75 => 94 | 80 => 99 | 164 => 146 | n => n, fun | n => n⟩
theorem Tryz.laysB240 : Go.Proofs.Lays.n240 Tryz.prog Tryz.laysB_ren := {
  mixed := by kernel_rfl
  f240 := Tryz.func87.trans (congrArg some (by kernel_rfl))
  f276 := Tryz.func123.trans (congrArg some (by kernel_rfl))
  t0 := Tryz.underlying0
  a0 := Tryz.isAgg0
  z0 := Tryz.sizeOf0
  v0 := Tryz.zeroValue0
  t4 := Tryz.underlying4
  a4 := Tryz.isAgg4
  z4 := Tryz.sizeOf4
  v4 := Tryz.zeroValue4
  t9 := Tryz.underlying9
  a9 := Tryz.isAgg9
  z9 := Tryz.sizeOf9
  v9 := Tryz.zeroValue9
  t20 := Tryz.underlying20
  a20 := Tryz.isAgg20
  z20 := Tryz.sizeOf20
  v20 := Tryz.zeroValue20
  t70 := Tryz.underlying89
  a70 := Tryz.isAgg89
  z70 := Tryz.sizeOf89
  v70 := Tryz.zeroValue89
  t72 := Tryz.underlying92
  a72 := Tryz.isAgg92
  z72 := Tryz.sizeOf92
  v72 := Tryz.zeroValue92
  t164 := Tryz.underlying146
  a164 := Tryz.isAgg146
  z164 := Tryz.sizeOf146
  v164 := Tryz.zeroValue146
}
theorem Tryz.laysB167 : Go.Proofs.Lays.n167 Tryz.prog Tryz.laysB_ren := {
  mixed := by kernel_rfl
  f167 := Tryz.func53.trans (congrArg some (by kernel_rfl))
  f240 := Tryz.func87.trans (congrArg some (by kernel_rfl))
  f276 := Tryz.func123.trans (congrArg some (by kernel_rfl))
  t0 := Tryz.underlying0
  a0 := Tryz.isAgg0
  z0 := Tryz.sizeOf0
  v0 := Tryz.zeroValue0
  t4 := Tryz.underlying4
  a4 := Tryz.isAgg4
  z4 := Tryz.sizeOf4
  v4 := Tryz.zeroValue4
  t5 := Tryz.underlying5
  a5 := Tryz.isAgg5
  z5 := Tryz.sizeOf5
  v5 := Tryz.zeroValue5
  t9 := Tryz.underlying9
  a9 := Tryz.isAgg9
  z9 := Tryz.sizeOf9
  v9 := Tryz.zeroValue9
  t20 := Tryz.underlying20
  a20 := Tryz.isAgg20
  z20 := Tryz.sizeOf20
  v20 := Tryz.zeroValue20
  t37 := Tryz.underlying90
  a37 := Tryz.isAgg90
  z37 := Tryz.sizeOf90
  v37 := Tryz.zeroValue90
  t70 := Tryz.underlying89
  a70 := Tryz.isAgg89
  z70 := Tryz.sizeOf89
  v70 := Tryz.zeroValue89
  t72 := Tryz.underlying92
  a72 := Tryz.isAgg92
  z72 := Tryz.sizeOf92
  v72 := Tryz.zeroValue92
  t75 := Tryz.underlying94
  a75 := Tryz.isAgg94
  z75 := Tryz.sizeOf94
  v75 := Tryz.zeroValue94
  t164 := Tryz.underlying146
  a164 := Tryz.isAgg146
  z164 := Tryz.sizeOf146
  v164 := Tryz.zeroValue146
}
theorem Tryz.laysB166 : Go.Proofs.Lays.n166 Tryz.prog Tryz.laysB_ren := {
  mixed := by kernel_rfl
  f166 := Tryz.func54.trans (congrArg some (by kernel_rfl))
  f240 := Tryz.func87.trans (congrArg some (by kernel_rfl))
  f276 := Tryz.func123.trans (congrArg some (by kernel_rfl))
  t0 := Tryz.underlying0
  a0 := Tryz.isAgg0
  z0 := Tryz.sizeOf0
  v0 := Tryz.zeroValue0
  t3 := Tryz.underlying3
  a3 := Tryz.isAgg3
  z3 := Tryz.sizeOf3
  v3 := Tryz.zeroValue3
  t4 := Tryz.underlying4
  a4 := Tryz.isAgg4
  z4 := Tryz.sizeOf4
  v4 := Tryz.zeroValue4
  t9 := Tryz.underlying9
  a9 := Tryz.isAgg9
  z9 := Tryz.sizeOf9
  v9 := Tryz.zeroValue9
  t20 := Tryz.underlying20
  a20 := Tryz.isAgg20
  z20 := Tryz.sizeOf20
  v20 := Tryz.zeroValue20
  t37 := Tryz.underlying90
  a37 := Tryz.isAgg90
  z37 := Tryz.sizeOf90
  v37 := Tryz.zeroValue90
  t70 := Tryz.underlying89
  a70 := Tryz.isAgg89
  z70 := Tryz.sizeOf89
  v70 := Tryz.zeroValue89
  t72 := Tryz.underlying92
  a72 := Tryz.isAgg92
  z72 := Tryz.sizeOf92
  v72 := Tryz.zeroValue92
  t75 := Tryz.underlying94
  a75 := Tryz.isAgg94
  z75 := Tryz.sizeOf94
  v75 := Tryz.zeroValue94
  t164 := Tryz.underlying146
  a164 := Tryz.isAgg146
  z164 := Tryz.sizeOf146
  v164 := Tryz.zeroValue146
}
theorem Tryz.extraB : Builder.Extra Tryz.prog Tryz.laysB_ren := {
  sizeBuilder := by kernel_rfl
  liesBuilder := by kernel_rfl
  t5 := Tryz.underlying5
  a5 := Tryz.isAgg5
  z5 := Tryz.sizeOf5
  v5 := Tryz.zeroValue5
  infoByte := by kernel_rfl
  cellsByte := by kernel_rfl
  sizeByte := by kernel_rfl
  neB5 := by decide
}
theorem Tryz.bWriteByte (B b : Nat) (bs : List Value) (c : Int) (w : World) (h : Lib.IsBuilderF 92 5 B b bs w) (hlen : bs.length + 1 ≤ 140737488355328) (hBw : B ≤ w.heap.size) :
    Calls Tryz.prog 53 #[.pointer (some ⟨b, 0, none⟩), .int .u8 c] w fun e w' => e = .returned .nilIface ∧ (Lib.BuilderAtF 92 5 B b (.pointer (some ⟨b, 0, none⟩)) (bs ++ [.int .u8 c]) w' ∧ Below B w w' ∧ Lib.OthersKept 5 (some b) w w') :=
  Any.Builder_WriteByte_k Tryz.laysB167 Tryz.extraB B b bs c w h hlen hBw
theorem Tryz.bWriteString (B b : Nat) (bs : List Value) (s : ByteArray) (w : World) (h : Lib.IsBuilderF 92 5 B b bs w) (hlen : bs.length + s.size ≤ 140737488355328) (hBw : B ≤ w.heap.size) :
    Calls Tryz.prog 54 #[.pointer (some ⟨b, 0, none⟩), .string s] w fun e w' => e = .returned (.tuple #[.int .i64 s.size, .nilIface]) ∧ (Lib.BuilderAtF 92 5 B b (.pointer (some ⟨b, 0, none⟩)) (bs ++ Lib.strCells s) w' ∧ Below B w w' ∧ Lib.OthersKept 5 (some b) w w') :=
  Any.Builder_WriteString_k Tryz.laysB166 Tryz.extraB B b bs s w h hlen hBw
end Go.Proofs
