import Derived.Test.YtkkjchfhgjfclaaGreatDoorQuerytellsupto38
import Derived.Test.YtkkjchfhgjfclaaGreatDoorQuerytellsupto43
import Derived.Test.YtkkjchfhgjfclaaGreatDoorQuerytellsupto25
import Derived.Test.YtkkjchfhgjfclaaGreatDoorQuerytellsupto33
import Derived.Test.YtkkjchfhgjfclaaGreatDoorQuerytellsupto34
import Derived.Test.YtkkjchfhgjfclaaGreatDoorQuerytellsupto18
import Derived.Test.YtkkjchfhgjfclaaGreatDoorQuerytellsupto08
import Derived.Test.YtkkjchfhgjfclaaGreatDoorRows
import Derived.Test.YtkkjchfhgjfclaaGreatDoorCards
import Derived.Test.YtkkjchfhgjfclaaGreatDoorTie
import Derived.Test.YtkkjchfhgjfclaaGreatDoorQuerytellsupto28
import Derived.ProofKit
import Derived.OpenShut
import Derived.SizedLaws
import Derived.Deep.DeepHandedRow
import Derived.Deep.DeepWitnessRowRef
import Derived.Lib.LaidTab
import Derived.Stop.LaidErr
/- The reference's QueryOf. -/
namespace Go.Proofs.YtkkjchfhgjfclaaGreatDoor
open Go.RowKit

/-- what QueryOf answers -/
def QO (w : World) (s : ByteArray) (e : Ending) (w' : World) : Prop :=
  (∃ l v, readQ s.data.toList = .ok l ∧ e = .returned (.tuple #[v, .int .i64 0]) ∧ SelSlP (fun b => w.heap.size ≤ b) w' v l ∧ Same w w') ∨ (∃ n : Int, readQ s.data.toList = .error n ∧ n ≠ 0 ∧ e = .returned (.tuple #[.slice none 0 0, .int .i64 n]) ∧ Same w w')

theorem pQuery_at {T : List Tok} {s : Sels} {k : Nat} (h : isS 123 (T.drop 0) = true) (hp : pSels (T.length - 1) (T.drop (0 + 1)) = some (s, T.drop k)) : pQuery T = if T.length ≤ k then some s else none := by
  rw [List.drop_zero] at h
  rw [pQuery, if_pos h, ← List.drop_one, List.length_drop]
  rw [Nat.zero_add] at hp
  rw [hp]
  by_cases hk : T.length ≤ k
  · rw [if_pos hk, List.drop_eq_nil_of_le hk]
  · rw [if_neg hk, List.drop_eq_getElem_cons (by omega)]
theorem pQuery_not {T : List Tok} (h : isS 123 (T.drop 0) = false ∨ pSels (T.length - 1) (T.drop (0 + 1)) = none) : pQuery T = none := by
  rw [List.drop_zero, Nat.zero_add] at h
  rw [pQuery]
  rcases h with h | h
  · rw [if_neg (by rw [h]; simp)]
  · by_cases hs : isS 123 T = true
    · rw [if_pos hs, ← List.drop_one, List.length_drop, h]
    · rw [if_neg hs]

theorem pSels_size {f : Nat} {r r' : List Tok} {s : Sels} (h : pSels f r = some (s, r')) (hr : r.length ≤ 300) : s.size' ≤ 4000000 := by
  have h1 := (pSels_len _ _ _ _ h).2
  have h2 := size_toks s
  omega

set_option maxRecDepth 20000 in
set_option maxHeartbeats 3200000 in
theorem queryOf_any (w : World) (s : ByteArray) : Calls Tryz.prog 9 #[.string s] w (QO w s) := by
  cases hlx : lexRead s.data.toList with
  | error n =>
    have HL := hide hlx
    clear hlx
    go_enter Tryz.func9, Tryz.ntmps9
    go_wp2_with fail
    refine (tokens_no _ s n HL.out).mono ?_
    rintro e w1 ⟨rfl, hK1, hn⟩
    have hn' : (n != 0) = true := by simp [hn]
    have HN := hide hn
    clear hn
    go_wp2_with fail
    go_ret2
    exact .inr ⟨n, readQ_err HL.out, HN.out, rfl, hK1⟩
  | ok T =>
    have hT := lexRead_len hlx
    have HL := hide hlx
    clear hlx
    go_enter Tryz.func9, Tryz.ntmps9
    go_wp2_with fail
    refine (tokens_is _ s T HL.out (by omega)).mono ?_
    rintro e w1 ⟨ao, cap, rfl, hts, hK1⟩
    have HK1 := hide hK1
    have HSA := hide (selAt_any (T.length - 1) w1 _ T 0 hts hT (by omega) (by omega))
    clear hts hK1
    go_wp2_with fail
    refine HSA.out.mono ?_
    rintro e w2 (⟨q, v, k2, hq1, hq2, ⟨hk2a, hk2b⟩, rfl, hsl, hK2⟩ | ⟨hor, rfl, hK2⟩)
    · have HPQ := hide (pQuery_at hq1 hq2)
      have HSZ := hide (pSels_size hq2 (by rw [List.length_drop]; omega))
      obtain ⟨av, cv, hv, _⟩ := id hsl
      subst hv
      have HSL := hide hsl
      have HK2 := hide (tra HK1.out hK2)
      have HW1 := hide HK1.out.size
      clear hsl hq1 hq2 hK2
      by_cases hkT : T.length ≤ k2
      · have HP := hide (show pQuery T = some q by rw [HPQ.out, if_pos hkT])
        have hk2e : ((k2 : Int) != (T.length : Int)) = false := by simp; omega
        obtain ⟨c, hc⟩ : ∃ c, checkQ q = c := ⟨_, rfl⟩
        have hck := rCheckQ_any w2 _ q HSL.out.plain HSZ.out
        rw [hc] at hck
        have HCK := hide hck
        have HC := hide hc
        clear hck hc
        go_wp2_with fail
        refine HCK.out.mono ?_
        rintro e w3 ⟨rfl, hK3⟩
        by_cases hc0 : c = 0
        · subst hc0
          go_wp2_with fail
          go_ret2
          exact .inl ⟨_, _, readQ_good HL.out HP.out HC.out, rfl, HSL.out.keep hK3 (fun b _ hb => ⟨fun f => f, Nat.le_trans HW1.out hb⟩), tra HK2.out hK3⟩
        · have hc1 : (c != 0) = true := by simp [hc0]
          have HC0 := hide hc0
          clear hc0
          go_wp2_with fail
          go_ret2
          exact .inr ⟨c, readQ_bad HL.out HP.out HC.out HC0.out, HC0.out, rfl, tra HK2.out hK3⟩
      · have HP := hide (show pQuery T = none by rw [HPQ.out, if_neg hkT])
        have hk2e : ((k2 : Int) != (T.length : Int)) = true := by simp; omega
        go_wp2_with fail
        go_ret2
        exact .inr ⟨1, readQ_form HL.out HP.out, by decide, rfl, HK2.out⟩
    · have HP := hide (pQuery_not hor)
      have HK2 := hide (tra HK1.out hK2)
      have hne : ((-1 : Int) != (T.length : Int)) = true := by simp
      clear hor hK2
      go_wp2_with fail
      go_ret2
      exact .inr ⟨1, readQ_form HL.out HP.out, by decide, rfl, HK2.out⟩

end Go.Proofs.YtkkjchfhgjfclaaGreatDoor

/- QueryTells: the walk of the law's function. -/
namespace Go.Proofs.YtkkjchfhgjfclaaGreatDoor
open Go.RowKit

theorem toksQ_max {s : Sels} (h : checkQ s = 0) : (toksQ s).length ≤ 2002 := by
  have := selToksR_max h
  rw [selToksR_eq s (okT_sels s [] (checkQ_ok h).2.2)] at this
  rw [toksQ_len]
  omega

set_option maxRecDepth 20000 in
set_option maxHeartbeats 3200000 in
theorem queryTells_any (w : World) (s : ByteArray) (v : Value) (l : Sels) (ht : Tab w) (hv : SelSl w v l) (hsz : l.size' ≤ 4000000) :
    Calls Tryz.prog 4 #[.string s, v] w fun e w' => e = .returned (.bool true) ∧ Same w w' := by
  have HT := hide ht
  have HV := hide hv
  obtain ⟨ao, cap, rfl, _, _⟩ := id hv
  have HSZ := hide hsz
  clear ht hv hsz
  obtain ⟨rl, ev, HRA, HRB⟩ : ∃ (rl : Sels) (ev : Int),
      Hid (∀ w1, Calls Tryz.prog 7 #[.string s] w1 fun e w' => ∃ a c, e = .returned (.tuple #[.slice a rl.len c, .int .i64 ev]) ∧ SelSl w' (.slice a rl.len c) rl ∧ Same w1 w') ∧
      Hid (∀ w1, Calls Tryz.prog 9 #[.string s] w1 fun e w' => ∃ a c, e = .returned (.tuple #[.slice a rl.len c, .int .i64 ev]) ∧ SelSl w' (.slice a rl.len c) rl ∧ Same w1 w') := by
    cases hr : readQ s.data.toList with
    | error n =>
      refine ⟨.nil, n, fun w1 => ?_, fun w1 => ?_⟩
      · refine (qRead_bad w1 s n hr).mono ?_
        rintro e w' ⟨rfl, hK, _⟩
        exact ⟨none, 0, rfl, SelSl.nil _, hK⟩
      · refine (queryOf_any w1 s).mono ?_
        rintro e w' (⟨m, v, h1, _⟩ | ⟨n', h1, _, rfl, hK⟩)
        · rw [hr] at h1; cases h1
        · rw [hr] at h1
          cases h1
          exact ⟨none, 0, rfl, SelSl.nil _, hK⟩
    | ok m =>
      refine ⟨m, 0, fun w1 => ?_, fun w1 => ?_⟩
      · refine (qRead_ok w1 s m hr).mono ?_
        rintro e w' ⟨v, rfl, h2, hK⟩
        obtain ⟨a, c, rfl, _, _⟩ := id h2
        exact ⟨a, c, rfl, h2.plain, hK⟩
      · refine (queryOf_any w1 s).mono ?_
        rintro e w' (⟨m', v, h1, rfl, h2, hK⟩ | ⟨n', h1, _, _, _⟩)
        · rw [hr] at h1
          cases h1
          obtain ⟨a, c, rfl, _, _⟩ := id h2
          exact ⟨a, c, rfl, h2.plain, hK⟩
        · rw [hr] at h1; cases h1
  obtain ⟨c, hc⟩ : ∃ c, checkQ l = c := ⟨_, rfl⟩
  obtain ⟨pb, hpb⟩ : ∃ pb : List UInt8, pb = if c = 0 then printQ l else [] := ⟨_, rfl⟩
  have HPR := hide (show ∀ w1, Same w w1 → Calls Tryz.prog 8 #[.slice ao l.len cap] w1 fun e w' => e = .returned (.tuple #[.string ⟨pb.toArray⟩, .int .i64 c]) ∧ Same w1 w' from fun w1 hk => by
    by_cases h0 : c = 0
    · rw [if_pos h0] at hpb
      rw [hpb, h0]
      exact qPrint_ok w1 _ l (HV.out.same hk) (tab_keep HT.out hk) (hc.trans h0)
    · rw [if_neg h0] at hpb
      rw [hpb]
      exact qPrint_bad w1 _ l (HV.out.same hk) (tab_keep HT.out hk) c hc h0)
  have HCK := hide (show ∀ w1, Same w w1 → Calls Tryz.prog 6 #[.slice ao l.len cap] w1 fun e w' => e = .returned (.int .i64 c) ∧ Same w1 w' from fun w1 hk => by
    have := qCheck_any w1 _ l (HV.out.same hk)
    rw [hc] at this
    exact this)
  have HRC := hide (show ∀ w1, Same w w1 → Calls Tryz.prog 10 #[.slice ao l.len cap] w1 fun e w' => e = .returned (.int .i64 c) ∧ Same w1 w' from fun w1 hk => by
    have := rCheckQ_any w1 _ l (HV.out.same hk) HSZ.out
    rw [hc] at this
    exact this)
  have HST := hide (show c = 0 → ∀ w1, Same w w1 → Calls Tryz.prog 12 #[.slice ao l.len cap] w1 fun e w' => ∃ at' ct, e = .returned (.slice at' (toksQ l).length ct) ∧ TokSl w' (.slice at' (toksQ l).length ct) (toksQ l) ∧ Same w1 w' from fun h0 w1 hk => by
    refine (selTokens_any l.size' l rfl w1 _ (HV.out.same hk) (by have := selToksR_max (hc.trans h0); omega)).mono ?_
    rintro e w' ⟨v, rfl, hown, hK⟩
    rw [STok_right (hc.trans h0)] at hown
    obtain ⟨a', c', rfl⟩ := own_slice hown
    exact ⟨a', c', rfl, own_toks hown (by have := toksQ_max (hc.trans h0); omega), hK⟩)
  have HTB := hide (show c = 0 → ∀ w1 a' c', TokSl w1 (.slice a' (toksQ l).length c') (toksQ l) → Calls Tryz.prog 11 #[.slice a' (toksQ l).length c'] w1 fun e w' => e = .returned (.string ⟨pb.toArray⟩) ∧ Same w1 w' from fun h0 w1 a' c' ht => by
    rw [if_pos h0] at hpb
    refine (rBytes_big w1 _ _ ht (by have := toksQ_max (hc.trans h0); omega) (okT_check (okT_query (hc.trans h0)))).mono ?_
    rintro e w' ⟨b, rfl, hb, hK⟩
    exact ⟨ret_str (by rw [bytes_of b _ hb, hpb]; rfl), hK⟩)
  have HP0 := hide (show c ≠ 0 → pb = [] from fun h0 => by rw [hpb, if_neg h0])
  clear hc hpb
  go_enter Tryz.func4, Tryz.ntmps4
  go_wp2_with fail
  refine (HRA.out _).mono ?_
  rintro e w1 ⟨a1, c1, rfl, hv1, hK1⟩
  have HV1 := hide hv1
  clear hv1
  go_wp2_with fail
  refine (HPR.out _ hK1).mono ?_
  rintro e w2 ⟨rfl, hK2⟩
  have hKb := tra hK1 hK2
  go_wp2_with fail
  refine (HRB.out _).mono ?_
  rintro e w3 ⟨a3, c3, rfl, hv3, hK3⟩
  have HV3 := hide hv3
  have hKc := tra hKb hK3
  clear hv3
  go_wp2_with fail
  refine (HRC.out _ hKc).mono ?_
  rintro e w4 ⟨rfl, hK4⟩
  have HKd := hide (tra hKc hK4)
  have HV1b := hide (HV1.out.same (tra (tra hK2 hK3) hK4))
  have HV3b := hide (HV3.out.same hK4)
  clear hK1 hK2 hK3 hK4 hKb hKc HV1 HV3
  by_cases hc0 : c = 0
  · subst hc0
    have HSC := hide (HST.out rfl)
    have HSD := hide (HTB.out rfl)
    clear HST HTB HP0
    go_wp2_with fail
    refine (HSC.out _ HKd.out).mono ?_
    rintro e w5a ⟨a5, c5, rfl, ht5, hK5a⟩
    have HS5 := hide (HSD.out w5a a5 c5 ht5)
    clear ht5
    go_wp2_with fail
    refine HS5.out.mono ?_
    rintro e w5 ⟨rfl, hK5b⟩
    have hK5 := tra hK5a hK5b
    clear hK5a hK5b
    have HKe := hide (tra HKd.out hK5)
    go_wp2_with fail
    refine (queryBegun_any _ (tab_keep HT.out HKe.out)).mono ?_
    rintro e w6 ⟨rfl, hK6⟩
    have HKf := hide (tra HKe.out hK6)
    go_wp2_with fail
    refine (HCK.out _ HKf.out).mono ?_
    rintro e w7 ⟨rfl, hK7⟩
    have HS := hide (sameSels_eq rl.size' rl rfl w7 _ _ (HV1b.out.same (tra (tra hK5 hK6) hK7)) (HV3b.out.same (tra (tra hK5 hK6) hK7)))
    have HKg := hide (tra HKf.out hK7)
    clear hK5 hK6 hK7
    go_wp2_with fail
    refine HS.out.mono ?_
    rintro e w8 ⟨rfl, n8, rfl⟩
    go_wp2_with fail
    go_ret
    exact ⟨rfl, Kept.drewN HKg.out _⟩
  · have hcb : (c == 0) = false := by simp [hc0]
    have hpe := HP0.out hc0
    subst hpe
    clear hc0
    go_wp2_with fail
    refine (queryBegun_any _ (tab_keep HT.out HKd.out)).mono ?_
    rintro e w6 ⟨rfl, hK6⟩
    have HKf := hide (tra HKd.out hK6)
    go_wp2_with fail
    refine (HCK.out _ HKf.out).mono ?_
    rintro e w7 ⟨rfl, hK7⟩
    have HS := hide (sameSels_eq rl.size' rl rfl w7 _ _ (HV1b.out.same (tra hK6 hK7)) (HV3b.out.same (tra hK6 hK7)))
    have HKg := hide (tra HKf.out hK7)
    clear hK6 hK7
    go_wp2_with fail
    refine HS.out.mono ?_
    rintro e w8 ⟨rfl, n8, rfl⟩
    go_wp2_with fail
    go_ret
    exact ⟨rfl, Kept.drewN HKg.out _⟩

end Go.Proofs.YtkkjchfhgjfclaaGreatDoor

/- A row's argument that is a slice of selects: how many there are, against the row's own bulk. -/
namespace Go.Proofs.YtkkjchfhgjfclaaGreatDoor
open Go.ChangeShapes Go.WideShapes Go.RowKit

theorem bulk_part {H : Type} {d : DataW H} {l : List (DataW H)} (h : d ∈ l) : Rows.uptoBulk d ≤ Rows.uptoBulkAll l := by
  induction l with
  | nil => cases h
  | cons x r ih =>
    simp only [Rows.uptoBulkAll]
    cases List.mem_cons.1 h with
    | inl e => subst e; omega
    | inr e => have := ih e; omega

theorem mkS_size {H : Type} {T : Nat → List UInt8 × List UInt8 × List ArgT × Sels} {len : Nat} (ds : List (DataW H)) (hd : ds.length = len) (h : ∀ i (hi : i < len), (T i).2.2.2.size' + 1 ≤ Rows.uptoBulk (ds[i]'(by omega))) (n : Nat) : ∀ i, i + n = len → (mkS T n i).size' ≤ Rows.uptoBulkAll (ds.drop i) := by
  induction n with
  | zero => intro i _; simp [mkS, Sels.size']
  | succ n ih =>
    intro i hi
    rw [mkS, Sels.size', List.drop_eq_getElem_cons (by omega), Rows.uptoBulkAll]
    have h1 := ih (i + 1) (by omega)
    have h2 := h i (by omega)
    omega

set_option maxRecDepth 20000 in
theorem sels_trod_b {H : Type} {enc : TypeId × Value → H} {W : World} {sp : Nat → Bool} {held : Bool} (fuel : Nat) : ∀ (cs : List Value) (x : DataW H × List MemPlace),
    DataW.trod enc Tryz.prog W 0 sp held fuel 22 cs = some x → ∃ v f, cs = [v] ∧ SelSl W v f ∧ f.size' ≤ Rows.uptoBulk x.1 := by
  induction fuel using Nat.strongRecOn with
  | _ fuel ih =>
    intro cs x hf
    have hcells : Tryz.prog.cellsOf 28 = 4 := by kernel_rfl
    have hstr : Tryz.prog.cellsOf 9 = 1 := by kernel_rfl
    have harg : Tryz.prog.cellsOf 26 = 1 := by kernel_rfl
    have hsel : Tryz.prog.cellsOf 22 = 1 := by kernel_rfl
    rcases DataW.trod_slice Tryz.underlying22 hf with ⟨rfl, _⟩ | ⟨a, len, cap, elems, rest, n, hfn, rfl, hx, hb, hl, hm, hlen, hel, _, _⟩
    · exact ⟨_, .nil, rfl, SelSl.nil W, Nat.zero_le _⟩
    · rw [hcells] at hel
      have each : ∀ i, i < len → ∃ t : List UInt8 × List UInt8 × List ArgT × Sels, OneAt W (a.add (i * 4)) t ∧ ∀ y, elems[i]? = some y → t.2.2.2.size' + 1 ≤ Rows.uptoBulk y.1 := by
        intro i hi
        have key := hel i hi
        rw [List.getElem?_eq_getElem (by omega)] at key
        obtain ⟨cs', h1, h2⟩ := Option.bind_eq_some_iff.1 key
        obtain ⟨_, hcl, hcell⟩ := World.cells?_some h1
        obtain ⟨xs, q, hq, hxe, _, hxl, hfd⟩ := DataW.trod_struct Tryz.underlying28 h2
        match xs, hxl, cs', hcl with
        | [y0, y1, y2, y3], _, [v0, v1, v2, v3], _ =>
          have g0 := hfd 0 _ rfl
          have g1 := hfd 1 _ rfl
          have g2 := hfd 2 _ rfl
          have g3 := hfd 3 _ rfl
          simp [hstr, harg, hsel] at g0 g1 g2 g3
          obtain ⟨z0, e0, _, _⟩ := DataW.trod_string Tryz.underlying9 g0
          obtain ⟨z1, e1, _, _⟩ := DataW.trod_string Tryz.underlying9 g1
          obtain ⟨u2, l2, e2, s2⟩ := args_of g2
          obtain ⟨u3, f3, e3, s3, b3⟩ := ih q (by omega) _ _ g3
          simp only [List.cons.injEq, and_true] at e0 e1 e2 e3
          subst e0 e1 e2 e3
          have c0 := hcell 0 (by omega)
          have c1 := hcell 1 (by omega)
          have c2 := hcell 2 (by omega)
          have c3 := hcell 3 (by omega)
          refine ⟨⟨z0.data.toList, z1.data.toList, l2, f3⟩, ⟨?_, by simpa using c1, ⟨v2, by simpa using c2, s2⟩, ⟨v3, by simpa using c3, s3⟩⟩, fun y hy => ?_⟩
          · rw [Deep.add_add] at c0
            simpa using c0
          · rw [List.getElem?_eq_getElem (by omega), Option.some.injEq] at hy
            rw [← hy, hxe]
            have := bulk_part (show y3.1 ∈ [y0, y1, y2, y3].map (·.1) by simp)
            simp only [Rows.uptoBulk]
            omega
      have : Inhabited (List UInt8 × List UInt8 × List ArgT × Sels) := ⟨[], [], [], .nil⟩
      obtain ⟨T, hT⟩ := Deep.choose_lt each
      refine ⟨_, mkS T len 0, rfl, ⟨some a, cap, by rw [mkS_len], by rw [mkS_len]; exact ⟨by omega, hl⟩, ?_⟩, ?_⟩
      · by_cases h0 : len = 0
        · subst h0; exact .inl rfl
        · obtain ⟨b, off, spot⟩ := a
          have hspot : spot = none := by
            have := World.cell?_spot (hT 0 (by omega)).1.1
            simpa [Addr.add] using this
          subst hspot
          refine .inr ⟨b, off, rfl, ?_⟩
          have := mkS_at (w := W) (b := b) (off := off) (len := len) (T := T) (fun i hi => by
            have h := (hT i hi).1
            rw [add_none] at h
            exact h) len 0 (by omega)
          simpa using this
      · have := mkS_size (T := T) (len := len) (elems.map (·.1)) (by simp; exact hlen) (fun i hi => by
          have := (hT i hi).2 elems[i] (List.getElem?_eq_getElem (by omega))
          simpa using this) len 0 (by omega)
        rw [hx]
        simp only [Rows.uptoBulk]
        rw [List.drop_zero] at this
        omega

set_option maxRecDepth 20000 in
/-- an argument's slice of selects, no more of them than its bulk -/
theorem sels_of_b {H : Type} {enc : TypeId × Value → H} {W : World} {r : Reach} {b0 : Nat} {v : Value} {d : DataW H} {ps : List MemPlace} {sp : Nat → Bool} {held : Bool}
    (hval : Value.okWide Tryz.prog W r b0 22 v) (h : DataW.Trod enc Tryz.prog W 0 sp held 22 v d ps) : ∃ f, SelSl W v f ∧ f.size' ≤ Rows.uptoBulk d := by
  obtain ⟨ao, len, cap, rfl⟩ := okWide_slice Tryz.underlying22 hval
  obtain ⟨fuel, hf⟩ := h
  obtain ⟨v, f, e, hs, hb⟩ := sels_trod_b fuel _ _ hf
  simp only [Value.cells, List.cons.injEq, and_true] at e
  subst e
  exact ⟨f, hs, hb⟩

end Go.Proofs.YtkkjchfhgjfclaaGreatDoor

/- One start that fits: the listed variables as their initialisers lay them; what the list gives the walks. -/
namespace Go.Proofs.YtkkjchfhgjfclaaGreatDoor
open Go.ChangeShapes Go.WideShapes Go.ChangeAt Go.RowKit

theorem own : ownKnob Tryz.prog.godebug = none := by kernel_rfl
theorem gTab : Tryz.prog.globalNamed "internal/strconv.uint64pow10" = some 3 := by kernel_rfl
theorem gTabType : (Tryz.prog.globals[3]?).map (·.type) = some 162 := by kernel_rfl
theorem cellsTab : Tryz.prog.cellsOf 162 = 20 := by kernel_rfl
theorem cellsU64 : Tryz.prog.cellsOf 149 = 1 := by kernel_rfl

/-- WHAT THE ROWS' LIST GIVES: strconv's table of powers. -/
theorem table {W : World} (h : laidMetH Tryz.prog Rows.queryAloneRow.laid W) : Tab W :=
  Lib.tabIs_of_head (rest := _) gTab gTabType Tryz.underlying162 Tryz.underlying149 cellsU64 cellsTab (laidMet.tail (laidMet.tail h))

def tabCells : DataW Unit → Array Value
  | .agg l => (l.map fun d => match d with | .lit (.int k n) => Value.int k n | _ => Value.nilIface).toArray
  | _ => #[]
def textOf : DataW Unit → ByteArray
  | .iface _ (.ptr (.agg [.lit (.string b)])) => ⟨b.toArray⟩
  | _ => ⟨#[]⟩

/-- So many blocks has the settled world. -/
noncomputable def low : Nat := (World.holding Tryz.prog default ⟨#[], #[], []⟩).heap.size

/-- The settled world, the listed variables holding what their initialisers lay. -/
noncomputable def laidWorld (os : Os) : World :=
  let w0 := World.holding Tryz.prog os ⟨#[.cells #[.string (textOf Rows.laid_strconv_ErrRange)] 169, .cells #[.string (textOf Rows.laid_strconv_ErrSyntax)] 169], #[], []⟩
  let put (h : Array Obj) (g : Nat) (c : Array Value) : Array Obj := h.modify g fun
    | .cells _ t frozen => .cells c t frozen
    | o => o
  let h1 := put w0.heap 3 (tabCells Rows.laid_internal_strconv_uint64pow10)
  let h2 := put h1 4 (tabCells Rows.laid_math_bits_deBruijn32tab)
  let h3 := put h2 5 (tabCells Rows.laid_math_bits_deBruijn64tab)
  let h4 := put h3 2 #[.iface 167 (.pointer (some ⟨low, 0, none⟩))]
  let h5 := put h4 1 #[.iface 167 (.pointer (some ⟨low + 1, 0, none⟩))]
  { w0 with heap := h5 }

theorem laid_met (os : Os) (args : Array Value) : laidMet Tryz.prog Rows.queryAloneRow.laid ((laidWorld os).forCall (fun _ _ => 0) ⟨#[], args, []⟩).memory :=
  laidMet_of_run' 8 (by kernel_rfl) (by kernel_rfl)

end Go.Proofs.YtkkjchfhgjfclaaGreatDoor
