/- halyardref.SelectTokens, of selects that are not too many. -/
import Derived.Test.YtkkjchfhgjfclaaGreatDoorQuerytellsupto31
namespace Go.Proofs.YtkkjchfhgjfclaaGreatDoor
open Go.RowKit

def aliT (al : List UInt8) : List Tok := if al = [] then [] else [nameT al, signT [58]]
def kidT (k : Sels) : List Tok := if k.len = 0 then [] else signT [123] :: (selToksR k ++ [signT [125]])
def STok (f : Sels) : List Tok := signT [123] :: (selToksR f ++ [signT [125]])

theorem selToksR_snoc (p : Sels) (al nm : List UInt8) (args : List ArgT) (k : Sels) :
    selToksR (appS p (.cons al nm args k .nil)) = selToksR p ++ aliT al ++ [nameT nm] ++ argPre args args.length ++ kidT k := by
  rw [selToksR_app, argPre_all, selToksR]
  simp [aliT, kidT, selToksR]
theorem selToksR_part (p : Sels) (al nm : List UInt8) (args : List ArgT) (k r : Sels) :
    (selToksR p).length + (aliT al).length + 1 + 3 * args.length + (kidT k).length ≤ (selToksR (appS p (.cons al nm args k r))).length := by
  rw [selToksR_app, selToksR]
  have : 3 * args.length ≤ (if args = [] then ([] : List Tok) else signT [40] :: (argToksR args ++ [signT [41]])).length := by
    cases args with
    | nil => simp
    | cons a l =>
      rw [if_neg (by simp)]
      have := argToksR_len (a :: l)
      simp only [List.length_cons, List.length_append, List.length_nil] at *
      omega
  unfold aliT kidT
  simp only [List.length_append, List.length_cons, List.length_nil]
  omega

def SB (al nm : List UInt8) (aa : Option Addr) (na ca : Nat) (ak : Option Addr) (nk ck : Nat) : Obj :=
  .cells #[.string ⟨al.toArray⟩, .string ⟨nm.toArray⟩, .slice aa na ca, .slice ak nk ck] 28 (0, 0)

theorem RowB.sel {w wr : World} {v : Value} {T : List Tok} {g : Nat} {al nm : List UInt8} {aa ak : Option Addr} {na ca nk ck : Nat} (h : RowB w wr v T g (SB al nm aa na ca ak nk ck)) :
    wr.cell? ⟨g, 0, none⟩ = some (.string ⟨al.toArray⟩) ∧ wr.cell? ⟨g, 1, none⟩ = some (.string ⟨nm.toArray⟩) ∧ wr.cell? ⟨g, 2, none⟩ = some (.slice aa na ca) ∧ wr.cell? ⟨g, 3, none⟩ = some (.slice ak nk ck) := by
  obtain ⟨x0, x1, x2, x3⟩ := cells4 h.box
  exact ⟨x0, x1, x2, x3⟩

set_option maxRecDepth 20000 in
set_option maxHeartbeats 6400000 in
theorem selTokens_step (m : Nat) (IH : ∀ m', m' < m → ∀ (f : Sels), f.size' = m' → ∀ (w : World) (va : Value), SelSl w va f → (selToksR f).length ≤ 800000 →
      Calls Tryz.prog 12 #[va] w fun e w' => ∃ v, e = .returned v ∧ w'.ownsRow w.heap.size 58 3 v (STok f).length (tokCells (STok f)) ∧ Same w w')
    (f : Sels) (hm : f.size' = m) (w : World) (va : Value) (ha : SelSl w va f) (hb : (selToksR f).length ≤ 800000) :
    Calls Tryz.prog 12 #[va] w fun e w' => ∃ v, e = .returned v ∧ w'.ownsRow w.heap.size 58 3 v (STok f).length (tokCells (STok f)) ∧ Same w w' := by
  obtain ⟨aa, ca, rfl, ⟨hla, _⟩, _⟩ := id ha
  have hla' : f.len ≤ 9223372036854775807 := hla
  obtain ⟨i0, hi, hz0, hz1, hz2⟩ := info_parts info39
  have HA := hide ha
  have HIH := hide IH
  have HM := hide hm
  have HB := hide hb
  clear hla ha IH hm hb
  go_enter Tryz.func12, Tryz.ntmps12
  go_wp2_with fail
  refine (sign_ref _ _).mono ?_
  rintro e w1 ⟨rfl, hK1⟩
  go_wp2_with fail
  go_loopg [3, 4] f.len (fun g v i wr => ∃ (j : Nat) (p x : Sels) (T : List Tok), x.len ≤ g ∧ g ≤ x.len ∧ j + x.len ≤ f.len ∧ f.len ≤ j + x.len ∧ i = .int .i64 j ∧ Hid (p.len = j) ∧ Hid (f = appS p x) ∧ Hid (T = signT [123] :: selToksR p) ∧ Hid (Same w wr) ∧ Hid (wr.ownsRow w.heap.size 58 3 v T.length (tokCells T)))
  case atStart =>
    refine ⟨0, .nil, f, [signT [123]], Nat.le_refl _, Nat.le_refl _, by omega, by omega, rfl, rfl, rfl, rfl, hK1.alloc _, ?_⟩
    have := World.ownsRow_lit (base := w.heap.size) (e := 58) (size := 3) w1 #[.int .i64 4, .string ⟨#[123]⟩, .int .i64 0] 1 hK1.size (by unfold maxLen; omega) rfl
    exact this
  case round =>
    obtain ⟨j, p, x, T, hg1, hg2, hj1, hj2, rfl, HPL, HFP, HT, HS, HO⟩ := hrel
    clear hK1
    obtain ⟨ao3, cap3, hv3⟩ := own_slice HO.out
    subst hv3
    cases x with
    | nil =>
      simp only [Sels.len] at hg1 hg2 hj1 hj2
      have hfp : f = p := by rw [HFP.out]; exact appS_nil p
      have hTl : T.length ≤ 800001 := by
        have h1 := congrArg List.length HT.out
        have h2 := HB.out
        rw [hfp] at h2
        simp only [List.length_cons] at h1
        omega
      have HFP2 := hide hfp
      clear hfp
      go_wp2_with fail
      refine (sign_ref _ _).mono ?_
      rintro e w2 ⟨rfl, hK2⟩
      have hS2 := hide (tra HS.out hK2)
      have hown2 := own_kept HO.out hK2 (fun _ _ f => f)
      have hws : w.heap.size ≤ w2.heap.size := hS2.out.size
      go_wp2_with (at_builtin; refine wpList_append_own_at _ rfl _ _ 35 rfl w.heap.size 58 i0 _ 3 32 Tryz.underlying35 hi hz0 hz1 hz2 rfl (by decide) _ _ _ rfl (hown2.alloc _) ⟨w2.heap.size, 0, none⟩ 1 1 (tokC (signT [125])) rfl rfl ?a1 ?a2 ?a3 ?a4 ?a5 ?_)
      case a1 => exact new_cs w2 _ _
      case a2 => exact tokC_one _
      case a3 => unfold maxLen; omega
      case a4 => omega
      case a5 => simp; omega
      intro v3 w3 hown3 hgr3 _ hat3
      have HX := hide (row_app (hS2.out.alloc _) (hown2.alloc _) [signT [125]] rfl rfl hown3 hgr3)
      clear hown3 hgr3 hat3 hown2
      go_wp2_with fail
      go_ret
      refine ⟨_, rfl, ?_, HX.out.1⟩
      have h2 := HX.out.2
      rw [HT.out] at h2
      rw [STok, HFP2.out]
      exact h2
    | cons al nm args k r =>
      simp only [Sels.len] at hg1 hg2 hj1 hj2
      have hlt : j < f.len := by omega
      obtain ⟨b1, o1, aa1, ca1, ak1, ck1, rfl, p0, p1, p2, p3, ha1, hk1, hal⟩ := selSl_nth HA.out HFP.out j HPL.out
      have p0 := HS.out.cell p0 (fun f => f)
      have p1 := HS.out.cell p1 (fun f => f)
      have p2 := HS.out.cell p2 (fun f => f)
      have p3 := HS.out.cell p3 (fun f => f)
      have HKM := hide (show k.size' < m by
        have h1 := congrArg Sels.size' HFP.out
        rw [appS_size, Sels.size', HM.out] at h1
        omega)
      have hlen : T.length + (aliT al).length + 3 * args.length + (kidT k).length ≤ 800001 := by
        have h1 := congrArg List.length HT.out
        have h2 := HB.out
        rw [HFP.out] at h2
        have h3 := selToksR_part p al nm args k r
        simp only [List.length_cons] at h1
        omega
      have HLN := hide hlen
      clear hlen
      obtain ⟨w0, hw0⟩ : ∃ w0, w0 = wr.alloc (.cells #[.string ⟨al.toArray⟩, .string ⟨nm.toArray⟩, .slice aa1 args.length ca1, .slice ak1 k.len ck1] 28) := ⟨_, rfl⟩
      have kA : Same wr w0 := by rw [hw0]; exact (Kept.refl _ wr).alloc _
      have hR0 : RowB w w0 (.slice ao3 T.length cap3) T wr.heap.size (SB al nm aa1 args.length ca1 ak1 k.len ck1) :=
        ⟨tra HS.out kA, own_kept HO.out kA (fun _ _ f => f), by rw [hw0]; exact heap_alloc_new wr _, (fun e => by have := (own_up HO.out _ e).2; omega), HS.out.size⟩
      have HA1 := hide (show ∀ wx, Same w wx → ArgSl wx (.slice aa1 args.length ca1) args from fun wx hk => ha1.same hk)
      have HK1 := hide (show ∀ wx, Same w wx → SelSl wx (.slice ak1 k.len ck1) k from fun wx hk => hk1.same hk)
      clear ha1 hk1 HS HO kA
      go_upto_if 22 with fail
      rw [← hw0]
      clear hw0
      have hRL := hR0.lt
      obtain ⟨g, hgl1, hgl2⟩ : ∃ g, g = wr.heap.size ∧ True := ⟨_, rfl, trivial⟩
      rw [← hgl1] at hR0 hRL
      rw [← hgl1]
      clear hgl1 hgl2 p0 p1 p2 p3
      have HR0 := hide hR0
      obtain ⟨c0, c1, c2, c3⟩ := hR0.sel
      clear hR0
      obtain ⟨q, hq⟩ : ∃ q, al.isEmpty = q := ⟨_, rfl⟩
      rw [hq]
      have HQ := hide hq
      clear hq
      go_cut [3] from 10 to 99 (fun v wx => ∃ T', Hid (T' = T ++ aliT al) ∧ Hid (RowB w wx v T' g (SB al nm aa1 args.length ca1 ak1 k.len ck1)))
      case first =>
        cases q
        · have HE := hide (show aliT al = [nameT al, signT [58]] by rw [aliT, if_neg (by intro e; have := HQ.out; rw [e] at this; cases this)])
          go_wp2_with fail
          refine (word_ref _ _).mono ?_
          rintro e w2 ⟨rfl, hK2⟩
          go_wp2_with fail
          refine (sign_ref _ _).mono ?_
          rintro e w3 ⟨rfl, hK3⟩
          have HR3 := hide ((HR0.out.step hK2).step hK3)
          have hown3 := HR3.out.own
          have hws : w.heap.size ≤ w3.heap.size := HR3.out.same.size
          have hTl : T.length ≤ 800001 := by have := HLN.out; omega
          clear hK2 hK3
          go_wp2_with (at_builtin; refine wpList_append_own_at _ rfl _ _ 35 rfl w.heap.size 58 i0 _ 3 32 Tryz.underlying35 hi hz0 hz1 hz2 rfl (by decide) _ _ _ rfl (hown3.alloc _) ⟨w3.heap.size, 0, none⟩ 2 2 (tokCells [nameT al, signT [58]]) rfl rfl ?a1 ?a2 ?a3 ?a4 ?a5 ?_)
          case a1 => exact new_cs w3 _ _
          case a2 => exact tokCells_one _
          case a3 => unfold maxLen; omega
          case a4 => omega
          case a5 => simp; omega
          intro v4 w4 hown4 hgr4 _ hat4
          have HX := hide ((HR3.out.step ((Kept.refl _ w3).alloc _)).app [nameT al, signT [58]] rfl rfl hown4 hgr4 (by simpa using hat4))
          clear hown4 hgr4 hat4 hown3
          go_wp2_with fail
          go_meet
          case rel => exact ⟨T ++ [nameT al, signT [58]], by rw [HE.out]; rfl, HX.out⟩
        · have HE := hide (show aliT al = [] by rw [aliT, if_pos (List.isEmpty_iff.1 HQ.out)])
          go_wp2_with fail
          go_meet
          case rel => exact ⟨T, by rw [HE.out, List.append_nil]; rfl, HR0.out⟩
      case rest =>
      obtain ⟨T', HT', HR1⟩ := hcut
      obtain ⟨ao5, cap5, hv5⟩ := own_slice HR1.out.own
      subst hv5
      clear c0 c1 c2 c3 hRL HR0
      have hTl : T'.length + 3 * args.length + (kidT k).length ≤ 800001 := by have := HLN.out; rw [HT'.out, List.length_append]; omega
      obtain ⟨c0, c1, c2, c3⟩ := HR1.out.sel
      go_wp2_with fail
      refine (word_ref _ _).mono ?_
      rintro e w2 ⟨rfl, hK2⟩
      have HR2 := hide (HR1.out.step hK2)
      have hown2 := HR2.out.own
      have hws : w.heap.size ≤ w2.heap.size := HR2.out.same.size
      clear hK2 c0 c1 c2 c3
      go_wp2_with (at_builtin; refine wpList_append_own_at _ rfl _ _ 35 rfl w.heap.size 58 i0 _ 3 32 Tryz.underlying35 hi hz0 hz1 hz2 rfl (by decide) _ _ _ rfl (hown2.alloc _) ⟨w2.heap.size, 0, none⟩ 1 1 (tokCells [nameT nm]) rfl rfl ?a1 ?a2 ?a3 ?a4 ?a5 ?_)
      case a1 => exact new_cs w2 _ _
      case a2 => exact tokCells_one _
      case a3 => unfold maxLen; omega
      case a4 => omega
      case a5 => simp; omega
      intro v3 w3 hown3 hgr3 _ hat3
      have HX := hide ((HR2.out.step ((Kept.refl _ w2).alloc _)).app [nameT nm] rfl rfl hown3 hgr3 (by simpa using hat3))
      clear hown3 hgr3 hat3 hown2 HR2 HR1
      have hTl2 : (T' ++ [nameT nm]).length + 3 * args.length + (kidT k).length ≤ 800002 := by rw [List.length_append]; simp; omega
      have HT2 := hide (show T' ++ [nameT nm] = T ++ aliT al ++ [nameT nm] by rw [HT'.out])
      obtain ⟨T2, hT2⟩ : ∃ T2, T2 = T' ++ [nameT nm] := ⟨_, rfl⟩
      rw [← hT2] at HX HT2 hTl2
      clear hT2 hTl
      obtain ⟨G, hG1, hG2⟩ : ∃ G, G ≤ gk ∧ gk ≤ G := ⟨gk, Nat.le_refl _, Nat.le_refl _⟩
      go_wp2_with fail
      go_loopg [3, 6] args.length (fun gg v i wx => ∃ (t : Nat) (T3 : List Tok), t + gg = args.length ∧ i = .int .i64 t ∧ Hid (T3 = T2 ++ argPre args t) ∧ Hid (RowB w wx v T3 g (SB al nm aa1 args.length ca1 ak1 k.len ck1)))
      case atStart => exact ⟨0, T2, by omega, rfl, by rw [Hid, argPre_zero, List.append_nil], HX.out⟩
      case round =>
        obtain ⟨t, T3, ht, rfl, HT3, HR3⟩ := hrel
        clear HX
        obtain ⟨ao6, cap6, hv6⟩ := own_slice HR3.out.own
        subst hv6
        obtain ⟨c0, c1, c2, c3⟩ := HR3.out.sel
        by_cases hlj : t < args.length
        · obtain ⟨b3, o3, rfl, r0, r1, r2, r3⟩ := (HA1.out w (Kept.refl _ _)).at4 t hlj
          have HR := hide (show ∀ wx, Same w wx → wx.cell? ⟨b3, o3 + t * 4, none⟩ = some (.string ⟨args[t].name.toArray⟩) ∧ wx.cell? ⟨b3, o3 + t * 4 + 1, none⟩ = some (.bool args[t].isText) ∧ wx.cell? ⟨b3, o3 + t * 4 + 2, none⟩ = some (.string ⟨args[t].text.toArray⟩) ∧ wx.cell? ⟨b3, o3 + t * 4 + 3, none⟩ = some (.int .i64 args[t].n) from
            fun wx hk => ⟨hk.cell r0 (fun f => f), hk.cell r1 (fun f => f), hk.cell r2 (fun f => f), hk.cell r3 (fun f => f)⟩)
          clear r0 r1 r2 r3
          have HST := hide (argMid_step args t hlj)
          obtain ⟨y, hye⟩ : ∃ y, y = args[t] := ⟨_, rfl⟩
          rw [← hye] at HR HST
          clear hye
          have hT3l : T3.length + 5 ≤ 900000 := by
            have h1 := argPre_len args t
            rw [HT3.out, List.length_append]
            omega
          go_upto_if 44 with fail
          go_cut [3] from 36 to 90 (fun v wx => ∃ T4, Hid (T4 = T2 ++ argMid args t) ∧ T4.length + 4 ≤ 900000 ∧ Hid (RowB w wx v T4 g (SB al nm (some ⟨b3, o3, none⟩) args.length ca1 ak1 k.len ck1)))
          case first =>
            by_cases h0 : t = 0
            · subst h0
              go_wp2_with fail
              refine (sign_ref _ _).mono ?_
              rintro e w4 ⟨rfl, hK4⟩
              have HR4 := hide (HR3.out.step hK4)
              have hown4 := HR4.out.own
              have hws4 : w.heap.size ≤ w4.heap.size := HR4.out.same.size
              clear hK4
              go_wp2_with (at_builtin; refine wpList_append_own_at _ rfl _ _ 35 rfl w.heap.size 58 i0 _ 3 32 Tryz.underlying35 hi hz0 hz1 hz2 rfl (by decide) _ _ _ rfl (hown4.alloc _) ⟨w4.heap.size, 0, none⟩ 1 1 (tokCells [signT [40]]) rfl rfl ?a1 ?a2 ?a3 ?a4 ?a5 ?_)
              case a1 => exact new_cs w4 _ _
              case a2 => exact tokCells_one _
              case a3 => unfold maxLen; omega
              case a4 => omega
              case a5 => simp; omega
              intro v5 w5 hown5 hgr5 _ hat5
              have HX := hide ((HR4.out.step ((Kept.refl _ w4).alloc _)).app [signT [40]] rfl rfl hown5 hgr5 (by simpa using hat5))
              clear hown5 hgr5 hat5 hown4
              go_wp2_with fail
              go_meet
              case rel => exact ⟨T3 ++ [signT [40]], by rw [Hid, HT3.out, List.append_assoc, argMid_zero], by rw [List.length_append]; simp; omega, HX.out⟩
            · have h0b : ((t : Int) == 0) = false := by simp; omega
              have HM0 := hide (argMid_pos args t (by omega) hlj)
              clear h0
              go_wp2_with fail
              go_meet
              case rel => exact ⟨T3, by rw [Hid, HT3.out, HM0.out], by omega, HR3.out⟩
          case rest =>
          obtain ⟨T4, HT4, hT4l, HR4⟩ := hcut
          obtain ⟨wp, hwp⟩ : ∃ wp, wp = wc := ⟨_, rfl⟩
          subst hwp
          obtain ⟨ao7, cap7, hv7⟩ := own_slice HR4.out.own
          subst hv7
          clear c0 c1 c2 c3 HR3
          obtain ⟨c0, c1, c2, c3⟩ := HR4.out.sel
          obtain ⟨r0, r1, r2, r3⟩ := HR.out wp HR4.out.same
          have hgw : g < wp.heap.size := HR4.out.lt
          have d2 : ∀ o, (wp.alloc o).cell? ⟨g, 2, none⟩ = some (.slice (some ⟨b3, o3, none⟩) args.length ca1) := fun o => ((Kept.refl (fun _ => False) wp).alloc o).cell c2 (fun f => f)
          have e1 : ∀ o, (wp.alloc o).cell? ⟨b3, o3 + t * 4 + 1, none⟩ = some (.bool y.isText) := fun o => ((Kept.refl (fun _ => False) wp).alloc o).cell r1 (fun f => f)
          have e2 : ∀ o, (wp.alloc o).cell? ⟨b3, o3 + t * 4 + 2, none⟩ = some (.string ⟨y.text.toArray⟩) := fun o => ((Kept.refl (fun _ => False) wp).alloc o).cell r2 (fun f => f)
          go_upto_if 61 with fail
          obtain ⟨it, hit⟩ : ∃ it, y.isText = it := ⟨_, rfl⟩
          rw [hit]
          have HIT := hide hit
          clear hit
          go_cut [] from 36 to 90 (fun wy => ∃ tk : Tok, Hid (tk = valR y) ∧ wy = wp.alloc (.cells #[.int .i64 tk.k, .string ⟨tk.s.toArray⟩, .int .i64 tk.n] 58))
          case first =>
            cases it
            · go_wp2_with fail
              go_meet
              case rel => exact ⟨⟨2, [], y.n⟩, by rw [Hid, valR, if_neg (by rw [HIT.out]; simp)], rfl⟩
            · go_wp2_with fail
              go_meet
              case rel => exact ⟨⟨3, y.text, 0⟩, by rw [Hid, valR, if_pos HIT.out], rfl⟩
          case rest =>
          obtain ⟨tk, HTK, hwd⟩ := hcut
          have HR5 := hide (show RowB w wc (.slice ao7 T4.length cap7) T4 g (SB al nm (some ⟨b3, o3, none⟩) args.length ca1 ak1 k.len ck1) by rw [hwd]; exact HR4.out.step ((Kept.refl _ wp).alloc _))
          have HF := hide (show ∀ wx, Same wc wx → wx.cell? ⟨g, 2, none⟩ = some (.slice (some ⟨b3, o3, none⟩) args.length ca1) ∧ wx.cell? ⟨b3, o3 + t * 4, none⟩ = some (.string ⟨y.name.toArray⟩) ∧ wx.cell? ⟨wp.heap.size, 0, none⟩ = some (.int .i64 tk.k) ∧ wx.cell? ⟨wp.heap.size, 1, none⟩ = some (.string ⟨tk.s.toArray⟩) ∧ wx.cell? ⟨wp.heap.size, 2, none⟩ = some (.int .i64 tk.n) from fun wx hk =>
            ⟨(HR5.out.step hk).sel.2.2.1, (HR.out wx (tra HR5.out.same hk)).1, hk.cell (by rw [hwd]; simp) (fun f => f), hk.cell (by rw [hwd]; simp) (fun f => f), hk.cell (by rw [hwd]; simp) (fun f => f)⟩)
          have hgc : g < wc.heap.size := HR5.out.lt
          have hpc : wp.heap.size < wc.heap.size := by rw [hwd]; simp
          clear c0 c1 c2 c3 r0 r1 r2 r3 d2 e1 e2 hwd HR4 hgw
          go_upto_region 17 with fail
          go_cut [3] from 36 to 90 (fun v wx => ∃ T5, Hid (T5 = T4 ++ [nameT y.name, signT [58], tk]) ∧ Hid (RowB w wx v T5 g (SB al nm (some ⟨b3, o3, none⟩) args.length ca1 ak1 k.len ck1)))
          case first =>
            have hKc : Same wc wc.drew := (Kept.refl _ _).drew
            have hKd : ∀ n, Same wc (wc.drewN n) := fun n => (Kept.refl _ _).drewN n
            obtain ⟨f0, f1, f2, f3, f4⟩ := HF.out wc (Kept.refl _ _)
            have f0d : ∀ n, (wc.drewN n).cell? ⟨g, 2, none⟩ = some (.slice (some ⟨b3, o3, none⟩) args.length ca1) := fun n => f0
            have f1d : ∀ n, (wc.drewN n).cell? ⟨b3, o3 + t * 4, none⟩ = some (.string ⟨y.name.toArray⟩) := fun n => f1
            have f2d : ∀ n, (wc.drewN n).cell? ⟨wp.heap.size, 0, none⟩ = some (.int .i64 tk.k) := fun n => f2
            have f3d : ∀ n, (wc.drewN n).cell? ⟨wp.heap.size, 1, none⟩ = some (.string ⟨tk.s.toArray⟩) := fun n => f3
            have f4d : ∀ n, (wc.drewN n).cell? ⟨wp.heap.size, 2, none⟩ = some (.int .i64 tk.n) := fun n => f4
            go_region_law (first
              | (refine step_call rfl 31 _ _ rfl #[.string ⟨y.name.toArray⟩] (by simp [Act.eval]) (enters_word _) (word_ref _ _) ?_; rintro e wn ⟨rfl, hKn⟩; refine ⟨_, rfl, ?_⟩; have hKc := tra (by first | exact hKc | exact hKd _) hKn; obtain ⟨f0, f1, f2, f3, f4⟩ := HF.out _ hKc; clear hKn)
              | (refine step_call rfl 30 _ _ rfl #[.string ⟨#[58]⟩] (by simp [Act.eval]) (enters_sign _) (sign_ref _ _) ?_; rintro e wn ⟨rfl, hKn⟩; refine ⟨_, rfl, ?_⟩; have hKc := tra (by first | exact hKc | exact hKd _) hKn; obtain ⟨f0, f1, f2, f3, f4⟩ := HF.out _ hKc; clear hKn)
              | (have hownz := (HR5.out.step hKc).own; refine step_append_at rfl (.tmp 69) (.tmp 79) 35 rfl w.heap.size 58 i0 _ 3 32 Tryz.underlying35 hi hz0 hz1 hz2 rfl (by decide) (.slice ao7 T4.length cap7) T4.length (tokCells T4) (by simp [Act.eval]) (by exact hownz.alloc _) ⟨wn.heap.size, 0, none⟩ 3 3 (tokCells [nameT y.name, signT [58], tk]) (by simp [Act.eval]) rfl (by exact new_cs wn _ _) (tokCells_one _) (by unfold maxLen; omega) (by omega) (by have := (HR5.out.step hKc).same.size; simp; omega) ?_; intro v5 w5 hown5 hgr5 hat5))
            all_goals
              have HX := hide (((HR5.out.step hKc).step ((Kept.refl _ wn).alloc _)).app [nameT y.name, signT [58], tk] rfl rfl hown5 hgr5 hat5)
              clear hown5 hgr5 hat5 hownz f0 f1 f2 f3 f4 f0d f1d f2d f3d f4d hKc hKd
              go_wp2_with fail
              go_meet
              case rel => exact ⟨T4 ++ [nameT y.name, signT [58], tk], rfl, HX.out⟩
          case rest =>
          obtain ⟨T5, HT5, HR6⟩ := hcut
          obtain ⟨ao8, cap8, hv8⟩ := own_slice HR6.out.own
          subst hv8
          have HT6 := hide (show T5 = T2 ++ argMid args (t + 1) by rw [HT5.out, HT4.out, HTK.out, List.append_assoc, HST.out])
          have hT5l : T5.length ≤ 900000 := by rw [HT5.out, List.length_append]; simp; omega
          obtain ⟨c0, c1, c2, c3⟩ := HR6.out.sel
          have hgd : g < wc.heap.size := HR6.out.lt
          clear HR5 HF HTK HT5 HT4 hgc hpc
          by_cases hla2 : t + 1 = args.length
          · have hlb : ((t : Int) == (args.length : Int) - 1) = true := by simp; omega
            have HPL2 := hide (argPre_last args t hla2)
            go_wp2_with fail
            refine (sign_ref _ _).mono ?_
            rintro e w8 ⟨rfl, hK8⟩
            have HR8 := hide (HR6.out.step hK8)
            have hown8 := HR8.out.own
            have hws8 : w.heap.size ≤ w8.heap.size := HR8.out.same.size
            clear hK8 c0 c1 c2 c3 hgd
            go_wp2_with (at_builtin; refine wpList_append_own_at _ rfl _ _ 35 rfl w.heap.size 58 i0 _ 3 32 Tryz.underlying35 hi hz0 hz1 hz2 rfl (by decide) _ _ _ rfl (hown8.alloc _) ⟨w8.heap.size, 0, none⟩ 1 1 (tokCells [signT [41]]) rfl rfl ?a1 ?a2 ?a3 ?a4 ?a5 ?_)
            case a1 => exact new_cs w8 _ _
            case a2 => exact tokCells_one _
            case a3 => unfold maxLen; omega
            case a4 => omega
            case a5 => simp; omega
            intro v9 w9 hown9 hgr9 _ hat9
            have HX := hide ((HR8.out.step ((Kept.refl _ w8).alloc _)).app [signT [41]] rfl rfl hown9 hgr9 (by simpa using hat9))
            clear hown9 hgr9 hat9 hown8
            go_wp2_with fail
            go_roundg (gk - 1)
            case measure => omega
            case rel => exact ⟨t + 1, T5 ++ [signT [41]], by omega, by go_num, by rw [Hid, HT6.out, List.append_assoc, HPL2.out], HX.out⟩
          · have hlb : ((t : Int) == (args.length : Int) - 1) = false := by simp; omega
            have HPL2 := hide (argPre_more args t hla2)
            clear hla2
            go_wp2_with fail
            go_roundg (gk - 1)
            case measure => omega
            case rel => exact ⟨t + 1, T5, by omega, by go_num, by rw [Hid, HT6.out, HPL2.out], HR6.out⟩
        · have HT7 := hide (show T3 = T2 ++ argPre args args.length by rw [HT3.out, show t = args.length from by omega])
          have hT3l : T3.length + (kidT k).length ≤ 900000 := by
            have h1 := argPre_len args args.length
            rw [HT7.out, List.length_append]
            omega
          have HKD := hide (show signT [123] :: selToksR (appS p (.cons al nm args k .nil)) = T3 ++ kidT k by
            rw [HT7.out, HT2.out, HT.out, selToksR_snoc]; simp)
          by_cases hk0 : k.len = 0
          · rw [hk0] at c3
            have HKE := hide (show kidT k = [] by rw [kidT, if_pos hk0])
            clear hk0
            go_wp2_with fail
            go_roundg (G - 1)
            case measure => omega
            case rel => exact ⟨j + 1, appS p (.cons al nm args k .nil), r, T3, by omega, by omega, by omega, by omega, by go_num, by rw [Hid, appS_len, HPL.out]; rfl, by rw [Hid, appS_snoc]; exact HFP.out, by rw [Hid, HKD.out, HKE.out, List.append_nil], HR3.out.same, HR3.out.own⟩
          · have hk1 : 0 < k.len := by omega
            have HKE := hide (show kidT k = STok k by rw [kidT, if_neg hk0]; rfl)
            have hkl : (selToksR k).length ≤ 800000 := by
              have h1 := congrArg List.length HKE.out
              simp only [STok, List.length_cons, List.length_append] at h1
              omega
            have HREC := hide (HIH.out k.size' HKM.out k rfl _ _ (HK1.out _ HR3.out.same) hkl)
            clear hk0
            go_wp2_with fail
            refine HREC.out.mono ?_
            rintro e w8 ⟨v8, rfl, hown8k, hK8⟩
            obtain ⟨g8, cap8, hv8⟩ := own_form hown8k (by simp [STok])
            subst hv8
            have HC8 := hide (World.ownsRow.cells hown8k (g := g8) rfl)
            have HR8 := hide (HR3.out.step hK8)
            have hown8 := HR8.out.own
            have hws8 : w.heap.size ≤ w8.heap.size := HR8.out.same.size
            have hsl : (STok k).length = (kidT k).length := by rw [HKE.out]
            have HSL := hide hsl
            clear hK8 c0 c1 c2 c3 hown8k hsl
            go_wp2_with (at_builtin; refine wpList_append_own_at _ rfl _ _ 35 rfl w.heap.size 58 i0 _ 3 32 Tryz.underlying35 hi hz0 hz1 hz2 rfl (by decide) _ _ _ rfl hown8 ⟨g8, 0, none⟩ (STok k).length cap8 (tokCells (STok k)) rfl (tokCells_len _) ?a1 ?a2 ?a3 ?a4 ?a5 ?_)
            case a1 => exact HC8.out
            case a2 => exact tokCells_one _
            case a3 => have := HSL.out; unfold maxLen; omega
            case a4 => have := HSL.out; omega
            case a5 => exact hws8
            intro v9 w9 hown9 hgr9 _ hat9
            have HX := hide (HR8.out.app (STok k) rfl rfl hown9 hgr9 hat9)
            clear hown9 hgr9 hat9 hown8
            go_wp2_with fail
            go_roundg (G - 1)
            case measure => omega
            case rel => exact ⟨j + 1, appS p (.cons al nm args k .nil), r, T3 ++ STok k, by omega, by omega, by omega, by omega, by go_num, by rw [Hid, appS_len, HPL.out]; rfl, by rw [Hid, appS_snoc]; exact HFP.out, by rw [Hid, HKD.out, HKE.out], HX.out.same, HX.out.own⟩

theorem selTokens_any (m : Nat) : ∀ (f : Sels), f.size' = m → ∀ (w : World) (va : Value), SelSl w va f → (selToksR f).length ≤ 800000 →
    Calls Tryz.prog 12 #[va] w fun e w' => ∃ v, e = .returned v ∧ w'.ownsRow w.heap.size 58 3 v (STok f).length (tokCells (STok f)) ∧ Same w w' := by
  induction m using Nat.strongRecOn with
  | ind m ih => exact fun f hm w va ha hb => selTokens_step m ih f hm w va ha hb

end Go.Proofs.YtkkjchfhgjfclaaGreatDoor
