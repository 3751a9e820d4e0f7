/- More of queries in plain Lean: prints that are too long; each select by itself; turned round. No program is named here. -/
import Derived.Test.YtidodjbmlbjchaaGreatHistorystaysupto04
namespace Go.Proofs.YtidodjbmlbjchaaGreat

theorem readF_many (l : List Tok) : ∀ (f m : Nat), checkF l = 0 → m ≤ 300 → 300 < m + l.length → (printF l).length < f → readF f (printF l) m = .error 2 := by
  induction l with
  | nil => intro f m _ h1 h2; simp at h2; omega
  | cons t r ih =>
    intro f m hck hm0 hm hf
    rw [checkF] at hck
    have hw : wrongT t = 0 := by
      by_cases h : wrongT t = 0
      · exact h
      · rw [if_pos h] at hck; exact absurd hck h
    rw [if_neg (by simp [hw])] at hck
    obtain ⟨x, hpx, hx, hrx⟩ : ∃ x, printF (t :: r) = writtenT t ++ x ∧ (∀ c q, x = c :: q → c.toNat = 32) ∧ ((r = [] ∧ x = []) ∨ x = 32 :: printF r) := by
      cases r with
      | nil => exact ⟨[], by simp [printF], (fun c q e => nomatch e), .inl ⟨rfl, rfl⟩⟩
      | cons u r => exact ⟨32 :: printF (u :: r), by simp [printF], (fun c q e => by cases e; rfl), .inr rfl⟩
    obtain ⟨c, q, hc, hwh, h35, htok⟩ := tok_written hw hx
    rw [hpx, hc, List.cons_append] at hf ⊢
    cases f with
    | zero => omega
    | succ f =>
      rw [readF, skip_stop c _ hwh h35, List.drop_zero]
      simp only
      rw [htok]
      simp only
      rw [List.length_cons] at hm
      rw [if_neg (by simp [hw])]
      by_cases h300 : m = 300
      · rw [if_pos h300]
      · rw [if_neg h300]
        rw [show (c :: (q ++ x)).drop (c :: q).length = x from by rw [← List.cons_append, List.drop_left]]
        rw [List.length_cons, List.length_append] at hf
        rcases hrx with ⟨rfl, rfl⟩ | rfl
        · simp at hm; omega
        · rw [List.length_cons] at hf
          cases f with
          | zero => omega
          | succ f =>
            have e := readF_ahead (f := f) (p := [32]) (l := printF r) (m := m + 1) (by
              rw [List.cons_append, List.nil_append, skipN, if_pos (by decide)]; simp only [List.length_cons, List.length_nil]; omega)
            rw [List.cons_append, List.nil_append] at e
            rw [e, ih (f + 1) (m + 1) hck (by omega) (by omega) (by omega)]; rfl

theorem lexRead_many {l : List Tok} (h : okT l) (hl : 300 < l.length) (h2 : (printF l).length ≤ 2000) : lexRead (printF l) = .error 2 := by
  rw [lexRead, if_neg (by omega)]
  exact readF_many l _ 0 (okT_check h) (by omega) (by omega) (by omega)

theorem readQ_many {s : Sels} (h : checkQ s = 0) (h1 : 2000 < (printQ s).length ∨ 300 < (toksQ s).length) : readQ (printQ s) = .error 2 := by
  by_cases h2 : 2000 < (printQ s).length
  · rw [readQ, lexRead, if_pos h2]
  · rw [readQ, printQ, lexRead_many (okT_query h) (by omega) (by unfold printQ at h2; omega)]

theorem pArg_len {r r' : List Tok} {a : ArgT} (h : pArg r = some (a, r')) : r.length = r'.length + 3 := by
  match r, h with
  | x :: y :: z :: r, h =>
    rw [pArg] at h
    split at h
    · cases h; simp
    · cases h
  | [], h => cases h
  | [_], h => cases h
  | [_, _], h => cases h

theorem isS_len {c : UInt8} {r : List Tok} (h : isS c r = true) : r.length = r.tail.length + 1 := by
  cases r with
  | nil => cases h
  | cons t r => rfl

theorem pArgs_len (f : Nat) : ∀ (r r' : List Tok) (l : List ArgT), pArgs f r = some (l, r') → l ≠ [] ∧ 3 * l.length + 1 + r'.length = r.length := by
  induction f with
  | zero => intro r r' l h; cases h
  | succ f ih =>
    intro r r' l h
    rw [pArgs] at h
    cases ha : pArg r with
    | none => rw [ha] at h; cases h
    | some y =>
      obtain ⟨a, r1⟩ := y
      rw [ha] at h
      simp only at h
      have h3 := pArg_len ha
      by_cases hs : isS 41 r1 = true
      · rw [if_pos hs] at h
        have := isS_len hs
        cases h
        exact ⟨by simp, by simp; omega⟩
      · rw [if_neg hs] at h
        cases hp : pArgs f r1 with
        | none => rw [hp] at h; cases h
        | some z =>
          obtain ⟨l2, r2⟩ := z
          rw [hp] at h
          cases h
          obtain ⟨_, g⟩ := ih _ _ _ hp
          exact ⟨by simp, by simp; omega⟩

theorem pName_len {r r' : List Tok} {an : List UInt8 × List UInt8} (h : pName r = some (an, r')) : (if an.1 = [] then 1 else 3) + r'.length ≤ r.length := by
  cases r with
  | nil => cases h
  | cons a r =>
    rw [pName] at h
    split at h
    · split at h
      · rename_i hs
        have := isS_len hs
        cases ht : r.tail with
        | nil => rw [ht] at h; cases h
        | cons b r2 =>
          rw [ht] at h this
          simp only at h
          split at h
          · cases h
            simp only [List.length_cons] at this ⊢
            split <;> omega
          · cases h
      · cases h
        simp; omega
    · cases h

theorem pOpt_len {r r' : List Tok} {l : List ArgT} (h : pOpt r = some (l, r')) : (if l = [] then 0 else 3 * l.length + 2) + r'.length ≤ r.length := by
  rw [pOpt] at h
  split at h
  · rename_i hs
    have := isS_len hs
    obtain ⟨g1, g2⟩ := pArgs_len _ _ _ _ h
    rw [if_neg g1]; omega
  · cases h
    simp

theorem pSels_len (f : Nat) : ∀ (r r' : List Tok) (s : Sels), pSels f r = some (s, r') → s.len ≠ 0 ∧ (selToks s).length + 1 + r'.length ≤ r.length := by
  induction f with
  | zero => intro r r' s h; cases h
  | succ f ih =>
    intro r r' s h
    rw [pSels] at h
    cases hn : pName r with
    | none => rw [hn] at h; cases h
    | some y =>
      obtain ⟨⟨al, nm⟩, r1⟩ := y
      rw [hn] at h
      simp only at h
      have l1 := pName_len hn
      simp only at l1
      cases ho : pOpt r1 with
      | none => rw [ho] at h; cases h
      | some y =>
        obtain ⟨args, r2⟩ := y
        rw [ho] at h
        simp only at h
        have l2 := pOpt_len ho
        cases hk : (if isS 123 r2 = true then pSels f r2.tail else some (Sels.nil, r2)) with
        | none => rw [hk] at h; cases h
        | some y =>
          obtain ⟨k, r3⟩ := y
          rw [hk] at h
          simp only at h
          have l3 : (if k.len = 0 then 0 else (selToks k).length + 2) + r3.length ≤ r2.length := by
            split at hk
            · rename_i hs
              have := isS_len hs
              obtain ⟨g1, g2⟩ := ih _ _ _ hk
              rw [if_neg g1]; omega
            · cases hk; simp [Sels.len]
          have hl1 : (if al = [] then [] else [nameT al, signT [58]]).length + 1 = (if al = [] then 1 else 3) := by split <;> rfl
          have hl2 : (if args = [] then [] else signT [40] :: (argToks args ++ [signT [41]])).length = (if args = [] then 0 else 3 * args.length + 2) := by
            split
            · rfl
            · simp [argToks_len]
          have hl3 : (if k.len = 0 then [] else signT [123] :: (selToks k ++ [signT [125]])).length = (if k.len = 0 then 0 else (selToks k).length + 2) := by
            split
            · rfl
            · simp
          split at h
          · rename_i hs
            have := isS_len hs
            cases h
            refine ⟨by simp [Sels.len], ?_⟩
            rw [selToks]
            simp only [List.length_append, List.length_cons, List.length_nil, hl2, hl3, selToks]
            omega
          · cases hp : pSels f r3 with
            | none => rw [hp] at h; cases h
            | some z =>
              obtain ⟨s2, r4⟩ := z
              rw [hp] at h
              cases h
              obtain ⟨_, g⟩ := ih _ _ _ hp
              refine ⟨by simp [Sels.len], ?_⟩
              rw [selToks]
              simp only [List.length_append, List.length_cons, List.length_nil, hl2, hl3]
              omega

theorem pQuery_len {T : List Tok} {s : Sels} (h : pQuery T = some s) : s.len ≠ 0 ∧ (toksQ s).length ≤ T.length := by
  rw [pQuery] at h
  split at h
  · rename_i hs
    have := isS_len hs
    cases hp : pSels T.tail.length T.tail with
    | none => rw [hp] at h; cases h
    | some z =>
      obtain ⟨s2, r⟩ := z
      rw [hp] at h
      cases r with
      | cons t r => cases h
      | nil =>
        cases h
        obtain ⟨g1, g2⟩ := pSels_len _ _ _ _ hp
        refine ⟨g1, ?_⟩
        simp [toksQ] at g2 ⊢
        omega
  · cases h

/-- what is read is right, and no longer than it came -/
theorem readQ_right {l : List UInt8} {s : Sels} (h : readQ l = .ok s) : checkQ s = 0 ∧ (toksQ s).length ≤ 300 := by
  rw [readQ] at h
  cases hl : lexRead l with
  | error e => rw [hl] at h; cases h
  | ok T =>
    rw [hl] at h
    simp only at h
    cases hp : pQuery T with
    | none => rw [hp] at h; cases h
    | some s2 =>
      rw [hp] at h
      simp only at h
      split at h
      · cases h
      · rename_i hc
        cases h
        exact ⟨by simpa using hc, Nat.le_trans (pQuery_len hp).2 (lexRead_len hl)⟩

theorem wrongT_nonneg (t : Tok) : 0 ≤ wrongT t := by
  unfold wrongT
  repeat' split
  all_goals omega

/-- how deep, and how many -/
def okD : Nat → Sels → Prop
  | _, .nil => True
  | d, .cons _ _ _ k r => d ≤ 5 ∧ okD (d + 1) k ∧ okD d r

theorem fits_iff (s : Sels) : ∀ (d left m : Nat), fitsQ s d left = some m ↔ okD d s ∧ s.size' + m = left := by
  induction s with
  | nil => intro d left m; simp [fitsQ, okD, Sels.size']; exact eq_comm
  | cons al nm args k r ihk ihr =>
    intro d left m
    rw [fitsQ, okD, Sels.size']
    by_cases h : left = 0 ∨ 5 < d
    · rw [if_pos h]
      constructor
      · intro h; cases h
      · rintro ⟨⟨h1, _, _⟩, h2⟩; omega
    · rw [if_neg h]
      constructor
      · intro h2
        obtain ⟨n, h3, h4⟩ := Option.bind_eq_some_iff.1 h2
        obtain ⟨g1, g2⟩ := (ihk _ _ _).1 h3
        obtain ⟨g3, g4⟩ := (ihr _ _ _).1 h4
        exact ⟨⟨by omega, g1, g3⟩, by omega⟩
      · rintro ⟨⟨h1, h2, h3⟩, h4⟩
        exact Option.bind_eq_some_iff.2 ⟨r.size' + m, (ihk _ _ _).2 ⟨h2, by omega⟩, (ihr _ _ _).2 ⟨h3, rfl⟩⟩

theorem okD_less (s : Sels) : ∀ d, okD (d + 1) s → okD d s := by
  induction s with
  | nil => intro d _; trivial
  | cons al nm args k r ihk ihr => rintro d ⟨h1, h2, h3⟩; exact ⟨by omega, ihk _ h2, ihr _ h3⟩

def eachR : Sels → Prop
  | .nil => True
  | .cons al nm args k r => wrongS al nm args = 0 ∧ wrongQ [] k = 0 ∧ eachR r

def callsQ : Sels → List (List UInt8)
  | .nil => []
  | .cons al nm _ _ r => calledQ al nm :: callsQ r

theorem wrongQ_iff (s : Sels) : ∀ seen, wrongQ seen s = 0 ↔ eachR s ∧ (callsQ s).Nodup ∧ ∀ x ∈ callsQ s, x ∉ seen := by
  induction s with
  | nil => intro seen; simp [wrongQ, eachR, callsQ]
  | cons al nm args k r ihk ihr =>
    intro seen
    constructor
    · intro h
      obtain ⟨h1, h2, h3, h4⟩ := wrongQ_ok h
      obtain ⟨g1, g2, g3⟩ := (ihr _).1 h4
      have h2' : calledQ al nm ∉ seen := by simpa using h2
      refine ⟨⟨h1, h3, g1⟩, ?_, ?_⟩
      · rw [callsQ, List.nodup_cons]
        exact ⟨fun hx => g3 _ hx (by simp), g2⟩
      · intro x hx
        rw [callsQ] at hx
        rcases List.mem_cons.1 hx with rfl | hx
        · exact h2'
        · exact fun e => g3 x hx (by simp [e])
    · rintro ⟨⟨h1, h3, g1⟩, h5, h6⟩
      rw [callsQ, List.nodup_cons] at h5
      refine wrongQ_mk h1 ?_ h3 ((ihr _).2 ⟨g1, h5.2, ?_⟩)
      · have := h6 (calledQ al nm) (by rw [callsQ]; simp)
        simpa using this
      · intro x hx
        simp only [List.mem_append, List.mem_singleton, not_or]
        exact ⟨h6 x (by rw [callsQ]; simp [hx]), fun e => h5.1 (e ▸ hx)⟩

theorem checkQ_iff (s : Sels) : checkQ s = 0 ↔ s.len ≠ 0 ∧ okD 1 s ∧ s.size' ≤ 40 ∧ wrongQ [] s = 0 := by
  constructor
  · intro h
    obtain ⟨h1, h2, h3⟩ := checkQ_ok h
    obtain ⟨m, hm⟩ := Option.ne_none_iff_exists'.1 h2
    obtain ⟨g1, g2⟩ := (fits_iff _ _ _ _).1 hm
    refine ⟨?_, g1, by omega, h3⟩
    cases s with
    | nil => exact absurd rfl h1
    | cons a b c d e => simp [Sels.len]
  · rintro ⟨h1, h2, h3, h4⟩
    rw [checkQ, if_neg h1, if_neg (by rw [(fits_iff s 1 40 (40 - s.size')).2 ⟨h2, by omega⟩]; simp), h4]

/-- each select by itself is right, and what is selected of it -/
def goodAll : Sels → Prop
  | .nil => True
  | .cons al nm args k r => checkQ (.cons al nm args k .nil) = 0 ∧ (k.len ≠ 0 → checkQ k = 0) ∧ goodAll r

theorem good_of (s : Sels) : okD 1 s → s.size' ≤ 40 → eachR s → goodAll s := by
  induction s with
  | nil => intro _ _ _; trivial
  | cons al nm args k r _ ihr =>
    rintro ⟨h1, h2, h3⟩ h4 ⟨h5, h6, h7⟩
    rw [Sels.size'] at h4
    refine ⟨?_, fun hk => (checkQ_iff _).2 ⟨hk, okD_less _ _ h2, by omega, h6⟩, ihr h3 (by omega) h7⟩
    exact (checkQ_iff _).2 ⟨by simp [Sels.len], ⟨h1, h2, trivial⟩, by simp [Sels.size']; omega, wrongQ_mk h5 rfl h6 rfl⟩

theorem checkQ_good {s : Sels} (h : checkQ s = 0) : goodAll s := by
  obtain ⟨_, h2, h3, h4⟩ := (checkQ_iff s).1 h
  exact good_of s h2 h3 ((wrongQ_iff _ _).1 h4).1

/-- turned round -/
def revQ : Sels → Sels → Sels
  | .nil, acc => acc
  | .cons al nm args k r, acc => revQ r (.cons al nm args k acc)

theorem revQ_len (s : Sels) : ∀ acc, (revQ s acc).len = s.len + acc.len := by
  induction s with
  | nil => intro acc; simp [revQ, Sels.len]
  | cons al nm args k r _ ih => intro acc; rw [revQ, ih, Sels.len, Sels.len]; omega
theorem revQ_size (s : Sels) : ∀ acc, (revQ s acc).size' = s.size' + acc.size' := by
  induction s with
  | nil => intro acc; simp [revQ, Sels.size']
  | cons al nm args k r _ ih => intro acc; rw [revQ, ih, Sels.size', Sels.size']; omega
theorem revQ_okD (s : Sels) : ∀ acc d, okD d s → okD d acc → okD d (revQ s acc) := by
  induction s with
  | nil => intro acc d _ h; exact h
  | cons al nm args k r _ ih => rintro acc d ⟨h1, h2, h3⟩ h; exact ih _ _ h3 ⟨h1, h2, h⟩
theorem revQ_each (s : Sels) : ∀ acc, eachR s → eachR acc → eachR (revQ s acc) := by
  induction s with
  | nil => intro acc _ h; exact h
  | cons al nm args k r _ ih => rintro acc ⟨h1, h2, h3⟩ h; exact ih _ h3 ⟨h1, h2, h⟩
theorem revQ_calls (s : Sels) : ∀ acc, callsQ (revQ s acc) = (callsQ s).reverse ++ callsQ acc := by
  induction s with
  | nil => intro acc; simp [revQ, callsQ]
  | cons al nm args k r _ ih => intro acc; rw [revQ, ih, callsQ, callsQ]; simp

theorem checkQ_rev {s : Sels} (h : checkQ s = 0) : checkQ (revQ s .nil) = 0 := by
  obtain ⟨h1, h2, h3, h4⟩ := (checkQ_iff s).1 h
  obtain ⟨g1, g2, _⟩ := (wrongQ_iff _ _).1 h4
  refine (checkQ_iff _).2 ⟨by rw [revQ_len]; simp [Sels.len]; exact h1, revQ_okD _ _ _ h2 trivial, by rw [revQ_size]; simp [Sels.size']; exact h3, (wrongQ_iff _ _).2 ⟨revQ_each _ _ g1 trivial, ?_, fun x _ => by simp⟩⟩
  rw [revQ_calls, callsQ, List.append_nil]
  exact (List.Perm.nodup_iff (List.reverse_perm _)).2 g2

end Go.Proofs.YtidodjbmlbjchaaGreat
