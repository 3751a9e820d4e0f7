/- Disks, in plain Lean: what is open stays; what is behind is opened; what a crash leaves. No program is named here. -/
import Derived.Test.YtillhpepfpldcaaDisktells15
namespace Go.Proofs.Ytillhpepfpldcaa

theorem numF_cut : ∀ (k a m : Nat) (s r : List UInt8) (p : List UInt8), numF k a s = some (m, r) → p <+: s → k ≤ p.length → ∃ r', numF k a p = some (m, r') ∧ r'.length + k = p.length ∧ r' <+: r := by
  intro k
  induction k with
  | zero => intro a m s r p h hp _; simp only [numF, Option.some.injEq, Prod.mk.injEq] at h; obtain ⟨rfl, rfl⟩ := h; exact ⟨p, rfl, rfl, hp⟩
  | succ k ih =>
    intro a m s r p h hp hk
    cases p with
    | nil => simp at hk
    | cons c p =>
      obtain ⟨q, rfl⟩ := hp
      rw [List.cons_append, numF] at h
      obtain ⟨r', h1, h2, h3⟩ := ih _ _ _ _ p h (List.prefix_append _ _) (by simpa using hk)
      exact ⟨r', by rw [numF]; exact h1, by simp; omega, h3⟩

/-- what is cut short of a batch is none yet -/
theorem cut_err {s p : List UInt8} {b : BatchT} {n : Nat} (h : decodeB s = .ok (b, n)) (hp : p <+: s) (hn : p.length < n) : decodeB p = .error 5 := by
  rw [err5_iff]
  by_cases h2 : p.length < 2
  · exact .inl h2
  · right
    unfold decodeB at h
    cases hs : numF 2 0 s with
    | none => rw [hs] at h; cases h
    | some x =>
      obtain ⟨m, r⟩ := x
      rw [hs] at h
      simp only at h
      by_cases hm : r.length < m
      · rw [if_pos hm] at h; cases h
      · rw [if_neg hm] at h
        have hnm : n = m + 2 := by
          revert h
          split
          · intro h; cases h
          · split
            · intro h; cases h
            · intro h; cases h; rfl
        obtain ⟨r', h3, h4, h5⟩ := numF_cut 2 0 m s r p hs hp (by omega)
        exact ⟨m, r', h3, by omega⟩
theorem cut_err5 {s p : List UInt8} (h : decodeB s = .error 5) (hp : p <+: s) : decodeB p = .error 5 := by
  rw [err5_iff] at h ⊢
  by_cases h2 : p.length < 2
  · exact .inl h2
  · right
    rcases h with h | ⟨m, r, hs, hm⟩
    · exact absurd (Nat.lt_of_le_of_lt hp.length_le h) h2
    · obtain ⟨r', h3, h4, h5⟩ := numF_cut 2 0 m s r p hs hp (by omega)
      exact ⟨m, r', h3, Nat.lt_of_le_of_lt h5.length_le hm⟩

/-- how many batches are whole within so many bytes -/
def fitN : Nat → List BatchT → Nat
  | _, [] => 0
  | m, b :: l => if (bytesB b).length ≤ m then fitN (m - (bytesB b).length) l + 1 else 0
theorem fitN_le : ∀ (l : List BatchT) (m : Nat), fitN m l ≤ l.length := by
  intro l
  induction l with
  | nil => intro m; simp [fitN]
  | cons b l ih => intro m; rw [fitN]; split; · have := ih (m - (bytesB b).length); simp; omega
                   · simp
theorem fitN_mono : ∀ (l : List BatchT) (m n : Nat), m ≤ n → fitN m l ≤ fitN n l := by
  intro l
  induction l with
  | nil => intro m n _; simp [fitN]
  | cons b l ih =>
    intro m n h
    rw [fitN, fitN]
    by_cases h1 : (bytesB b).length ≤ m
    · rw [if_pos h1, if_pos (by omega)]
      have := ih (m - (bytesB b).length) (n - (bytesB b).length) (by omega)
      omega
    · rw [if_neg h1]; omega
theorem fitN_ge : ∀ (l : List BatchT) (m k : Nat), k ≤ l.length → (flatB (l.take k)).length ≤ m → k ≤ fitN m l := by
  intro l
  induction l with
  | nil => intro m k h _; simpa [fitN] using h
  | cons b l ih =>
    intro m k hk h
    cases k with
    | zero => omega
    | succ k =>
      rw [List.take_succ_cons, flatB_cons, List.length_append] at h
      rw [fitN, if_pos (by omega)]
      have := ih (m - (bytesB b).length) k (by simpa using hk) (by omega)
      omega
theorem fitN_bytes : ∀ (l : List BatchT) (m : Nat), (flatB (l.take (fitN m l))).length ≤ m := by
  intro l
  induction l with
  | nil => intro m; simp [fitN, flatB]
  | cons b l ih =>
    intro m
    rw [fitN]
    by_cases h : (bytesB b).length ≤ m
    · rw [if_pos h, List.take_succ_cons, flatB_cons, List.length_append]
      have := ih (m - (bytesB b).length)
      omega
    · rw [if_neg h]; simp [flatB]
theorem fitN_all {l : List BatchT} {m : Nat} (h : (flatB l).length ≤ m) : fitN m l = l.length := by
  have h1 := fitN_le l m
  have h2 := fitN_ge l m l.length (Nat.le_refl _) (by rw [List.take_length]; exact h)
  omega

theorem cut_seg : ∀ (l : List BatchT) (r : List UInt8) (m : Nat), Rights l → decodeB r = .error 5 → m ≤ (flatB l).length + r.length →
    ∃ q, SegIs ((flatB l ++ r).take m) (l.take (fitN m l)) q 5 := by
  intro l
  induction l with
  | nil =>
    intro r m _ hr _
    refine ⟨r.take m, fun b hb => (by simp at hb), ?_, cut_err5 hr (List.take_prefix _ _)⟩
    simp [flatB]
  | cons b l ih =>
    intro r m hl hr hm
    have hb : checkBa b = 0 := hl b (by simp)
    rw [fitN, flatB_cons, List.append_assoc]
    by_cases h : (bytesB b).length ≤ m
    · rw [if_pos h]
      obtain ⟨q, q1, q2, q3⟩ := ih r (m - (bytesB b).length) (fun c hc => hl c (by simp [hc])) hr (by rw [flatB_cons, List.length_append] at hm; omega)
      refine ⟨q, fun c hc => ?_, ?_, q3⟩
      · rw [List.take_succ_cons] at hc
        rcases List.mem_cons.1 hc with rfl | hc
        · exact hb
        · exact q1 c hc
      · rw [List.take_append, List.take_of_length_le h, q2, List.take_succ_cons, flatB_cons, List.append_assoc]
    · rw [if_neg h]
      refine ⟨(bytesB b ++ (flatB l ++ r)).take m, fun c hc => (by simp at hc), by simp [flatB], ?_⟩
      exact cut_err (decode_of hb _) (List.take_prefix _ _) (by rw [List.length_take]; omega)

theorem segT_cut {s : List UInt8} (h : (segT s).2.2 = 5) {m : Nat} (hm : m ≤ s.length) :
    (segT (s.take m)).1 = (segT s).1.take (fitN m (segT s).1) ∧ (segT (s.take m)).2.2 = 5 := by
  obtain ⟨h1, h2, h3⟩ := segT_is s
  rw [h] at h3
  have hl := congrArg List.length h2
  rw [List.length_append] at hl
  obtain ⟨q, hq⟩ := cut_seg (segT s).1 (segT s).2.1 m h1 h3 (by omega)
  rw [← h2] at hq
  have := segT_of hq
  rw [this]
  exact ⟨rfl, rfl⟩

theorem ends_cut {s : List UInt8} {l : List BatchT} {n : Nat} (hl : (segT s).1 = l) {k : Nat} (hk : n = (flatB (l.take k)).length) : s.take n = flatB (l.take k) := by
  have h2 := whole_rest s
  unfold wholeS at h2
  rw [hl] at h2
  rw [h2]
  have : flatB l = flatB (l.take k) ++ flatB (l.drop k) := by rw [← flatB_app, List.take_append_drop]
  rw [this, List.append_assoc, hk, List.take_left']
  rfl

/-- the end of a batch, asked of what is ahead of it alone -/
theorem isEnd_take {s : List UInt8} (h : (segT s).2.2 = 5) (n : Nat) (hn : n ≤ s.length) : isEnd s n = decide ((wholeS (s.take n)).length = n) := by
  rw [Bool.eq_iff_iff, decide_eq_true_iff, isEnd_iff]
  obtain ⟨c1, c2⟩ := segT_cut h hn
  constructor
  · rintro ⟨k, hk, hk2⟩
    have hk3 : n = (flatB ((segT s).1.take k)).length := by omega
    have ht := ends_cut rfl hk3
    unfold wholeS
    rw [c1]
    have h1 := fitN_ge (segT s).1 n k hk (by omega)
    have h2 := fitN_bytes (segT s).1 n
    have h3 : (flatB ((segT s).1.take k)).length ≤ (flatB ((segT s).1.take (fitN n (segT s).1))).length := by
      have : (segT s).1.take k = ((segT s).1.take (fitN n (segT s).1)).take k := by rw [List.take_take, Nat.min_eq_left h1]
      rw [this]
      have := congrArg (fun l => (flatB l).length) (List.take_append_drop k ((segT s).1.take (fitN n (segT s).1)))
      simp only [flatB_app, List.length_append] at this
      omega
    omega
  · intro hw
    unfold wholeS at hw
    rw [c1] at hw
    exact ⟨_, fitN_le _ _, by rw [hw]⟩

/-! open -/
theorem open_app (i : List (List UInt8)) (s : List UInt8) (n : Int) : openD ⟨i ++ [s], n⟩ = ⟨i ++ [wholeS s], (wholeS s).length⟩ := by
  unfold openD; simp only; rw [lastS_app, setLastS_app]
theorem wholeS_whole (s : List UInt8) : wholeS (wholeS s) = wholeS s := by
  show flatB (segT (wholeS s)).1 = wholeS s
  rw [whole_seg]
  rfl
theorem take_len {l : List BatchT} : (flatB (l.take l.length)).length = (flatB l).length := by rw [List.take_length]

theorem open_right {d : DiskT} (h : RightD d) : RightD (openD d) ∧ batchesD (openD d).segs = batchesD d.segs ∧ openD (openD d) = openD d ∧ tornD (openD d) = false := by
  cases h with
  | none => exact ⟨RightD.none, rfl, rfl, rfl⟩
  | some i s n k h1 h2 h3 h4 h5 h6 =>
    rw [open_app]
    have hw := whole_seg s
    refine ⟨RightD.some i (wholeS s) (wholeS s).length (segT s).1.length h1 h2 ?_ (by rw [hw]) (by rw [hw]; exact Nat.le_refl _) ?_, ?_, ?_, ?_⟩
    · have := whole_le s; omega
    · rw [hw]; simp only; rw [List.take_length]; rfl
    · unfold batchesD; simp only; rw [List.flatMap_append, List.flatMap_append]
      simp [hw]
    · rw [open_app, wholeS_whole]
    · unfold tornD; simp only; rw [lastS_app, wholeS_whole]; simp

/-! append -/
theorem put_right {d d' : DiskT} {b : BatchT} (h : RightD d) (ht : tornD d = false) (hb : checkBa b = 0) (hp : putD d (bytesB b) = .ok d') :
    RightD d' ∧ batchesD d'.segs = batchesD d.segs ++ [b] ∧ tornD d' = false := by
  have hbl : (bytesB b).length ≤ 373 := by have := inner_len hb; unfold bytesB; rw [List.length_append, beN_len]; omega
  have hseg : segT (bytesB b) = ([b], [], 5) := segT_of ⟨fun c hc => by rw [List.mem_singleton] at hc; subst hc; exact hb, by simp [flatB], decodeB_nil⟩
  cases h with
  | none =>
    unfold putD at hp
    rw [if_neg (by simp), if_neg (by simp)] at hp
    cases hp
    refine ⟨RightD.some [] (bytesB b) 0 0 (by simp) (fun x hx => (by cases hx)) (by omega) (by rw [hseg]) (by omega) (by simp [flatB]), ?_, ?_⟩
    · simp [batchesD, hseg]
    · unfold tornD
      simp only [List.nil_append]
      have : lastS [bytesB b] = bytesB b := lastS_app [] _
      simp only [this, wholeS, hseg]; simp [flatB]
  | some i s n k h1 h2 h3 h4 h5 h6 =>
    have hws : wholeS s = s := by
      unfold tornD at ht
      simp only [lastS_app, decide_eq_false_iff_not] at ht
      exact whole_eq ht
    have hr : (segT s).2.1 = [] := (rest_nil s).2 (by rw [hws])
    have hs : segT s = ((segT s).1, [], 5) := Prod.ext rfl (Prod.ext hr h4)
    unfold putD at hp
    simp only [lastS_app, setLastS_app] at hp
    by_cases hroom : s.length + (bytesB b).length ≤ 400
    · rw [if_pos ⟨by simp, hroom⟩] at hp
      cases hp
      have hsb : segT (s ++ bytesB b) = ((segT s).1 ++ [b], [], 5) := by
        refine segT_of ⟨fun c hc => ?_, ?_, decodeB_nil⟩
        · rcases List.mem_append.1 hc with hc | hc
          · exact (segT_is s).1 c hc
          · rw [List.mem_singleton] at hc; subst hc; exact hb
        · rw [flatB_app, flatB_one, List.append_nil]; congr 1; exact hws.symm
      refine ⟨RightD.some i (s ++ bytesB b) n k h1 h2 (by rw [List.length_append]; omega) (by rw [hsb]) (by rw [hsb]; simp; omega) ?_, ?_, ?_⟩
      · rw [hsb]; simp only; rw [List.take_append_of_le_length h5]; exact h6
      · unfold batchesD; simp only; rw [List.flatMap_append, List.flatMap_append]
        simp [hsb]
      · unfold tornD; simp only; rw [lastS_app]; unfold wholeS; rw [hsb]
        simp only [flatB_app, flatB_one, List.length_append, decide_eq_false_iff_not]
        have : (flatB (segT s).1).length = s.length := congrArg List.length hws
        omega
    · rw [if_neg (by simp [hroom])] at hp
      by_cases h8 : (i ++ [s]).length = 8
      · rw [if_pos h8] at hp; cases hp
      · rw [if_neg h8] at hp
        cases hp
        rw [List.length_append, List.length_singleton] at h8
        refine ⟨?_, ?_, ?_⟩
        · refine RightD.some (i ++ [s]) (bytesB b) 0 0 (by simp; omega) (fun x hx => ?_) (by omega) (by rw [hseg]) (by omega) (by simp [flatB])
          rcases List.mem_append.1 hx with hx | hx
          · exact h2 x hx
          · rw [List.mem_singleton] at hx; subst hx; exact ⟨h3, Prod.ext hr h4⟩
        · unfold batchesD; simp only; rw [List.flatMap_append]; simp [hseg]
        · unfold tornD; simp only; rw [lastS_app]; unfold wholeS; rw [hseg]; simp [flatB]

/-! crash -/
theorem cut_app (i : List (List UInt8)) (s : List UInt8) (n : Int) (keep : Int) : cutD ⟨i ++ [s], n⟩ keep = ⟨i ++ [s.take (n + min keep ((s.length : Int) - n)).toNat], n⟩ := by
  unfold cutD; simp only; rw [lastS_app, setLastS_app]

/-- how many bytes of the last segment a crash leaves -/
def cutN (s : List UInt8) (n : Nat) (keep : Int) : Nat := (n + min keep ((s.length : Int) - n)).toNat
theorem cutN_le {s : List UInt8} {n : Nat} {keep : Int} (hk : 0 ≤ keep) (hn : n ≤ s.length) : n ≤ cutN s n keep ∧ cutN s n keep ≤ s.length := by unfold cutN; omega

theorem end_le {s : List UInt8} {n k : Nat} (h : n = (flatB ((segT s).1.take k)).length) : n ≤ s.length := by
  have h1 := whole_le s
  have h2 := congrArg (fun l => (flatB l).length) (List.take_append_drop k (segT s).1)
  simp only [flatB_app, List.length_append] at h2
  unfold wholeS at h1
  omega

theorem cut_right {i : List (List UInt8)} {s : List UInt8} {n k m : Nat} (h1 : i.length ≤ 7) (h2 : ∀ x ∈ i, x.length ≤ 400 ∧ (segT x).2 = ([], 5)) (h3 : s.length ≤ 400) (h4 : (segT s).2.2 = 5) (h5 : k ≤ (segT s).1.length) (h6 : n = (flatB ((segT s).1.take k)).length)
    (hm : n ≤ m) (hms : m ≤ s.length) : RightD ⟨i ++ [s.take m], n⟩ ∧ batchesD (i ++ [s.take m]) = batchesD i ++ (segT s).1.take (fitN m (segT s).1) ∧ k ≤ fitN m (segT s).1 := by
  obtain ⟨c1, c2⟩ := segT_cut h4 hms
  have hk := fitN_ge (segT s).1 m k h5 (by omega)
  refine ⟨RightD.some i (s.take m) n k h1 h2 (by rw [List.length_take]; omega) c2 ?_ ?_, ?_, hk⟩
  · rw [c1, List.length_take]; omega
  · rw [c1, List.take_take, Nat.min_eq_left hk]; exact h6
  · unfold batchesD; rw [List.flatMap_append]; simp [c1]

theorem crash_right {d : DiskT} (h : RightD d) {keep : Int} (hk : 0 ≤ keep) : RightD (cutD d keep) := by
  cases h with
  | none =>
    have : cutD ⟨[], 0⟩ keep = ⟨[], 0⟩ := by unfold cutD; simp [setLastS]
    rw [this]; exact RightD.none
  | some i s n k h1 h2 h3 h4 h5 h6 =>
    rw [cut_app]
    obtain ⟨m1, m2⟩ := cutN_le (keep := keep) hk (end_le h6)
    exact (cut_right h1 h2 h3 h4 h5 h6 m1 m2).1

theorem batches_app (i : List (List UInt8)) (s : List UInt8) : batchesD (i ++ [s]) = batchesD i ++ (segT s).1 := by unfold batchesD; rw [List.flatMap_append]; simp

/-- DiskKeeps, in plain Lean -/
theorem keeps_of {d : DiskT} (h : RightD d) {keep more : Int} (hk : 0 ≤ keep) (hm : keep ≤ more) :
    (∃ j, j ≤ (batchesD (cutD d more).segs).length ∧ batchesD (cutD d keep).segs = (batchesD d.segs).take j ∧ (batchesD (cutD d keep).segs).length = j) ∧
    (batchesD (cutD d more).segs = (batchesD d.segs).take (batchesD (cutD d more).segs).length) ∧ (batchesD (cutD d more).segs).length ≤ (batchesD d.segs).length ∧
    cutD d 400 = d ∧ ((lastS (cutD d 0).segs).length : Int) = d.synced := by
  cases h with
  | none =>
    have hc : ∀ x, cutD ⟨[], 0⟩ x = ⟨[], 0⟩ := by intro x; unfold cutD; simp [setLastS]
    rw [hc, hc, hc, hc]
    exact ⟨⟨0, by simp [batchesD], by simp [batchesD], by simp [batchesD]⟩, by simp [batchesD], by simp [batchesD], rfl, rfl⟩
  | some i s n k h1 h2 h3 h4 h5 h6 =>
    have hn := end_le h6
    rw [cut_app, cut_app, cut_app, cut_app]
    obtain ⟨a1, a2⟩ := cutN_le (keep := keep) hk hn
    obtain ⟨b1, b2⟩ := cutN_le (keep := more) (by omega) hn
    obtain ⟨_, a3, _⟩ := cut_right h1 h2 h3 h4 h5 h6 a1 a2
    obtain ⟨_, b3, _⟩ := cut_right h1 h2 h3 h4 h5 h6 b1 b2
    have hmono : fitN (cutN s n keep) (segT s).1 ≤ fitN (cutN s n more) (segT s).1 := fitN_mono _ _ _ (by unfold cutN; omega)
    have hl := fitN_le (segT s).1 (cutN s n more)
    simp only
    rw [show ((n : Int) + min keep ((s.length : Int) - n)).toNat = cutN s n keep from rfl, show ((n : Int) + min more ((s.length : Int) - n)).toNat = cutN s n more from rfl, a3, b3, batches_app]
    refine ⟨⟨(batchesD i).length + fitN (cutN s n keep) (segT s).1, ?_, ?_, ?_⟩, ?_, ?_, ?_, ?_⟩
    · simp only [List.length_append, List.length_take]; omega
    · rw [List.take_append, List.take_of_length_le (l := batchesD i) (by omega)]; congr 2; omega
    · simp only [List.length_append, List.length_take]; omega
    · rw [List.take_append, List.take_of_length_le (l := batchesD i) (by simp), List.length_append, List.length_take]; congr 2; omega
    · simp only [List.length_append, List.length_take]; omega
    · have : ((n : Int) + min 400 ((s.length : Int) - n)).toNat = s.length := by omega
      rw [this, List.take_length]
    · have : ((n : Int) + min 0 ((s.length : Int) - n)).toNat = n := by omega
      rw [this, lastS_app, List.length_take]; omega

/-- a crash behind an append to what is open: what was, or that and the batch -/
theorem crash_append {d x : DiskT} {b : BatchT} (h : RightD d) (hopen : openD d = d) (hb : checkBa b = 0) (hp : putD d (bytesB b) = .ok x) {keep : Int} (hk : 0 ≤ keep) :
    batchesD (cutD x keep).segs = batchesD d.segs ∨ batchesD (cutD x keep).segs = batchesD d.segs ++ [b] := by
  have ht : tornD d = false := by rw [← hopen]; exact (open_right h).2.2.2
  have hbl : (bytesB b).length ≤ 373 := by have := inner_len hb; unfold bytesB; rw [List.length_append, beN_len]; omega
  have hseg : segT (bytesB b) = ([b], [], 5) := segT_of ⟨fun c hc => by rw [List.mem_singleton] at hc; subst hc; exact hb, by simp [flatB], decodeB_nil⟩
  -- the last segment: whole ones, then the batch; all but it is for good
  have key : ∀ (i : List (List UInt8)) (t : List UInt8) (l : List BatchT) (n k : Nat), i.length ≤ 7 → (∀ x ∈ i, x.length ≤ 400 ∧ (segT x).2 = ([], 5)) → t.length ≤ 400 → segT t = (l ++ [b], [], 5) → n = (flatB l).length →
      batchesD (cutD ⟨i ++ [t], n⟩ keep).segs = batchesD i ++ l ∨ batchesD (cutD ⟨i ++ [t], n⟩ keep).segs = (batchesD i ++ l) ++ [b] := by
    intro i t l n k g1 g2 g3 g4 g5
    have g6 : n = (flatB ((segT t).1.take l.length)).length := by rw [g4]; simp only; rw [List.take_left']; exact g5; rfl
    rw [cut_app]
    obtain ⟨m1, m2⟩ := cutN_le (keep := keep) hk (end_le g6)
    obtain ⟨_, c3, c4⟩ := cut_right g1 g2 g3 (by rw [g4]) (by rw [g4]; simp) g6 m1 m2
    unfold cutN at c3 c4
    simp only
    rw [c3]
    have hfl := fitN_le (segT t).1 (cutN t n keep)
    unfold cutN at hfl
    generalize fitN _ _ = j at *
    rw [g4] at hfl ⊢
    simp only [List.length_append, List.length_singleton] at hfl ⊢
    rcases Nat.lt_or_ge l.length j with hj | hj
    · right
      rw [List.take_of_length_le (by simp; omega), List.append_assoc]
    · left
      have : j = l.length := by omega
      subst this
      rw [List.take_left']
      rfl
  cases h with
  | none =>
    unfold putD at hp
    rw [if_neg (by simp), if_neg (by simp)] at hp
    cases hp
    have := key [] (bytesB b) [] 0 0 (by simp) (fun x hx => (by cases hx)) (by omega) (by rw [hseg]; rfl) (by simp [flatB])
    simpa [batchesD] using this
  | some i s n k h1 h2 h3 h4 h5 h6 =>
    rw [open_app] at hopen
    simp only [DiskT.mk.injEq, List.append_cancel_left_eq, List.cons.injEq, and_true] at hopen
    obtain ⟨hws, hns⟩ := hopen
    have hr : (segT s).2.1 = [] := (rest_nil s).2 (by rw [hws])
    unfold putD at hp
    simp only [lastS_app, setLastS_app] at hp
    by_cases hroom : s.length + (bytesB b).length ≤ 400
    · rw [if_pos ⟨by simp, hroom⟩] at hp
      cases hp
      have hsb : segT (s ++ bytesB b) = ((segT s).1 ++ [b], [], 5) := by
        refine segT_of ⟨fun c hc => ?_, ?_, decodeB_nil⟩
        · rcases List.mem_append.1 hc with hc | hc
          · exact (segT_is s).1 c hc
          · rw [List.mem_singleton] at hc; subst hc; exact hb
        · rw [flatB_app, flatB_one, List.append_nil]; congr 1; exact hws.symm
      have hn : n = (flatB (segT s).1).length := by have : wholeS s = flatB (segT s).1 := rfl; rw [this] at hns; omega
      have := key i (s ++ bytesB b) (segT s).1 n 0 h1 h2 (by rw [List.length_append]; omega) hsb hn
      simp only
      rw [batches_app]
      exact this
    · rw [if_neg (by simp [hroom])] at hp
      by_cases h8 : (i ++ [s]).length = 8
      · rw [if_pos h8] at hp; cases hp
      · rw [if_neg h8] at hp
        cases hp
        rw [List.length_append, List.length_singleton] at h8
        have := key (i ++ [s]) (bytesB b) [] 0 0 (by simp; omega) (fun x hx => by
          rcases List.mem_append.1 hx with hx | hx
          · exact h2 x hx
          · rw [List.mem_singleton] at hx; subst hx; exact ⟨h3, Prod.ext hr h4⟩) (by omega) (by rw [hseg]; rfl) (by simp [flatB])
        simpa using this

/-- synced, and then a crash: all is there -/
theorem sync_right {d : DiskT} (h : RightD d) (ht : tornD d = false) : RightD ⟨d.segs, (lastS d.segs).length⟩ ∧ ∀ keep : Int, 0 ≤ keep → cutD ⟨d.segs, (lastS d.segs).length⟩ keep = ⟨d.segs, (lastS d.segs).length⟩ := by
  cases h with
  | none =>
    have hc : ∀ x, cutD ⟨[], 0⟩ x = ⟨[], 0⟩ := by intro x; unfold cutD; simp [setLastS]
    exact ⟨RightD.none, fun keep _ => hc keep⟩
  | some i s n k h1 h2 h3 h4 h5 h6 =>
    have hws : wholeS s = s := by
      unfold tornD at ht
      simp only [lastS_app, decide_eq_false_iff_not] at ht
      exact whole_eq ht
    simp only [lastS_app]
    refine ⟨RightD.some i s s.length (segT s).1.length h1 h2 h3 h4 (Nat.le_refl _) (by rw [List.take_length]; exact (congrArg List.length hws).symm), fun keep hk => ?_⟩
    rw [cut_app]
    have : ((s.length : Int) + min keep ((s.length : Int) - s.length)).toNat = s.length := by omega
    rw [this, List.take_length]

end Go.Proofs.Ytillhpepfpldcaa
