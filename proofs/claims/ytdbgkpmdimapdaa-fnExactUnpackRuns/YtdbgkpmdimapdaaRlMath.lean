/- Runs of bytes: valid ones, the runs of a text, the text of runs, their encoding; what undoes what. -/
set_option linter.unusedSimpArgs false
set_option linter.unusedVariables false
namespace G294
/-- the sum of the lengths -/
def sumRs : List (UInt8 × Int) → Int
  | [] => 0
  | r :: l => r.2 + sumRs l
theorem sumRs_append (l m : List (UInt8 × Int)) : sumRs (l ++ m) = sumRs l + sumRs m := by
  induction l with
  | nil => simp [sumRs]
  | cons r l ih => simp only [List.cons_append, sumRs, ih]; omega
theorem sumRs_take {l : List (UInt8 × Int)} {k : Nat} (h : k < l.length) : sumRs (l.take (k + 1)) = sumRs (l.take k) + l[k].2 := by
  rw [List.take_succ_eq_append_getElem h, sumRs_append]
  simp [sumRs]
/-- one run keeps its conditions -/
def okRu (l : List (UInt8 × Int)) (k : Nat) : Bool := decide (1 ≤ (l.getD k (0, 0)).2) && (decide (sumRs (l.take (k + 1)) ≤ 200) && decide (0 < k → (l.getD k (0, 0)).1 ≠ (l.getD (k - 1) (0, 0)).1))
def goodRs (l : List (UInt8 × Int)) : Bool := (List.range l.length).all fun k => okRu l k
theorem goodRs_iff (l : List (UInt8 × Int)) : goodRs l = true ↔ ∀ k, k < l.length → okRu l k = true := by simp [goodRs]
theorem goodRs_no {l : List (UInt8 × Int)} {k : Nat} (hk : k < l.length) (h : okRu l k = false) : goodRs l = false := by
  cases hg : goodRs l with
  | false => rfl
  | true => rw [(goodRs_iff l).1 hg k hk] at h; exact absurd h (by decide)
theorem okRu_iff {l : List (UInt8 × Int)} {k : Nat} (h : k < l.length) : okRu l k = true ↔ 1 ≤ l[k].2 ∧ sumRs (l.take k) + l[k].2 ≤ 200 ∧ (0 < k → l[k].1 ≠ (l.getD (k - 1) (0, 0)).1) := by
  have e : l.getD k (0, 0) = l[k] := by rw [List.getD_eq_getElem?_getD, List.getElem?_eq_getElem h]; rfl
  rw [okRu, Bool.and_eq_true, Bool.and_eq_true, decide_eq_true_eq, decide_eq_true_eq, decide_eq_true_eq, e, sumRs_take h]
/-- one run's conditions where all before it keep theirs -/
theorem okRu_prefix {l m : List (UInt8 × Int)} {k : Nat} (h : k < l.length) : okRu (l ++ m) k = okRu l k := by
  have e1 : (l ++ m).getD k (0, 0) = l.getD k (0, 0) := by rw [List.getD_eq_getElem?_getD, List.getD_eq_getElem?_getD, List.getElem?_append_left h]
  have e2 : (l ++ m).getD (k - 1) (0, 0) = l.getD (k - 1) (0, 0) := by rw [List.getD_eq_getElem?_getD, List.getD_eq_getElem?_getD, List.getElem?_append_left (by omega)]
  have e3 : (l ++ m).take (k + 1) = l.take (k + 1) := by rw [List.take_append_of_le_length (by omega)]
  rw [okRu, okRu, e1, e2, e3]
theorem good_prefix {l m : List (UInt8 × Int)} (h : goodRs (l ++ m) = true) : goodRs l = true := by
  rw [goodRs_iff] at h ⊢
  intro k hk
  rw [← okRu_prefix (m := m) hk]
  exact h k (by simp; omega)
theorem good_not_prefix {l : List (UInt8 × Int)} (m : List (UInt8 × Int)) (h : goodRs l = false) : goodRs (l ++ m) = false := by
  cases hg : goodRs (l ++ m) with
  | false => rfl
  | true => rw [good_prefix hg] at h; exact absurd h (by decide)
theorem good_snoc {l : List (UInt8 × Int)} {r : UInt8 × Int} (h : goodRs l = true) (h1 : 1 ≤ r.2) (h2 : sumRs l + r.2 ≤ 200) (h3 : ∀ c, l.getLast? = some c → r.1 ≠ c.1) : goodRs (l ++ [r]) = true := by
  rw [goodRs_iff] at h ⊢
  intro k hk
  simp only [List.length_append, List.length_cons, List.length_nil] at hk
  rcases Nat.lt_or_ge k l.length with hl | hl
  · rw [okRu_prefix hl]; exact h k hl
  · obtain rfl : k = l.length := by omega
    rw [okRu_iff (by simp)]
    refine ⟨by simpa using h1, by simpa using h2, fun h0 => ?_⟩
    have e : (l ++ [r]).getD (l.length - 1) (0, 0) = l.getD (l.length - 1) (0, 0) := by rw [List.getD_eq_getElem?_getD, List.getD_eq_getElem?_getD, List.getElem?_append_left (by omega)]
    rw [e]
    have e2 : l.getLast? = some (l.getD (l.length - 1) (0, 0)) := by
      rw [List.getLast?_eq_getElem?, List.getD_eq_getElem?_getD, List.getElem?_eq_getElem (by omega)]; rfl
    simpa using h3 _ e2
theorem good_long {l : List (UInt8 × Int)} (h : goodRs l = true) {r : UInt8 × Int} (hr : r ∈ l) : 1 ≤ r.2 := by
  obtain ⟨k, hk, rfl⟩ := List.mem_iff_getElem.1 hr
  exact ((okRu_iff hk).1 ((goodRs_iff l).1 h k hk)).1
theorem good_sumTake {l : List (UInt8 × Int)} (h : goodRs l = true) : ∀ k, k ≤ l.length → (k : Int) ≤ sumRs (l.take k) ∧ sumRs (l.take k) ≤ 200
  | 0, _ => ⟨by simp [sumRs], by simp [sumRs]⟩
  | k + 1, hk => by
    have ih := good_sumTake h k (by omega)
    have hk' : k < l.length := by omega
    have o := (okRu_iff hk').1 ((goodRs_iff l).1 h k hk')
    rw [sumRs_take hk']
    omega
theorem good_sum {l : List (UInt8 × Int)} (h : goodRs l = true) : (l.length : Int) ≤ sumRs l ∧ sumRs l ≤ 200 := by
  have := good_sumTake h l.length (Nat.le_refl _)
  rwa [List.take_length] at this
/-! the runs of a text -/
def bump (rs : List (UInt8 × Int)) (b : UInt8) : List (UInt8 × Int) :=
  match rs.getLast? with
  | none => [(b, 1)]
  | some c => if c.1 = b then rs.dropLast ++ [(c.1, c.2 + 1)] else rs ++ [(b, 1)]
def rlOf (s : List UInt8) : List (UInt8 × Int) := s.foldl bump []
theorem rlOf_snoc (s : List UInt8) (b : UInt8) : rlOf (s ++ [b]) = bump (rlOf s) b := by simp [rlOf, List.foldl_append]
theorem rlOf_take {s : List UInt8} {k : Nat} (h : k < s.length) : rlOf (s.take (k + 1)) = bump (rlOf (s.take k)) s[k] := by
  rw [List.take_succ_eq_append_getElem h, rlOf_snoc]
theorem snoc_of_last {α : Type} {l : List α} {c : α} (h : l.getLast? = some c) : l = l.dropLast ++ [c] := by
  have hn : l ≠ [] := by rintro rfl; simp at h
  have := List.dropLast_concat_getLast hn
  rw [List.getLast?_eq_some_getLast hn] at h
  rw [Option.some.inj h] at this
  exact this.symm
/-- what holds of the runs behind each byte -/
structure RlOk (s : List UInt8) (rs : List (UInt8 × Int)) : Prop where
  last : rs.getLast?.map (·.1) = s.getLast?
  good : ∀ k, k < rs.length → 1 ≤ (rs.getD k (0, 0)).2 ∧ (0 < k → (rs.getD k (0, 0)).1 ≠ (rs.getD (k - 1) (0, 0)).1)
  sum : sumRs rs = s.length
  text : rs.flatMap (fun r => List.replicate r.2.toNat r.1) = s
theorem getD_left {α : Type} {l m : List α} {k : Nat} {d : α} (h : k < l.length) : (l ++ m).getD k d = l.getD k d := by rw [List.getD_eq_getElem?_getD, List.getD_eq_getElem?_getD, List.getElem?_append_left h]
theorem getD_end {α : Type} {l : List α} {x d : α} : (l ++ [x]).getD l.length d = x := by simp [List.getD_eq_getElem?_getD]
theorem rlOk_step {s : List UInt8} {rs : List (UInt8 × Int)} (h : RlOk s rs) (b : UInt8) : RlOk (s ++ [b]) (bump rs b) := by
  unfold bump
  cases hl : rs.getLast? with
  | none =>
    have h0 : rs = [] := List.getLast?_eq_none_iff.1 hl
    subst h0
    have hs : s = [] := by
      have := h.last
      rw [hl] at this
      exact List.getLast?_eq_none_iff.1 this.symm
    subst hs
    refine ⟨by simp, fun k hk => ?_, by simp [sumRs], by simp⟩
    simp at hk
    subst hk
    exact ⟨by simp, fun h => absurd h (by omega)⟩
  | some c =>
    have hlast := h.last
    rw [hl] at hlast
    have e := snoc_of_last hl
    generalize rs.dropLast = q at e
    subst e
    have hsum := h.sum
    rw [sumRs_append] at hsum
    simp only [sumRs] at hsum
    have htx := h.text
    rw [List.flatMap_append] at htx
    have hc1 := (h.good q.length (by simp)).1
    rw [getD_end] at hc1
    by_cases hcb : c.1 = b
    · simp only [hcb, if_true]
      refine ⟨by simp, fun k hk => ?_, ?_, ?_⟩
      · have hg := h.good k (by simpa using hk)
        simp only [List.length_append, List.length_cons, List.length_nil] at hk
        rcases Nat.lt_or_ge k q.length with hq | hq
        · rw [getD_left hq, getD_left (by omega)] at hg ⊢
          exact hg
        · obtain rfl : k = q.length := by omega
          rw [getD_end] at hg ⊢
          refine ⟨by show 1 ≤ c.2 + 1; omega, fun h0 => ?_⟩
          have := hg.2 h0
          rw [getD_left (by omega)] at this ⊢
          rw [← hcb]; exact this
      · rw [sumRs_append]; simp only [sumRs, List.length_append, List.length_cons, List.length_nil]; omega
      · rw [List.flatMap_append, ← htx, List.append_assoc]
        congr 1
        simp only [List.flatMap_cons, List.flatMap_nil, List.append_nil]
        rw [show (c.2 + 1).toNat = c.2.toNat + 1 by omega, List.replicate_succ', hcb]
    · simp only [if_neg hcb]
      refine ⟨by simp, fun k hk => ?_, ?_, ?_⟩
      · simp only [List.length_append, List.length_cons, List.length_nil] at hk
        rcases Nat.lt_or_ge k (q ++ [c]).length with hq | hq
        · have hg := h.good k hq
          rw [getD_left hq, getD_left (l := q ++ [c]) (by omega)]
          exact hg
        · simp only [List.length_append, List.length_cons, List.length_nil] at hq
          obtain rfl : k = (q ++ [c]).length := by simp; omega
          rw [getD_end]
          refine ⟨by simp, fun _ => ?_⟩
          rw [getD_left (by simp), show (q ++ [c]).length - 1 = q.length by simp, getD_end]
          exact fun e => hcb e.symm
      · rw [sumRs_append, sumRs_append]; simp only [sumRs, List.length_append, List.length_cons, List.length_nil]; omega
      · rw [List.flatMap_append, List.flatMap_append, htx]; simp
theorem rlOk (s : List UInt8) : ∀ k, k ≤ s.length → RlOk (s.take k) (rlOf (s.take k))
  | 0, _ => ⟨by simp [rlOf], fun k hk => by simp [rlOf] at hk, by simp [rlOf, sumRs], by simp [rlOf]⟩
  | k + 1, h => by
    rw [rlOf_take (by omega), List.take_succ_eq_append_getElem (by omega)]
    exact rlOk_step (rlOk s k (by omega)) _
theorem rlOk_all (s : List UInt8) : RlOk s (rlOf s) := by have := rlOk s s.length (Nat.le_refl _); rwa [List.take_length] at this
theorem rl_sumTake {s : List UInt8} {rs : List (UInt8 × Int)} (h : RlOk s rs) : ∀ j k, j + k = rs.length → sumRs (rs.take j) + (k : Int) ≤ sumRs rs := by
  intro j k
  induction k generalizing j with
  | zero => intro e; rw [List.take_of_length_le (by omega)]; simp
  | succ k ih =>
    intro e
    have := ih (j + 1) (by omega)
    have hj : j < rs.length := by omega
    rw [sumRs_take hj] at this
    have hg := (h.good j hj).1
    rw [List.getD_eq_getElem?_getD, List.getElem?_eq_getElem hj] at hg
    simp only [Option.getD_some] at hg
    omega
theorem rlOf_good {s : List UInt8} (h : s.length ≤ 200) : goodRs (rlOf s) = true := by
  have o := rlOk_all s
  rw [goodRs_iff]
  intro k hk
  have hg := o.good k hk
  have h1 := rl_sumTake o (k + 1) ((rlOf s).length - (k + 1)) (by omega)
  have h2 := o.sum
  rw [sumRs_take hk] at h1
  rw [okRu_iff hk]
  rw [show (rlOf s).getD k (0, 0) = (rlOf s)[k] by rw [List.getD_eq_getElem?_getD, List.getElem?_eq_getElem hk]; rfl] at hg
  exact ⟨hg.1, by omega, hg.2⟩
/-- the bytes of runs -/
def txOf (l : List (UInt8 × Int)) : List UInt8 := l.flatMap fun r => List.replicate r.2.toNat r.1
theorem txOf_rlOf (s : List UInt8) : txOf (rlOf s) = s := (rlOk_all s).text
theorem txOf_take {l : List (UInt8 × Int)} {k : Nat} (h : k < l.length) : txOf (l.take (k + 1)) = txOf (l.take k) ++ List.replicate l[k].2.toNat l[k].1 := by
  unfold txOf
  rw [List.take_succ_eq_append_getElem h, List.flatMap_append]
  simp
theorem txOf_length : ∀ {l : List (UInt8 × Int)}, (∀ r ∈ l, 1 ≤ r.2) → ((txOf l).length : Int) = sumRs l
  | [], _ => rfl
  | r :: l, h => by
    have ih := txOf_length (l := l) fun x hx => h x (List.mem_cons_of_mem _ hx)
    have h1 := h r (List.mem_cons_self ..)
    show (((List.replicate r.2.toNat r.1 ++ txOf l).length : Nat) : Int) = r.2 + sumRs l
    rw [List.length_append, List.length_replicate]
    omega
theorem txTake_le {l : List (UInt8 × Int)} (h : goodRs l = true) {k : Nat} (hk : k ≤ l.length) : (txOf (l.take k)).length ≤ 200 := by
  have h1 := txOf_length (l := l.take k) fun r hr => good_long h (List.mem_of_mem_take hr)
  have h2 := (good_sumTake h k hk).2
  omega
/-! the encoding of runs -/
def pkOne (r : UInt8 × Int) : List UInt8 := if 2 ≤ r.2 then [r.1, r.1, UInt8.ofNat (r.2 - 2).toNat] else [r.1]
def pkOf (l : List (UInt8 × Int)) : List UInt8 := l.flatMap pkOne
theorem pkOf_take {l : List (UInt8 × Int)} {k : Nat} (h : k < l.length) : pkOf (l.take (k + 1)) = pkOf (l.take k) ++ pkOne l[k] := by
  unfold pkOf
  rw [List.take_succ_eq_append_getElem h, List.flatMap_append]
  simp
theorem pkOf_snoc (l : List (UInt8 × Int)) (r : UInt8 × Int) : pkOf (l ++ [r]) = pkOf l ++ pkOne r := by simp [pkOf, List.flatMap_append]
theorem pkOne_le (r : UInt8 × Int) : (pkOne r).length ≤ 3 := by unfold pkOne; split <;> simp
theorem pkTake_le {l : List (UInt8 × Int)} (h : goodRs l = true) : ∀ {k : Nat}, k ≤ l.length → (pkOf (l.take k)).length ≤ 3 * k
  | 0, _ => by simp [pkOf]
  | k + 1, hk => by
    rw [pkOf_take (by omega), List.length_append]
    have := pkTake_le h (k := k) (by omega)
    have := pkOne_le l[k]
    omega
/-- the run at the front of an encoding, and what follows it -/
def fstRun : List UInt8 → Option ((UInt8 × Int) × List UInt8)
  | [] => none
  | [a] => some ((a, 1), [])
  | [a, b] => if b = a then none else some ((a, 1), [b])
  | a :: b :: c :: t => if b = a then some ((a, (c.toNat : Int) + 2), t) else some ((a, 1), b :: c :: t)
theorem fstRun_less {s t : List UInt8} {r : UInt8 × Int} (h : fstRun s = some (r, t)) : t.length < s.length := by
  match s, h with
  | [], h => simp [fstRun] at h
  | [a], h => simp [fstRun] at h; obtain ⟨_, rfl⟩ := h; simp
  | [a, b], h =>
    simp only [fstRun] at h
    split at h
    · simp at h
    · simp at h; obtain ⟨_, rfl⟩ := h; simp
  | a :: b :: c :: u, h =>
    simp only [fstRun] at h
    split at h
    · simp at h; obtain ⟨_, rfl⟩ := h; simp; omega
    · simp at h; obtain ⟨_, rfl⟩ := h; simp
theorem fstRun_one {s t : List UInt8} {r : UInt8 × Int} (h : fstRun s = some (r, t)) : 1 ≤ r.2 ∧ r.2 ≤ 257 ∧ pkOne r ++ t = s := by
  match s, h with
  | [], h => simp [fstRun] at h
  | [a], h => simp [fstRun] at h; obtain ⟨rfl, rfl⟩ := h; simp [pkOne]
  | [a, b], h =>
    simp only [fstRun] at h
    split at h
    · simp at h
    · simp at h; obtain ⟨rfl, rfl⟩ := h; simp [pkOne]
  | a :: b :: c :: u, h =>
    simp only [fstRun] at h
    split at h
    · rename_i hb
      simp at h; obtain ⟨rfl, rfl⟩ := h
      have hc := c.toNat_lt
      refine ⟨by show 1 ≤ (c.toNat : Int) + 2; omega, by show (c.toNat : Int) + 2 ≤ 257; omega, ?_⟩
      unfold pkOne
      rw [if_pos (by show 2 ≤ (c.toNat : Int) + 2; omega)]
      show [a, a, UInt8.ofNat ((c.toNat : Int) + 2 - 2).toNat] ++ u = a :: b :: c :: u
      rw [show ((c.toNat : Int) + 2 - 2).toNat = c.toNat by omega, hb]
      simp
    · simp at h; obtain ⟨rfl, rfl⟩ := h; simp [pkOne]
/-- the runs that a text announces, behind those found -/
def unpL (out : List (UInt8 × Int)) (s : List UInt8) : Option (List (UInt8 × Int)) :=
  if s = [] then some out else
  match h : fstRun s with
  | none => none
  | some (r, t) => unpL (out ++ [r]) t
termination_by s.length
decreasing_by exact fstRun_less h
theorem unpL_nil (out : List (UInt8 × Int)) : unpL out [] = some out := by rw [unpL]; simp
theorem unpL_none {out : List (UInt8 × Int)} {s : List UInt8} (h0 : s ≠ []) (h : fstRun s = none) : unpL out s = none := by
  rw [unpL, if_neg h0]
  split
  · rfl
  · rename_i r t e; rw [h] at e; simp at e
theorem unpL_some {out : List (UInt8 × Int)} {s t : List UInt8} {r : UInt8 × Int} (h : fstRun s = some (r, t)) : unpL out s = unpL (out ++ [r]) t := by
  have h0 : s ≠ [] := by rintro rfl; simp [fstRun] at h
  rw [unpL, if_neg h0]
  split
  · rename_i e; rw [h] at e; simp at e
  · rename_i r' t' e
    rw [h] at e
    obtain ⟨rfl, rfl⟩ : r = r' ∧ t = t' := by simpa using e
    rfl
theorem unpL_prefix : ∀ (n : Nat) (out : List (UInt8 × Int)) (s : List UInt8) (l : List (UInt8 × Int)), s.length ≤ n → unpL out s = some l → ∃ m, l = out ++ m := by
  intro n
  induction n with
  | zero =>
    intro out s l hn h
    have : s = [] := List.eq_nil_of_length_eq_zero (by omega)
    subst this
    rw [unpL_nil] at h
    exact ⟨[], by simpa using h.symm⟩
  | succ n ih =>
    intro out s l hn h
    by_cases h0 : s = []
    · subst h0; rw [unpL_nil] at h; exact ⟨[], by simpa using h.symm⟩
    · cases hf : fstRun s with
      | none => rw [unpL_none h0 hf] at h; simp at h
      | some q =>
        obtain ⟨r, t⟩ := q
        rw [unpL_some hf] at h
        obtain ⟨m, rfl⟩ := ih _ t l (by have := fstRun_less hf; omega) h
        exact ⟨[r] ++ m, by simp⟩
/-- the valid runs with a given encoding -/
def unpOf (s : List UInt8) : Option (List (UInt8 × Int)) := (unpL [] s).filter fun l => goodRs l
theorem unpOf_bad {s : List UInt8} {out : List (UInt8 × Int)} {t : List UInt8} (h : unpL out t = unpL [] s) (hb : goodRs out = false) : unpOf s = none := by
  unfold unpOf
  rw [← h]
  cases hl : unpL out t with
  | none => rfl
  | some l =>
    obtain ⟨m, rfl⟩ := unpL_prefix t.length out t l (Nat.le_refl _) hl
    simp [Option.filter, good_not_prefix m hb]
theorem unpOf_fail {s : List UInt8} {out : List (UInt8 × Int)} {t : List UInt8} (h : unpL out t = unpL [] s) (h0 : t ≠ []) (hf : fstRun t = none) : unpOf s = none := by
  unfold unpOf
  rw [← h, unpL_none h0 hf]
  rfl
theorem unpOf_end {s : List UInt8} {out : List (UInt8 × Int)} (h : unpL out [] = unpL [] s) (hg : goodRs out = true) : unpOf s = some out := by
  unfold unpOf
  rw [← h, unpL_nil]
  simp [Option.filter, hg]
/-- what the runs found so far say of the text read -/
theorem unp_pack {s done t : List UInt8} {out : List (UInt8 × Int)} {r : UInt8 × Int} {u : List UInt8} (hs : s = done ++ t) (hp : pkOf out = done) (hf : fstRun t = some (r, u)) : s = (done ++ pkOne r) ++ u ∧ pkOf (out ++ [r]) = done ++ pkOne r := by
  have h3 := (fstRun_one hf).2.2
  exact ⟨by rw [hs, ← h3, List.append_assoc], by rw [pkOf_snoc, hp]⟩
theorem long_many {l : List (UInt8 × Int)} (h : ∀ r ∈ l, 1 ≤ r.2) (hn : 200 < l.length) : goodRs l = false := by
  cases hg : goodRs l with
  | false => rfl
  | true => have := good_sum hg; omega
/-- runs are recovered from their encoding -/
theorem pk_unp : ∀ (l out : List (UInt8 × Int)), (∀ r ∈ l, 1 ≤ r.2 ∧ r.2 ≤ 200) → (∀ k, k + 1 < l.length → (l.getD k (0, 0)).1 ≠ (l.getD (k + 1) (0, 0)).1) → unpL out (pkOf l) = some (out ++ l)
  | [], out, _, _ => by show unpL out [] = _; rw [unpL_nil]; simp
  | r :: l, out, h, hd => by
    have h1 := h r (List.mem_cons_self ..)
    have ih := pk_unp l (out ++ [r]) (fun x hx => h x (List.mem_cons_of_mem _ hx)) fun k hk => by simpa using hd (k + 1) (by simpa using hk)
    have hf : fstRun (pkOf (r :: l)) = some (r, pkOf l) := by
      show fstRun (pkOne r ++ pkOf l) = _
      unfold pkOne
      obtain ⟨b, n⟩ := r
      by_cases h2 : 2 ≤ n
      · rw [if_pos (show 2 ≤ ((b, n) : UInt8 × Int).2 from h2)]
        show (if b = b then some ((b, (((UInt8.ofNat (n - 2).toNat).toNat : Nat) : Int) + 2), pkOf l) else _) = _
        rw [if_pos rfl]
        have h3 : n ≤ 200 := h1.2
        have e : (((UInt8.ofNat (n - 2).toNat).toNat : Nat) : Int) + 2 = n := by rw [UInt8.toNat_ofNat', Nat.mod_eq_of_lt (by omega)]; omega
        rw [e]
      · rw [if_neg (show ¬ 2 ≤ ((b, n) : UInt8 × Int).2 from h2)]
        have h3 : 1 ≤ n := h1.1
        obtain rfl : n = 1 := by omega
        cases l with
        | nil => rfl
        | cons q l =>
          have hne : b ≠ q.1 := by simpa using hd 0 (by simp)
          obtain ⟨u, hu⟩ : ∃ u, pkOf (q :: l) = q.1 :: u := by
            show ∃ u, pkOne q ++ pkOf l = q.1 :: u
            unfold pkOne
            split
            · exact ⟨_, rfl⟩
            · exact ⟨_, rfl⟩
          rw [hu]
          show fstRun (b :: q.1 :: u) = _
          cases u with
          | nil => simp [fstRun, Ne.symm hne]
          | cons c u => simp [fstRun, Ne.symm hne]
    rw [unpL_some hf, ih]
    simp
theorem good_apart {l : List (UInt8 × Int)} (h : goodRs l = true) (k : Nat) (hk : k + 1 < l.length) : (l.getD k (0, 0)).1 ≠ (l.getD (k + 1) (0, 0)).1 := by
  have := ((okRu_iff hk).1 ((goodRs_iff l).1 h (k + 1) hk)).2.2 (by omega)
  rw [show (l.getD (k + 1) (0, 0)) = l[k + 1] by rw [List.getD_eq_getElem?_getD, List.getElem?_eq_getElem hk]; rfl]
  exact fun e => this e.symm
theorem good_upper {l : List (UInt8 × Int)} (h : goodRs l = true) {r : UInt8 × Int} (hr : r ∈ l) : r.2 ≤ 200 := by
  obtain ⟨k, hk, rfl⟩ := List.mem_iff_getElem.1 hr
  have h1 := ((okRu_iff hk).1 ((goodRs_iff l).1 h k hk)).2.1
  have h2 := (good_sumTake h k (by omega)).1
  omega
theorem unpOf_pkOf {l : List (UInt8 × Int)} (h : goodRs l = true) : unpOf (pkOf l) = some l := by
  unfold unpOf
  rw [pk_unp l [] (fun r hr => ⟨good_long h hr, good_upper h hr⟩) (good_apart h)]
  simp [Option.filter, h]
/-- the encoding of the runs found is the text -/
theorem unpL_pack : ∀ (n : Nat) (out : List (UInt8 × Int)) (s : List UInt8) (l : List (UInt8 × Int)), s.length ≤ n → unpL out s = some l → pkOf l = pkOf out ++ s := by
  intro n
  induction n with
  | zero =>
    intro out s l hn h
    have : s = [] := List.eq_nil_of_length_eq_zero (by omega)
    subst this
    rw [unpL_nil] at h
    rw [← Option.some.inj h]; simp
  | succ n ih =>
    intro out s l hn h
    by_cases h0 : s = []
    · subst h0; rw [unpL_nil] at h; rw [← Option.some.inj h]; simp
    · cases hf : fstRun s with
      | none => rw [unpL_none h0 hf] at h; simp at h
      | some q =>
        obtain ⟨r, t⟩ := q
        rw [unpL_some hf] at h
        rw [ih _ t l (by have := fstRun_less hf; omega) h, pkOf_snoc, List.append_assoc, (fstRun_one hf).2.2]
theorem unpOf_spec {s : List UInt8} {l : List (UInt8 × Int)} (h : unpOf s = some l) : goodRs l = true ∧ pkOf l = s := by
  unfold unpOf at h
  cases hl : unpL [] s with
  | none => rw [hl] at h; simp [Option.filter] at h
  | some m =>
    rw [hl] at h
    by_cases hg : goodRs m = true
    · simp [Option.filter, hg] at h
      subst h
      exact ⟨hg, by simpa [pkOf] using unpL_pack s.length [] s m (Nat.le_refl _) hl⟩
    · simp [Option.filter, hg] at h
/-- an encoding is at most half as long again as the text -/
theorem pk_half : ∀ (l : List (UInt8 × Int)), (∀ r ∈ l, 1 ≤ r.2) → (pkOf l).length ≤ (txOf l).length + (txOf l).length / 2
  | [], _ => by simp [pkOf, txOf]
  | r :: l, h => by
    have ih := pk_half l fun x hx => h x (List.mem_cons_of_mem _ hx)
    have h1 := h r (List.mem_cons_self ..)
    show (pkOne r ++ pkOf l).length ≤ (List.replicate r.2.toNat r.1 ++ txOf l).length + (List.replicate r.2.toNat r.1 ++ txOf l).length / 2
    rw [List.length_append, List.length_append, List.length_replicate]
    unfold pkOne
    split
    · rename_i h2
      simp only [List.length_cons, List.length_nil]
      omega
    · simp only [List.length_cons, List.length_nil]
      omega
end G294
