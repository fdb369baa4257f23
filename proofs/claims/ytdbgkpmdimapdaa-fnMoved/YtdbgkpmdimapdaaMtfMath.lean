/- Move-to-front: lists of bytes by recency, kept as moves; what the indexes and the bytes are; they undo each other. -/
set_option linter.unusedSimpArgs false
set_option linter.unusedVariables false
namespace G294
/-- a list of all bytes by recency: the increasing one, or one behind a byte moved to the front from a place -/
inductive Rec where
  | inc : Rec
  | mv : UInt8 → UInt8 → Rec → Rec
def ixOf : Rec → UInt8 → UInt8
  | .inc, b => b
  | .mv f k r, b => if b = f then 0 else if ixOf r b < k then ixOf r b + 1 else ixOf r b
def atOf : Rec → UInt8 → UInt8
  | .inc, i => i
  | .mv f k r, i => if i = 0 then f else if i ≤ k then atOf r (i - 1) else atOf r i
def isFront : Rec → UInt8 → Bool
  | .inc, _ => false
  | .mv f _ _, b => decide (f = b)
def frontR (b : UInt8) (r : Rec) : Rec := if isFront r b = true then r else .mv b (ixOf r b) r
def mfR : Rec → List UInt8 → List UInt8
  | _, [] => []
  | r, b :: s => ixOf r b :: mfR (frontR b r) s
def mbR : Rec → List UInt8 → List UInt8
  | _, [] => []
  | r, i :: l => atOf r i :: mbR (frontR (atOf r i) r) l
/-- the list behind the moves of a text -/
def lastR : Rec → List UInt8 → Rec
  | r, [] => r
  | r, b :: s => lastR (frontR b r) s
def moved (s : List UInt8) : List UInt8 := mfR .inc s
def unmoved (l : List UInt8) : List UInt8 := mbR .inc l
structure OkR (r : Rec) : Prop where
  at_ix : ∀ b, atOf r (ixOf r b) = b
  ix_at : ∀ i, ixOf r (atOf r i) = i
theorem okR_inc : OkR .inc := ⟨fun _ => rfl, fun _ => rfl⟩
theorem u8_lt_iff (a b : UInt8) : a < b ↔ a.toNat < b.toNat := Iff.rfl
theorem u8_succ {a k : UInt8} (h : a < k) : (a + 1).toNat = a.toNat + 1 := by
  have h1 := (u8_lt_iff a k).1 h
  have h2 := k.toNat_lt
  rw [UInt8.toNat_add, show (1 : UInt8).toNat = 1 from rfl, Nat.mod_eq_of_lt (by omega)]
theorem u8_pred {i : UInt8} (h : i ≠ 0) : (i - 1).toNat + 1 = i.toNat := by
  have h0 : i.toNat ≠ 0 := fun e => h (UInt8.toNat_inj.1 (by rw [e]; rfl))
  have h2 := i.toNat_lt
  rw [UInt8.toNat_sub, show (1 : UInt8).toNat = 1 from rfl]
  omega
theorem u8_ne {a b : UInt8} (h : a ≠ b) : a.toNat ≠ b.toNat := fun e => h (UInt8.toNat_inj.1 e)
theorem ix_inj {r : Rec} (h : OkR r) {b c : UInt8} (e : ixOf r b = ixOf r c) : b = c := by rw [← h.at_ix b, e, h.at_ix]
theorem okR_mv {r : Rec} (h : OkR r) (f : UInt8) : OkR (.mv f (ixOf r f) r) := by
  constructor
  · intro b
    by_cases hb : b = f
    · simp [ixOf, atOf, hb]
    · have hne : ixOf r b ≠ ixOf r f := fun e => hb (ix_inj h e)
      by_cases hl : ixOf r b < ixOf r f
      · have hs := u8_succ hl
        have h1 := (u8_lt_iff _ _).1 hl
        have e : ixOf (.mv f (ixOf r f) r) b = ixOf r b + 1 := by simp [ixOf, hb, hl]
        rw [e]
        have h0 : ixOf r b + 1 ≠ 0 := fun e => by rw [e] at hs; simp at hs
        have hle : ixOf r b + 1 ≤ ixOf r f := by rw [UInt8.le_iff_toNat_le, hs]; omega
        have e2 : ixOf r b + 1 - 1 = ixOf r b := UInt8.toNat_inj.1 (by have := u8_pred h0; omega)
        show (if ixOf r b + 1 = 0 then f else if ixOf r b + 1 ≤ ixOf r f then atOf r (ixOf r b + 1 - 1) else atOf r (ixOf r b + 1)) = b
        rw [if_neg h0, if_pos hle, e2, h.at_ix]
      · have e : ixOf (.mv f (ixOf r f) r) b = ixOf r b := by simp [ixOf, hb, hl]
        rw [e]
        have h1 : ixOf r f < ixOf r b := by
          rw [u8_lt_iff] at hl ⊢
          have := u8_ne hne
          omega
        have h0 : ixOf r b ≠ 0 := fun e => by rw [e, u8_lt_iff] at h1; simp at h1
        have hle : ¬ ixOf r b ≤ ixOf r f := by rw [UInt8.le_iff_toNat_le]; rw [u8_lt_iff] at h1; omega
        show (if ixOf r b = 0 then f else if ixOf r b ≤ ixOf r f then atOf r (ixOf r b - 1) else atOf r (ixOf r b)) = b
        rw [if_neg h0, if_neg hle, h.at_ix]
  · intro i
    by_cases h0 : i = 0
    · subst h0; simp [ixOf, atOf]
    · by_cases hle : i ≤ ixOf r f
      · have e : atOf (.mv f (ixOf r f) r) i = atOf r (i - 1) := by simp [atOf, h0, hle]
        rw [e]
        have hp := u8_pred h0
        have hl : i - 1 < ixOf r f := by rw [u8_lt_iff]; rw [UInt8.le_iff_toNat_le] at hle; omega
        have hne : atOf r (i - 1) ≠ f := fun e => by rw [← e, h.ix_at, u8_lt_iff] at hl; omega
        show (if atOf r (i - 1) = f then 0 else if ixOf r (atOf r (i - 1)) < ixOf r f then ixOf r (atOf r (i - 1)) + 1 else ixOf r (atOf r (i - 1))) = i
        rw [if_neg hne, h.ix_at, if_pos hl]
        exact UInt8.toNat_inj.1 (by rw [u8_succ hl]; omega)
      · have e : atOf (.mv f (ixOf r f) r) i = atOf r i := by simp [atOf, h0, hle]
        rw [e]
        have hl : ¬ i < ixOf r f := by rw [u8_lt_iff]; rw [UInt8.le_iff_toNat_le] at hle; omega
        have hne : atOf r i ≠ f := fun e => hle (by rw [← e, h.ix_at]; exact UInt8.le_iff_toNat_le.2 (Nat.le_refl _))
        show (if atOf r i = f then 0 else if ixOf r (atOf r i) < ixOf r f then ixOf r (atOf r i) + 1 else ixOf r (atOf r i)) = i
        rw [if_neg hne, h.ix_at, if_neg hl]
theorem okR_front {r : Rec} (h : OkR r) (b : UInt8) : OkR (frontR b r) := by
  unfold frontR
  split
  · exact h
  · exact okR_mv h b
theorem ix_front (b : UInt8) (r : Rec) : ixOf (frontR b r) b = 0 := by
  unfold frontR
  split
  · rename_i h
    cases r with
    | inc => simp [isFront] at h
    | mv f k r => simp only [isFront, decide_eq_true_eq] at h; subst h; simp [ixOf]
  · simp [ixOf]
theorem at_front (b : UInt8) (r : Rec) : atOf (frontR b r) 0 = b := by
  unfold frontR
  split
  · rename_i h
    cases r with
    | inc => simp [isFront] at h
    | mv f k r => simp only [isFront, decide_eq_true_eq] at h; subst h; simp [atOf]
  · simp [atOf]
@[simp] theorem mfR_length : ∀ (r : Rec) (s : List UInt8), (mfR r s).length = s.length
  | _, [] => rfl
  | r, b :: s => by simp [mfR, mfR_length (frontR b r) s]
@[simp] theorem mbR_length : ∀ (r : Rec) (l : List UInt8), (mbR r l).length = l.length
  | _, [] => rfl
  | r, i :: l => by simp [mbR, mbR_length (frontR (atOf r i) r) l]
theorem mb_mf : ∀ {r : Rec} (h : OkR r) (s : List UInt8), mbR r (mfR r s) = s
  | _, _, [] => rfl
  | r, h, b :: s => by simp only [mfR, mbR, h.at_ix, mb_mf (okR_front h b) s]
theorem mf_mb : ∀ {r : Rec} (h : OkR r) (l : List UInt8), mfR r (mbR r l) = l
  | _, _, [] => rfl
  | r, h, i :: l => by simp only [mfR, mbR, h.ix_at, mf_mb (okR_front h (atOf r i)) l]
theorem okR_last : ∀ {r : Rec} (h : OkR r) (s : List UInt8), OkR (lastR r s)
  | _, h, [] => h
  | r, h, b :: s => okR_last (okR_front h b) s
theorem lastR_append (r : Rec) (s t : List UInt8) : lastR r (s ++ t) = lastR (lastR r s) t := by
  induction s generalizing r with
  | nil => rfl
  | cons b s ih => exact ih _
theorem lastR_snoc (r : Rec) (s : List UInt8) (b : UInt8) : lastR r (s ++ [b]) = frontR b (lastR r s) := by rw [lastR_append]; rfl
theorem mfR_append (r : Rec) (s t : List UInt8) : mfR r (s ++ t) = mfR r s ++ mfR (lastR r s) t := by
  induction s generalizing r with
  | nil => rfl
  | cons b s ih => simp only [List.cons_append, mfR, lastR, ih]
theorem mfR_snoc (r : Rec) (s : List UInt8) (b : UInt8) : mfR r (s ++ [b]) = mfR r s ++ [ixOf (lastR r s) b] := by rw [mfR_append]; rfl
theorem mbR_append (r : Rec) (s t : List UInt8) : mbR r (s ++ t) = mbR r s ++ mbR (lastR r (mbR r s)) t := by
  induction s generalizing r with
  | nil => rfl
  | cons b s ih => simp only [List.cons_append, mbR, lastR, ih]
theorem mbR_snoc (r : Rec) (s : List UInt8) (i : UInt8) : mbR r (s ++ [i]) = mbR r s ++ [atOf (lastR r (mbR r s)) i] := by rw [mbR_append]; rfl
theorem moved_take {s : List UInt8} {k : Nat} (h : k < s.length) : moved (s.take (k + 1)) = moved (s.take k) ++ [ixOf (lastR .inc (s.take k)) s[k]] := by
  unfold moved
  rw [List.take_succ_eq_append_getElem h, mfR_snoc]
theorem last_take {s : List UInt8} {k : Nat} (h : k < s.length) : lastR .inc (s.take (k + 1)) = frontR s[k] (lastR .inc (s.take k)) := by
  rw [List.take_succ_eq_append_getElem h, lastR_snoc]
theorem unmoved_take {s : List UInt8} {k : Nat} (h : k < s.length) : unmoved (s.take (k + 1)) = unmoved (s.take k) ++ [atOf (lastR .inc (unmoved (s.take k))) s[k]] := by
  unfold unmoved
  rw [List.take_succ_eq_append_getElem h, mbR_snoc]
/-- an element is 0 exactly where the byte is the one before -/
theorem zero_front {r : Rec} (h : OkR r) (b c : UInt8) : ixOf (frontR b r) c = 0 ↔ c = b := by
  constructor
  · intro e
    exact ix_inj (okR_front h b) (by rw [e, ix_front])
  · rintro rfl
    exact ix_front _ _
theorem moved_zero (s : List UInt8) (i : Nat) (h : i + 1 < s.length) : (moved s).getD (i + 1) 0 = 0 ↔ s.getD (i + 1) 0 = s.getD i 0 := by
  have e : moved s = moved (s.take (i + 1)) ++ mfR (lastR .inc (s.take (i + 1))) (s.drop (i + 1)) := by
    unfold moved
    rw [← mfR_append, List.take_append_drop]
  have el : (moved (s.take (i + 1))).length = i + 1 := by simp [moved]; omega
  rw [List.getD_eq_getElem?_getD, List.getD_eq_getElem?_getD, List.getD_eq_getElem?_getD, e, List.getElem?_append_right (by omega), el, Nat.sub_self]
  rw [List.drop_eq_getElem_cons h, last_take (by omega)]
  rw [List.getElem?_eq_getElem h, List.getElem?_eq_getElem (show i < s.length by omega)]
  show ixOf (frontR s[i] _) s[i + 1] = 0 ↔ s[i + 1] = s[i]
  exact zero_front (okR_last okR_inc _) _ _
/-! the model's: a row of all bytes -/
structure Rowed (r : Rec) (row : List UInt8) : Prop where
  len : row.length = 256
  nth : ∀ i : UInt8, row[i.toNat]? = some (atOf r i)
def row0 : List UInt8 := (List.range 256).map UInt8.ofNat
theorem rowed0 : Rowed .inc row0 := by
  refine ⟨by simp [row0], fun i => ?_⟩
  have := i.toNat_lt
  simp [row0, atOf, List.getElem?_range (show i.toNat < 256 from this)]
def moveTo (row : List UInt8) (k : Nat) : List UInt8 := row.getD k 0 :: (row.take k ++ row.drop (k + 1))
theorem rowed_get {r : Rec} {row : List UInt8} (h : Rowed r row) {k : Nat} (hk : k < 256) : row[k]? = some (atOf r (UInt8.ofNat k)) := by
  have := h.nth (UInt8.ofNat k)
  rwa [UInt8.toNat_ofNat', Nat.mod_eq_of_lt (show k < 2 ^ 8 by omega)] at this
theorem rowed_getD {r : Rec} {row : List UInt8} (h : Rowed r row) {k : Nat} (hk : k < 256) : row.getD k 0 = atOf r (UInt8.ofNat k) := by
  rw [List.getD_eq_getElem?_getD, rowed_get h hk]; rfl
/-- where a byte stands -/
theorem rowed_ix {r : Rec} {row : List UInt8} (h : Rowed r row) (o : OkR r) (b : UInt8) : row.getD (ixOf r b).toNat 0 = b := by
  rw [List.getD_eq_getElem?_getD, h.nth, o.at_ix]; rfl
theorem rowed_before {r : Rec} {row : List UInt8} (h : Rowed r row) (o : OkR r) {b : UInt8} {k : Nat} (hk : k < (ixOf r b).toNat) : row.getD k 0 ≠ b := by
  have := (ixOf r b).toNat_lt
  rw [rowed_getD h (by omega)]
  rintro rfl
  rw [o.ix_at, UInt8.toNat_ofNat'] at hk
  omega
theorem moveTo_length {row : List UInt8} {k : Nat} (h : k < row.length) : (moveTo row k).length = row.length := by simp [moveTo]; omega
theorem rowed_mv {r : Rec} {row : List UInt8} (h : Rowed r row) (b : UInt8) (o : OkR r) : Rowed (.mv b (ixOf r b) r) (moveTo row (ixOf r b).toNat) := by
  have hk := (ixOf r b).toNat_lt
  refine ⟨by rw [moveTo_length (by rw [h.len]; omega), h.len], fun i => ?_⟩
  by_cases h0 : i = 0
  · subst h0
    show some (row.getD (ixOf r b).toNat 0) = _
    rw [rowed_ix h o]
    simp [atOf]
  · have hp := u8_pred h0
    have hil := i.toNat_lt
    show (row.getD (ixOf r b).toNat 0 :: (row.take (ixOf r b).toNat ++ row.drop ((ixOf r b).toNat + 1)))[i.toNat]? = some (if i = 0 then b else if i ≤ ixOf r b then atOf r (i - 1) else atOf r i)
    rw [if_neg h0, ← hp, List.getElem?_cons_succ]
    by_cases hle : i ≤ ixOf r b
    · rw [if_pos hle]
      rw [UInt8.le_iff_toNat_le] at hle
      rw [List.getElem?_append_left (by simp [h.len]; omega), List.getElem?_take_of_lt (by omega), h.nth]
    · rw [if_neg hle]
      rw [UInt8.le_iff_toNat_le] at hle
      have hl : (row.take (ixOf r b).toNat).length = (ixOf r b).toNat := by simp [h.len]; omega
      rw [List.getElem?_append_right (by omega), hl, List.getElem?_drop, show (ixOf r b).toNat + 1 + ((i - 1).toNat - (ixOf r b).toNat) = i.toNat by omega, h.nth]
theorem rowed_front {r : Rec} {row : List UInt8} (h : Rowed r row) (b : UInt8) (o : OkR r) : Rowed (frontR b r) (moveTo row (ixOf r b).toNat) := by
  unfold frontR
  by_cases hf : isFront r b = true
  · rw [if_pos hf]
    cases r with
    | inc => simp [isFront] at hf
    | mv f k r =>
      simp only [isFront, decide_eq_true_eq] at hf
      subst hf
      have e : ixOf (.mv f k r) f = 0 := by simp [ixOf]
      rw [e]
      have hd : moveTo row (0 : UInt8).toNat = row := by
        have hl := h.len
        cases row with
        | nil => simp at hl
        | cons x row => simp [moveTo]
      rw [hd]
      exact h
  · rw [if_neg hf]
    exact rowed_mv h b o
/-- the model's row behind a text -/
def rowN (s : List UInt8) : Nat → List UInt8
  | 0 => row0
  | k + 1 => moveTo (rowN s k) (ixOf (lastR .inc (s.take k)) (s.getD k 0)).toNat
theorem rowN_ok (s : List UInt8) : ∀ k, k ≤ s.length → Rowed (lastR .inc (s.take k)) (rowN s k)
  | 0, _ => rowed0
  | k + 1, h => by
    have ih := rowN_ok s k (by omega)
    have hk : k < s.length := by omega
    rw [last_take hk]
    have e : s.getD k 0 = s[k] := by rw [List.getD_eq_getElem?_getD, List.getElem?_eq_getElem hk]; rfl
    show Rowed _ (moveTo (rowN s k) (ixOf (lastR .inc (s.take k)) (s.getD k 0)).toNat)
    rw [e]
    exact rowed_front ih s[k] (okR_last okR_inc _)
/-- how many are below a bound -/
def smallN (l : List UInt8) (below : Int) : Nat := (l.filter fun b => decide ((b.toNat : Int) < below)).length
theorem smallN_take {l : List UInt8} {k : Nat} (below : Int) (h : k < l.length) : smallN (l.take (k + 1)) below = smallN (l.take k) below + (if (l[k].toNat : Int) < below then 1 else 0) := by
  unfold smallN
  rw [List.take_succ_eq_append_getElem h, List.filter_append, List.length_append]
  congr 1
  by_cases hb : (l[k].toNat : Int) < below <;> simp [hb]
theorem smallN_le (l : List UInt8) (below : Int) : smallN l below ≤ l.length := List.length_filter_le _ _
theorem smallN_all (l : List UInt8) : smallN l 256 = l.length := by
  unfold smallN
  rw [List.filter_eq_self.2]
  intro b _
  have := b.toNat_lt
  simp only [decide_eq_true_eq]
  omega
end G294
