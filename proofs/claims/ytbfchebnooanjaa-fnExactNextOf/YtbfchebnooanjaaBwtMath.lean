/- Chapter 11: the order of texts, rotations, and lists of numbers in the order of a text's rotations (mathematics). -/
import Derived.Test.YtbfchebnooanjaaVitMath
import Derived.Test.YtbfchebnooanjaaSameBytes
import Derived.Lib.Bytealg
set_option linter.unusedSimpArgs false
set_option linter.unusedVariables false
namespace G294
open Go Go.RowKit
/-- the order of texts -/
def lessT (a b : List UInt8) : Bool := Op.bytesLess a b
theorem lessT_irr : ∀ a : List UInt8, lessT a a = false
  | [] => rfl
  | x :: a => by
    have := lessT_irr a
    unfold lessT at this ⊢
    simp [Op.bytesLess, this]
theorem lessT_trans : ∀ {a b c : List UInt8}, lessT a b = true → lessT b c = true → lessT a c = true
  | _, b, [], _, h => by unfold lessT at h; cases b <;> simp [Op.bytesLess] at h
  | [], _, _ :: _, _, _ => rfl
  | _ :: _, [], _ :: _, h, _ => by unfold lessT at h; simp [Op.bytesLess] at h
  | x :: a, y :: b, z :: c, h1, h2 => by
    have ih := @lessT_trans a b c
    unfold lessT at h1 h2 ih ⊢
    simp only [Op.bytesLess, Bool.or_eq_true, Bool.and_eq_true, decide_eq_true_eq, beq_iff_eq] at h1 h2 ⊢
    simp only [UInt8.lt_iff_toNat_lt, ← UInt8.toNat_inj] at h1 h2 ⊢
    rcases h1 with h1 | ⟨h1, h3⟩ <;> rcases h2 with h2 | ⟨h2, h4⟩
    · left; omega
    · left; omega
    · left; omega
    · right; exact ⟨by omega, ih h3 h4⟩
theorem lessT_tri : ∀ {a b : List UInt8}, lessT a b = false → lessT b a = false → a = b
  | [], [], _, _ => rfl
  | [], _ :: _, h, _ => by unfold lessT at h; simp [Op.bytesLess] at h
  | _ :: _, [], _, h => by unfold lessT at h; simp [Op.bytesLess] at h
  | x :: a, y :: b, h1, h2 => by
    have ih := @lessT_tri a b
    unfold lessT at h1 h2 ih
    simp only [Op.bytesLess, Bool.or_eq_false_iff, Bool.and_eq_false_iff, decide_eq_false_iff_not, beq_eq_false_iff_ne, ne_eq] at h1 h2
    simp only [UInt8.lt_iff_toNat_lt] at h1 h2
    have e : x = y := by rw [← UInt8.toNat_inj]; omega
    subst e
    rw [ih (by simpa using h1.2) (by simpa using h2.2)]
theorem cmp_less : ∀ a b : List UInt8, decide (Lib.compareBytes a b < 0) = lessT a b
  | [], [] => rfl
  | [], _ :: _ => rfl
  | _ :: _, [] => rfl
  | x :: a, y :: b => by
    have ih := cmp_less a b
    unfold lessT at ih ⊢
    unfold Lib.compareBytes Op.bytesLess
    by_cases h1 : x < y
    · simp [h1]
    · by_cases h2 : y < x
      · have : x ≠ y := by rw [UInt8.lt_iff_toNat_lt] at h2; intro e; subst e; omega
        simp [h1, h2, this]
      · have : x = y := by rw [← UInt8.toNat_inj]; simp only [UInt8.lt_iff_toNat_lt] at h1 h2; omega
        subst this
        simp [h1, ih]
/-- the rotation of a text by k -/
def rotL (s : List UInt8) (k : Nat) : List UInt8 := s.drop k ++ s.take k
theorem rotL_len (s : List UInt8) {k : Nat} (h : k ≤ s.length) : (rotL s k).length = s.length := by simp [rotL]; omega
theorem rotL_zero (s : List UInt8) : rotL s 0 = s := by simp [rotL]
/-- the rotation by a is less than that by b, or they are equal and a is less -/
def bef (s : List UInt8) (a b : Nat) : Prop := lessT (rotL s a) (rotL s b) = true ∨ (rotL s a = rotL s b ∧ a < b)
theorem bef_irr (s : List UInt8) (a : Nat) : ¬ bef s a a := by
  rintro (h | h)
  · rw [lessT_irr] at h; cases h
  · omega
theorem bef_trans {s : List UInt8} {a b c : Nat} (h1 : bef s a b) (h2 : bef s b c) : bef s a c := by
  rcases h1 with h1 | ⟨h1, h3⟩ <;> rcases h2 with h2 | ⟨h2, h4⟩
  · exact .inl (lessT_trans h1 h2)
  · exact .inl (h2 ▸ h1)
  · exact .inl (h1 ▸ h2)
  · exact .inr ⟨h1.trans h2, by omega⟩
theorem bef_asym {s : List UInt8} {a b : Nat} (h1 : bef s a b) : ¬ bef s b a := fun h2 => bef_irr s a (bef_trans h1 h2)
theorem bef_tri (s : List UInt8) {a b : Nat} (h1 : ¬ bef s a b) (h2 : ¬ bef s b a) : a = b := by
  by_cases ha : lessT (rotL s a) (rotL s b) = true
  · exact absurd (.inl ha) h1
  · by_cases hb : lessT (rotL s b) (rotL s a) = true
    · exact absurd (.inl hb) h2
    · have e : rotL s a = rotL s b := lessT_tri (by simpa using ha) (by simpa using hb)
      rcases Nat.lt_trichotomy a b with h | h | h
      · exact absurd (.inr ⟨e, h⟩) h1
      · exact h
      · exact absurd (.inr ⟨e.symm, h⟩) h2
/-- of two places the later one is before the earlier one just where its rotation is less -/
theorem bef_back {s : List UInt8} {a b : Nat} (h : a < b) : bef s b a ↔ lessT (rotL s b) (rotL s a) = true :=
  ⟨fun h' => h'.elim id (fun h2 => by omega), .inl⟩
theorem bef_fore {s : List UInt8} {a b : Nat} (h : a < b) : bef s a b ↔ lessT (rotL s b) (rotL s a) = false := by
  constructor
  · intro h1
    cases hb : lessT (rotL s b) (rotL s a) with
    | false => rfl
    | true => exact absurd (.inl hb) (bef_asym h1)
  · intro h1
    by_cases h2 : lessT (rotL s a) (rotL s b) = true
    · exact .inl h2
    · exact .inr ⟨lessT_tri (by simpa using h2) h1, h⟩
instance (s : List UInt8) (a b : Nat) : Decidable (bef s a b) := by unfold bef; exact inferInstance
/-- the first m numbers in the order of the rotations of a text -/
def trnN (s : List UInt8) (m : Nat) : List Nat := (List.range m).mergeSort fun a b => decide (¬ bef s b a)
def trn (s : List UInt8) : List Nat := trnN s s.length
theorem trnN_perm (s : List UInt8) (m : Nat) : (trnN s m).Perm (List.range m) := List.mergeSort_perm _ _
theorem trnN_len (s : List UInt8) (m : Nat) : (trnN s m).length = m := by rw [(trnN_perm s m).length_eq, List.length_range]
theorem trn_len (s : List UInt8) : (trn s).length = s.length := trnN_len s _
theorem trnN_mem {s : List UInt8} {m x : Nat} : x ∈ trnN s m ↔ x < m := by rw [(trnN_perm s m).mem_iff, List.mem_range]
theorem trnN_sorted (s : List UInt8) (m : Nat) : (trnN s m).Pairwise (bef s) := by
  have h1 : (trnN s m).Pairwise fun a b => decide (¬ bef s b a) = true := List.pairwise_mergeSort (fun a b c h1 h2 => by
    simp only [decide_eq_true_eq] at h1 h2 ⊢
    intro h3
    by_cases e : a = b
    · subst e; exact h2 h3
    · by_cases h4 : bef s a b
      · exact h2 (bef_trans h3 h4)
      · exact e (bef_tri s h4 h1)) (fun a b => by
    simp only [Bool.or_eq_true, decide_eq_true_eq]
    by_cases h : bef s b a
    · exact .inr (bef_asym h)
    · exact .inl h) _
  have h2 : (trnN s m).Pairwise (· ≠ ·) := (trnN_perm s m).nodup_iff.2 List.nodup_range
  refine (h1.and h2).imp fun {a b} ⟨h3, h4⟩ => ?_
  simp only [decide_eq_true_eq] at h3
  by_cases h5 : bef s a b
  · exact h5
  · exact absurd (bef_tri s h5 h3) h4
/-- there is one such list -/
theorem trnN_only {s : List UInt8} {m : Nat} {l : List Nat} (h1 : l.Pairwise (bef s)) (h2 : l.Perm (List.range m)) : l = trnN s m :=
  List.Perm.eq_of_pairwise (le := bef s) (fun a b _ _ h3 h4 => absurd h4 (bef_asym h3)) h1 (trnN_sorted s m) (h2.trans (trnN_perm s m).symm)
/-- one more number is put behind those that are before it -/
theorem trnN_next {s : List UInt8} {m k : Nat} (hk : k ≤ m) (h1 : ∀ j, j < k → bef s ((trnN s m).getD j 0) m) (h2 : k < m → bef s m ((trnN s m).getD k 0)) :
    (trnN s m).take k ++ m :: (trnN s m).drop k = trnN s (m + 1) := by
  have hs := trnN_sorted s m
  have hl := trnN_len s m
  have hp := trnN_perm s m
  generalize trnN s m = l at *
  have hs' := hs
  rw [← List.take_append_drop k l, List.pairwise_append] at hs'
  obtain ⟨ha, hb, hab⟩ := hs'
  refine trnN_only (List.pairwise_append.2 ⟨ha, List.pairwise_cons.2 ⟨?_, hb⟩, ?_⟩) ?_
  · intro x hx
    by_cases hkm : k < m
    · have e : l.drop k = l[k]'(by omega) :: l.drop (k + 1) := List.drop_eq_getElem_cons (by omega)
      have h3 := h2 hkm
      have e2 : l.getD k 0 = l[k]'(by omega) := by simp [List.getD, show k < l.length by omega]
      rw [e2] at h3
      rw [e] at hx hb
      rcases List.mem_cons.1 hx with rfl | hx
      · exact h3
      · exact bef_trans h3 ((List.pairwise_cons.1 hb).1 x hx)
    · rw [List.drop_eq_nil_of_le (by omega)] at hx; cases hx
  · intro a hat b hbt
    rcases List.mem_cons.1 hbt with rfl | hbt
    · obtain ⟨i, hi, rfl⟩ := List.mem_iff_getElem.1 hat
      rw [List.length_take] at hi
      have h3 := h1 i (by omega)
      rw [List.getElem_take]
      simpa [List.getD, show i < l.length by omega] using h3
    · exact hab a hat b hbt
  · refine List.perm_middle.trans ?_
    rw [List.take_append_drop, List.range_succ]
    exact (List.Perm.cons m hp).trans (List.perm_append_comm (l₁ := [m]))
theorem perm_of_sub : ∀ {l r : List Nat}, l.Nodup → (∀ x ∈ l, x ∈ r) → r.length ≤ l.length → l.Perm r
  | [], r, _, _, h => by
    have : r = [] := List.eq_nil_of_length_eq_zero (by simpa using h)
    subst this; exact List.Perm.refl _
  | a :: l, r, hn, hs, h => by
    have ha := hs a (List.mem_cons_self ..)
    have hp := List.perm_cons_erase ha
    have hn' := List.nodup_cons.1 hn
    have hl : (r.erase a).length + 1 = r.length := by have := hp.length_eq; simpa using this.symm
    refine List.Perm.trans (List.Perm.cons a (perm_of_sub hn'.2 (fun x hx => ?_) (by simp at h; omega))) hp.symm
    have hne : x ≠ a := fun e => hn'.1 (e ▸ hx)
    exact (List.mem_erase_of_ne hne).2 (hs x (List.mem_cons_of_mem _ hx))
/-- numbers that are in order and all less than m are the list -/
theorem trnN_of_fun {s : List UInt8} {m : Nat} {f : Nat → Nat} (h1 : ∀ i j, i < j → j < m → bef s (f i) (f j)) (h2 : ∀ i, i < m → f i < m) : (List.range m).map f = trnN s m := by
  have hpw : ((List.range m).map f).Pairwise (bef s) := by
    rw [List.pairwise_map]
    have h3 : (List.range m).Pairwise fun i j => i < j ∧ j < m := by
      have := List.pairwise_lt_range (n := m)
      refine List.Pairwise.imp_of_mem (fun {a b} ha hb h => ?_) this
      exact ⟨h, List.mem_range.1 hb⟩
    exact h3.imp fun ⟨a, b⟩ => h1 _ _ a b
  refine trnN_only hpw ?_
  have hnd : ((List.range m).map f).Nodup := hpw.imp fun {a b} h e => by subst e; exact bef_irr s a h
  refine perm_of_sub hnd ?_ (by simp)
  intro x hx
  obtain ⟨i, hi, rfl⟩ := List.mem_map.1 hx
  exact List.mem_range.2 (h2 i (List.mem_range.1 hi))
end G294
