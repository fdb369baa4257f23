/- Joined texts: Takes, IntsWalks, SomeOf, CauMath. -/
import Derived.Test.YtfglkgeeelapgaaDoorBd02
import Derived.Deep.QuietTactic
import Derived.BigQuiet
import Derived.IntWalk
import Derived.Test.YtfglkgeeelapgaaDoorBd01
set_option linter.unusedSimpArgs false
set_option linter.unusedVariables false
/- What someOf takes. -/
namespace G294
def risesB (is : List Nat) (n : Nat) : Prop := (∀ i ∈ is, i < n) ∧ is.Pairwise (· < ·)
/-- what someOf answers: the numbers taken so far -/
def takes (n least : Nat) (b : Nat → Bool) : Nat → List Nat
  | 0 => []
  | t + 1 => if n - t ≤ least - (takes n least b t).length ∨ b t = true then takes n least b t ++ [t] else takes n least b t
theorem takes_inv {n least : Nat} (hl : least ≤ n) (b : Nat → Bool) : ∀ t, t ≤ n → risesB (takes n least b t) t ∧ least ≤ (takes n least b t).length + (n - t) ∧ (takes n least b t).length ≤ t
  | 0, _ => ⟨⟨by simp [takes], by simp [takes]⟩, by simp [takes]; omega, by simp [takes]⟩
  | t + 1, ht => by
    obtain ⟨⟨h1, h2⟩, h3, h4⟩ := takes_inv hl b t (by omega)
    unfold takes
    split
    · refine ⟨⟨fun i hi => ?_, ?_⟩, by simp; omega, by simp; omega⟩
      · rcases List.mem_append.1 hi with h | h
        · have := h1 i h; omega
        · simp at h; omega
      · rw [List.pairwise_append]
        exact ⟨h2, by simp, fun a ha c hc => by simp at hc; have := h1 a ha; omega⟩
    · rename_i hc
      exact ⟨⟨fun i hi => by have := h1 i hi; omega, h2⟩, by omega, by omega⟩
end G294

/- Contracts of the laws' helpers on []int: a copy, equality, marks, marks held. -/
namespace Go.Proofs.YtfglkgeeelapgaaDoor
open Go.RowKit G294

theorem infoInt : (Tryd.prog.info? 3).map (fun i => (i.zero, i.size, i.bytes)) = some (some (.int .i64 0), 1, 8) := by kernel_rfl

theorem eq_atI {l m : List Int} {k : Nat} (hl : k < l.length) (hm : k < m.length) (h : l[k] ≠ m[k]) : (l == m) = false := by
  rw [beq_eq_false_iff_ne]
  intro e; subst e; exact h rfl

theorem eq_allI {l m : List Int} (hl : l.length = m.length) (h : ∀ i (h1 : i < l.length) (h2 : i < m.length), l[i] = m[i]) : (l == m) = true := by
  rw [beq_iff_eq]; exact List.ext_getElem hl h

end Go.Proofs.YtfglkgeeelapgaaDoor

/- The laws' someOf. -/
namespace Go.Proofs.YtfglkgeeelapgaaDoor
open Go.RowKit G294

/-- whether someOf takes number t for its byte -/
def evenAt (l : List UInt8) (t : Nat) : Bool := (l.getD t 0).toNat % 2 == 0

end Go.Proofs.YtfglkgeeelapgaaDoor

/- Cauchy's matrix has no kernel; any k rows of the code's matrix have none. -/
namespace G294
theorem gmul_left_comm (a b c : UInt8) : gmul a (gmul b c) = gmul b (gmul a c) := by rw [← gmul_assoc, gmul_comm a b, gmul_assoc]
/-- a sum over a list -/
def sumL {α : Type} (l : List α) (f : α → UInt8) : UInt8 := l.foldr (fun x s => f x ^^^ s) 0
@[simp] theorem sumL_nil {α : Type} (f : α → UInt8) : sumL [] f = 0 := rfl
@[simp] theorem sumL_cons {α : Type} (x : α) (l : List α) (f : α → UInt8) : sumL (x :: l) f = f x ^^^ sumL l f := rfl
theorem sumL_append {α : Type} (l m : List α) (f : α → UInt8) : sumL (l ++ m) f = sumL l f ^^^ sumL m f := by
  induction l with
  | nil => simp
  | cons x l ih => simp [ih, UInt8.xor_assoc]
theorem sumL_range (n : Nat) (f : Nat → UInt8) : sumL (List.range n) f = sumK n f := by
  induction n with
  | zero => rfl
  | succ n ih => rw [List.range_succ, sumL_append, ih]; simp [sumK]
theorem sumL_congr {α : Type} {l : List α} {f g : α → UInt8} (h : ∀ x ∈ l, f x = g x) : sumL l f = sumL l g := by
  induction l with
  | nil => rfl
  | cons x l ih => simp [h x (by simp), ih fun y hy => h y (by simp [hy])]
theorem sumL_xor {α : Type} (l : List α) (f g : α → UInt8) : sumL l (fun x => f x ^^^ g x) = sumL l f ^^^ sumL l g := by
  induction l with
  | nil => simp
  | cons x l ih => simp only [sumL_cons, ih]; exact x4 _ _ _ _
theorem sumL_mul {α : Type} (a : UInt8) (l : List α) (f : α → UInt8) : sumL l (fun x => gmul a (f x)) = gmul a (sumL l f) := by
  induction l with
  | nil => simp [gmul_zero]
  | cons x l ih => simp only [sumL_cons, ih, gmul_xor]
theorem sumL_filter {α : Type} (p : α → Bool) (l : List α) (f : α → UInt8) (h : ∀ x ∈ l, p x = false → f x = 0) : sumL (l.filter p) f = sumL l f := by
  induction l with
  | nil => rfl
  | cons x l ih =>
    have ih := ih fun y hy => h y (by simp [hy])
    cases e : p x with
    | true => simp [List.filter_cons, e, ih]
    | false => simp [List.filter_cons, e, ih, h x (by simp) e]
theorem sumL_zero {α : Type} (l : List α) : sumL l (fun _ => 0) = 0 := by
  induction l with
  | nil => rfl
  | cons x l ih => simp [ih]
theorem sumL_map {α β : Type} (g : α → β) (l : List α) (f : β → UInt8) : sumL (l.map g) f = sumL l (fun x => f (g x)) := by
  induction l with
  | nil => rfl
  | cons x l ih => simp [ih]
theorem cau_term {u v d : UInt8} (hu : u ≠ 0) (hv : v ≠ 0) : gmul (u ^^^ d) (ginv u) ^^^ gmul (v ^^^ d) (ginv v) = gmul (u ^^^ v) (gmul d (gmul (ginv v) (ginv u))) := by
  have e1 : gmul u (gmul d (gmul (ginv v) (ginv u))) = gmul d (ginv v) := by
    rw [gmul_left_comm u d, gmul_left_comm u (ginv v), gmul_ginv hu, gmul_one]
  have e2 : gmul v (gmul d (gmul (ginv v) (ginv u))) = gmul d (ginv u) := by
    rw [gmul_left_comm v d, ← gmul_assoc v, gmul_ginv hv, one_gmul]
  rw [xor_gmul, xor_gmul, xor_gmul, gmul_ginv hu, gmul_ginv hv, e1, e2, x4, x_self, UInt8.zero_xor, UInt8.xor_comm]
/-- Cauchy's matrix has no kernel -/
theorem cau_list : ∀ (ys xs : List UInt8) (a : UInt8 → UInt8), ys.length ≤ xs.length → xs.Nodup → ys.Nodup → (∀ x ∈ xs, ∀ y ∈ ys, x ≠ y) →
    (∀ x ∈ xs, sumL ys (fun y => gmul (a y) (ginv (x ^^^ y))) = 0) → ∀ y ∈ ys, a y = 0
  | [], _, _, _, _, _, _, _ => by simp
  | Y :: ys, [], _, h, _, _, _, _ => by simp at h
  | Y :: ys, X :: xs, a, hl, hx, hy, hd, hs => by
    have hx' := List.nodup_cons.1 hx
    have hy' := List.nodup_cons.1 hy
    have hXY : X ^^^ Y ≠ 0 := x_ne (hd X (by simp) Y (by simp))
    have mul : ∀ x ∈ X :: xs, a Y = sumL ys (fun y => gmul (a y) (gmul (x ^^^ Y) (ginv (x ^^^ y)))) := by
      intro x hx1
      have h1 := hs x hx1
      have hxY : x ^^^ Y ≠ 0 := x_ne (hd x hx1 Y (by simp))
      have h2 := congrArg (gmul (x ^^^ Y)) h1
      rw [sumL_cons, gmul_xor, gmul_zero, gmul_left_comm, gmul_ginv hxY, gmul_one, ← sumL_mul] at h2
      rw [x_eq h2]
      exact sumL_congr fun y _ => gmul_left_comm _ _ _
    have hb : ∀ y ∈ ys, gmul (a y) (gmul (y ^^^ Y) (ginv (X ^^^ y))) = 0 := by
      refine cau_list ys xs (fun y => gmul (a y) (gmul (y ^^^ Y) (ginv (X ^^^ y)))) (by simpa using hl) hx'.2 hy'.2 (fun x h1 y h2 => hd x (by simp [h1]) y (by simp [h2])) ?_
      intro x h1
      have hxX : x ^^^ X ≠ 0 := x_ne fun e => hx'.1 (e ▸ h1)
      have e := (mul x (by simp [h1])).symm.trans (mul X (by simp))
      have e2 : sumL ys (fun y => gmul (a y) (gmul (x ^^^ Y) (ginv (x ^^^ y))) ^^^ gmul (a y) (gmul (X ^^^ Y) (ginv (X ^^^ y)))) = 0 := by rw [sumL_xor, e, x_self]
      have e3 : sumL ys (fun y => gmul (x ^^^ X) (gmul (gmul (a y) (gmul (y ^^^ Y) (ginv (X ^^^ y)))) (ginv (x ^^^ y)))) = 0 := by
        rw [← e2]
        refine sumL_congr fun y h2 => ?_
        have n1 : x ^^^ y ≠ 0 := x_ne (hd x (by simp [h1]) y (by simp [h2]))
        have n2 : X ^^^ y ≠ 0 := x_ne (hd X (by simp) y (by simp [h2]))
        have t := cau_term (d := y ^^^ Y) n1 n2
        have w1 : x ^^^ y ^^^ (y ^^^ Y) = x ^^^ Y := by rw [UInt8.xor_assoc, ← UInt8.xor_assoc y y Y, x_self, UInt8.zero_xor]
        have w2 : X ^^^ y ^^^ (y ^^^ Y) = X ^^^ Y := by rw [UInt8.xor_assoc, ← UInt8.xor_assoc y y Y, x_self, UInt8.zero_xor]
        have w3 : x ^^^ y ^^^ (X ^^^ y) = x ^^^ X := by rw [x4, x_self, UInt8.xor_zero]
        rw [w1, w2, w3] at t
        rw [← gmul_xor, t]
        rw [gmul_assoc, gmul_assoc, gmul_left_comm (x ^^^ X) (a y)]
      rw [sumL_mul] at e3
      exact g_cancel hxX e3
    have ha : ∀ y ∈ ys, a y = 0 := fun y h2 => by
      have n1 : y ^^^ Y ≠ 0 := x_ne fun e => hy'.1 (e ▸ h2)
      have n2 : X ^^^ y ≠ 0 := x_ne (hd X (by simp) y (by simp [h2]))
      have := hb y h2
      rw [gmul_comm] at this
      exact g_cancel (g_ne n1 (ginv_ne n2)) this
    intro y h2
    rcases List.mem_cons.1 h2 with rfl | h2
    · rw [mul X (by simp), sumL_congr (g := fun _ => 0) (fun z hz => by rw [ha z hz, zero_gmul])]
      exact sumL_zero ys
    · exact ha y h2
theorem len_sub {α : Type} [DecidableEq α] : ∀ {l l' : List α}, l.Nodup → (∀ x ∈ l, x ∈ l') → l.length ≤ l'.length
  | [], _, _, _ => by simp
  | x :: l, l', hn, hs => by
    have h1 := List.nodup_cons.1 hn
    have hx := hs x (by simp)
    have := len_sub (l' := l'.erase x) h1.2 fun y hy => (List.mem_erase_of_ne (show y ≠ x from fun e => h1.1 (by rw [← e]; exact hy))).2 (hs y (by simp [hy]))
    rw [List.length_erase_of_mem hx] at this
    have : 0 < l'.length := List.length_pos_of_mem hx
    simp; omega
theorem len_parts {α : Type} (p : α → Bool) (l : List α) : (l.filter p).length + (l.filter fun x => !p x).length = l.length := by
  induction l with
  | nil => rfl
  | cons x l ih => cases e : p x <;> simp [List.filter_cons, e] <;> omega
end G294
