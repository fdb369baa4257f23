/- Chapter 10: convolutional codes in plain mathematics: outputs, runs, the best paths to each state, that no bits cost less, and the free distance. -/
import Derived.Test.YtlhipceepoenfaaDoorStrMem
set_option linter.unusedSimpArgs false
set_option linter.unusedVariables false
namespace G294
open Go Go.RowKit

def isBitC (c : UInt8) : Bool := c == 48 || c == 49
def bitsOk (s : List UInt8) (m : Nat) : Bool := decide (s.length ≤ m) && s.all isBitC
/-- a character as a bit, a bit as a character -/
def bv (c : UInt8) : Nat := if c = 49 then 1 else 0
def chB (b : Nat) : UInt8 := UInt8.ofNat (48 + b)
/-- the outputs of a bit at a state, and the next state -/
def outN (st b : Nat) : List UInt8 := [chB (b ^^^ (st / 2) ^^^ (st % 2)), chB (b ^^^ (st % 2)), chB (b ^^^ (st / 2))]
def nxtN (st b : Nat) : Nat := 2 * b + st / 2
def encT (st : Nat) : List UInt8 → List UInt8
  | [] => []
  | c :: s => outN st (bv c) ++ encT (nxtN st (bv c)) s
def endT (st : Nat) : List UInt8 → Nat
  | [] => st
  | c :: s => endT (nxtN st (bv c)) s
/-- in how many places lists differ -/
def dl : List UInt8 → List UInt8 → Nat
  | a :: x, b :: y => (if a = b then 0 else 1) + dl x y
  | _, _ => 0

theorem bv_lt (c : UInt8) : bv c < 2 := by unfold bv; split <;> omega
theorem bv_chB {b : Nat} (h : b < 2) : bv (chB b) = b := by
  match b, h with
  | 0, _ => decide
  | 1, _ => decide
theorem isBit_chB {b : Nat} (h : b < 2) : isBitC (chB b) = true := by
  match b, h with
  | 0, _ => decide
  | 1, _ => decide
theorem isBitC_or {c : UInt8} (h : isBitC c = true) : c = 48 ∨ c = 49 := by simpa [isBitC] using h
theorem chB_bv {c : UInt8} (h : isBitC c = true) : chB (bv c) = c := by
  rcases isBitC_or h with rfl | rfl <;> decide
theorem bv_ne {c d : UInt8} (hc : isBitC c = true) (hd : isBitC d = true) (h : c ≠ d) : bv c ≠ bv d := fun e => h (by rw [← chB_bv hc, ← chB_bv hd, e])
theorem nxtN_lt {st b : Nat} (h : st < 4) (hb : b < 2) : nxtN st b < 4 := by unfold nxtN; omega
@[simp] theorem outN_len (st b : Nat) : (outN st b).length = 3 := rfl
@[simp] theorem encT_len (st : Nat) (s : List UInt8) : (encT st s).length = 3 * s.length := by
  induction s generalizing st with
  | nil => rfl
  | cons c s ih => simp [encT, ih]; omega
theorem encT_append (st : Nat) (s t : List UInt8) : encT st (s ++ t) = encT st s ++ encT (endT st s) t := by
  induction s generalizing st with
  | nil => rfl
  | cons c s ih => simp [encT, endT, ih]
theorem endT_append (st : Nat) (s t : List UInt8) : endT st (s ++ t) = endT (endT st s) t := by
  induction s generalizing st with
  | nil => rfl
  | cons c s ih => simp [endT, ih]
theorem endT_lt {st : Nat} (h : st < 4) (s : List UInt8) : endT st s < 4 := by
  induction s generalizing st with
  | nil => exact h
  | cons c s ih => exact ih (nxtN_lt h (bv_lt c))
theorem encT_snoc (st : Nat) (s : List UInt8) (c : UInt8) : encT st (s ++ [c]) = encT st s ++ outN (endT st s) (bv c) := by simp [encT_append, encT]
theorem endT_snoc (st : Nat) (s : List UInt8) (c : UInt8) : endT st (s ++ [c]) = nxtN (endT st s) (bv c) := by simp [endT_append, endT]

theorem dl_append {a b : List UInt8} (h : a.length = b.length) (x y : List UInt8) : dl (a ++ x) (b ++ y) = dl a b + dl x y := by
  induction a generalizing b with
  | nil =>
    cases b with
    | nil => simp [dl]
    | cons d b => simp at h
  | cons c a ih =>
    cases b with
    | nil => simp at h
    | cons d b => simp only [List.cons_append, dl, ih (by simpa using h)]; omega
theorem dl_self (a : List UInt8) : dl a a = 0 := by
  induction a with
  | nil => rfl
  | cons c a ih => simp [dl, ih]
theorem dl_nil (a : List UInt8) : dl a [] = 0 := by cases a <;> rfl
theorem dl_comm (a b : List UInt8) : dl a b = dl b a := by
  induction a generalizing b with
  | nil => cases b <;> rfl
  | cons c a ih =>
    cases b with
    | nil => rfl
    | cons d b =>
      simp only [dl, ih b]
      by_cases e : c = d
      · subst e; rfl
      · rw [if_neg e, if_neg (fun h => e h.symm)]
theorem dl_tri {a b c : List UInt8} (h1 : a.length = b.length) (h2 : b.length = c.length) : dl a c ≤ dl a b + dl b c := by
  induction a generalizing b c with
  | nil => cases c <;> simp [dl]
  | cons x a ih =>
    cases b with
    | nil => simp at h1
    | cons y b =>
      cases c with
      | nil => simp at h2
      | cons z c =>
        have := ih (b := b) (c := c) (by simpa using h1) (by simpa using h2)
        simp only [dl]
        by_cases e1 : x = y
        · subst e1; simp; omega
        · rw [if_neg e1]; split <;> split <;> omega
theorem dl_le {a b : List UInt8} : dl a b ≤ a.length := by
  induction a generalizing b with
  | nil => cases b <;> simp [dl]
  | cons x a ih =>
    cases b with
    | nil => simp [dl]
    | cons y b => simp only [dl, List.length_cons]; have := ih (b := b); split <;> omega

/-- what two runs still differ in, at least, when their states are so far apart and they meet -/
def remD (d : Nat) : Nat := if d = 0 then 0 else if d = 1 then 2 else 4
theorem rem_step : ∀ u, u < 4 → ∀ v, v < 4 → ∀ c, c < 2 → ∀ d, d < 2 → remD (u ^^^ v) ≤ dl (outN u c) (outN v d) + remD (nxtN u c ^^^ nxtN v d) := by decide +kernel
theorem rem_split : ∀ u, u < 4 → ∀ c, c < 2 → ∀ d, d < 2 → c ≠ d → 7 ≤ dl (outN u c) (outN u d) + remD (nxtN u c ^^^ nxtN u d) := by decide +kernel
theorem far_rem (a : List UInt8) : ∀ (b : List UInt8) (u v : Nat), a.length = b.length → u < 4 → v < 4 → endT u a = endT v b → remD (u ^^^ v) ≤ dl (encT u a) (encT v b) := by
  induction a with
  | nil =>
    intro b u v hl hu hv he
    cases b with
    | nil =>
      simp only [endT] at he
      subst he
      simp [remD]
    | cons d b => simp at hl
  | cons c a ih =>
    intro b u v hl hu hv he
    cases b with
    | nil => simp at hl
    | cons d b =>
      have h1 := rem_step u hu v hv (bv c) (bv_lt c) (bv d) (bv_lt d)
      have h2 := ih b (nxtN u (bv c)) (nxtN v (bv d)) (by simpa using hl) (nxtN_lt hu (bv_lt c)) (nxtN_lt hv (bv_lt d)) he
      simp only [encT]
      rw [dl_append (by simp)]
      omega
/-- the free distance: different bits between the same states differ in seven outputs at least -/
theorem far_seven (a : List UInt8) : ∀ (b : List UInt8) (u : Nat), a.length = b.length → a.all isBitC = true → b.all isBitC = true → a ≠ b → u < 4 → endT u a = endT u b → 7 ≤ dl (encT u a) (encT u b) := by
  induction a with
  | nil =>
    intro b u hl _ _ hne _ _
    cases b with
    | nil => exact absurd rfl hne
    | cons d b => simp at hl
  | cons c a ih =>
    intro b u hl ha hb hne hu he
    cases b with
    | nil => simp at hl
    | cons d b =>
      simp only [List.all_cons, Bool.and_eq_true] at ha hb
      simp only [encT]
      rw [dl_append (by simp)]
      by_cases e : c = d
      · subst e
        have := ih b (nxtN u (bv c)) (by simpa using hl) ha.2 hb.2 (fun h => hne (by rw [h])) (nxtN_lt hu (bv_lt c)) he
        omega
      · have h1 := rem_split u hu (bv c) (bv_lt c) (bv d) (bv_lt d) (bv_ne ha.1 hb.1 e)
        have h2 := far_rem a b (nxtN u (bv c)) (nxtN u (bv d)) (by simpa using hl) (nxtN_lt hu (bv_lt c)) (nxtN_lt hu (bv_lt d)) he
        omega

/-- the order of texts -/
theorem bl_irr (a : List UInt8) : Op.bytesLess a a = false := by
  induction a with
  | nil => rfl
  | cons x a ih => simp [Op.bytesLess, ih]
theorem bl_append {a b : List UInt8} (h : a.length = b.length) (t : List UInt8) : Op.bytesLess (a ++ t) (b ++ t) = Op.bytesLess a b := by
  induction a generalizing b with
  | nil =>
    cases b with
    | nil => simp [bl_irr, Op.bytesLess]
    | cons d b => simp at h
  | cons c a ih =>
    cases b with
    | nil => simp at h
    | cons d b => simp [Op.bytesLess, ih (by simpa using h : a.length = b.length)]
theorem bl_asym {a b : List UInt8} (h : Op.bytesLess a b = true) : Op.bytesLess b a = false := by
  induction a generalizing b with
  | nil =>
    cases b with
    | nil => simp [Op.bytesLess] at h
    | cons d b => rfl
  | cons c a ih =>
    cases b with
    | nil => simp [Op.bytesLess] at h
    | cons d b =>
      simp only [Op.bytesLess, Bool.or_eq_true, Bool.and_eq_true, decide_eq_true_eq, beq_iff_eq] at h
      simp only [Op.bytesLess, Bool.or_eq_false_iff, Bool.and_eq_false_iff, decide_eq_false_iff_not, beq_eq_false_iff_ne]
      rcases h with h | ⟨rfl, h⟩
      · exact ⟨UInt8.not_lt.2 (UInt8.le_of_lt h), .inl (fun e => UInt8.ne_of_lt h e.symm)⟩
      · exact ⟨UInt8.lt_irrefl _, .inr (ih h)⟩
theorem bl_trans {a b c : List UInt8} (h1 : Op.bytesLess b a = false) (h2 : Op.bytesLess c b = false) : Op.bytesLess c a = false := by
  induction a generalizing b c with
  | nil => cases c <;> rfl
  | cons x a ih =>
    cases b with
    | nil => simp [Op.bytesLess] at h1
    | cons y b =>
      cases c with
      | nil => simp [Op.bytesLess] at h2
      | cons z c =>
        simp only [Op.bytesLess, Bool.or_eq_false_iff, Bool.and_eq_false_iff, decide_eq_false_iff_not, beq_eq_false_iff_ne, UInt8.not_lt] at h1 h2 ⊢
        refine ⟨UInt8.le_trans h1.1 h2.1, ?_⟩
        by_cases e : z = x
        · subst e
          have e2 : y = z := UInt8.le_antisymm h2.1 h1.1
          subst e2
          refine .inr (ih (b := b) (c := c) ?_ ?_)
          · exact h1.2.resolve_left (fun h => h rfl)
          · exact h2.2.resolve_left (fun h => h rfl)
        · exact .inl e

/-- a path: its bits and its cost, -1 for none -/
abbrev Pt := List UInt8 × Int
def noP : Pt := ([], -1)
def betterP (a b : Pt) : Bool := decide (b.2 < 0) || (decide (a.2 < b.2) || (decide (a.2 = b.2) && Op.bytesLess a.1 b.1))
def cand (p : Pt) (st b : Nat) (r : List UInt8) : Pt := (p.1 ++ [chB b], p.2 + (dl (outN st b) r : Nat))
def addC (p x acc : Pt) : Pt := if p.2 < 0 then acc else if betterP x acc = true then x else acc
/-- the best path to a state by the states below n -/
def upTo (l : List Pt) (r : List UInt8) (to : Nat) : Nat → Pt
  | 0 => noP
  | n + 1 => if nxtN n (to / 2) = to then addC (l.getD n noP) (cand (l.getD n noP) n (to / 2) r) (upTo l r to n) else upTo l r to n
def stepP (l : List Pt) (r : List UInt8) : List Pt := [upTo l r 0 4, upTo l r 1 4, upTo l r 2 4, upTo l r 3 4]
def stepL (l : List Pt) (r : List UInt8) : List Pt := [upTo l r 0 4, upTo l r 1 4, noP, noP]
def startP : List Pt := [([], 0), noP, noP, noP]
def pathsN (r : List UInt8) : Nat → List Pt
  | 0 => startP
  | k + 1 => stepP (pathsN r k) ((r.drop (3 * k)).take 3)
@[simp] theorem stepP_len (l : List Pt) (r : List UInt8) : (stepP l r).length = 4 := rfl
@[simp] theorem stepL_len (l : List Pt) (r : List UInt8) : (stepL l r).length = 4 := rfl
@[simp] theorem pathsN_len (r : List UInt8) (k : Nat) : (pathsN r k).length = 4 := by cases k <;> rfl
theorem stepP_at (l : List Pt) (r : List UInt8) {t : Nat} (h : t < 4) : (stepP l r).getD t noP = upTo l r t 4 := by
  match t, h with
  | 0, _ => rfl
  | 1, _ => rfl
  | 2, _ => rfl
  | 3, _ => rfl
theorem upTo_low (l m : List Pt) (r : List UInt8) {t : Nat} (h : t < 2) (ht : t % 2 = 0) (h0 : l.getD 0 noP = m.getD 0 noP) (h1 : l.getD 1 noP = m.getD 1 noP) : upTo l r t 4 = upTo m r t 4 := by
  obtain rfl : t = 0 := by omega
  have e2 : ¬ nxtN 2 (0 / 2) = 0 := by decide
  have e3 : ¬ nxtN 3 (0 / 2) = 0 := by decide
  rw [upTo, if_neg e3, upTo, if_neg e2, upTo, upTo, upTo, upTo, if_neg e3, upTo, if_neg e2, upTo, upTo, upTo, h0, h1]
/-- two steps by zeros alone lead to state 0 as two free steps do -/
theorem stepL_two (l : List Pt) (q r : List UInt8) : (stepL (stepL l q) r).getD 0 noP = (stepP (stepP l q) r).getD 0 noP :=
  show upTo (stepL l q) r 0 4 = upTo (stepP l q) r 0 4 from upTo_low (t := 0) (stepL l q) (stepP l q) r (by omega) rfl rfl rfl

/-- the model's round: one state, one bit -/
def mStep (l : List Pt) (r : List UInt8) (last : Bool) (out : List Pt) (st b : Nat) : List Pt :=
  if (l.getD st noP).2 < 0 ∨ (last = true ∧ b = 1) then out
  else if betterP (cand (l.getD st noP) st b r) (out.getD (nxtN st b) noP) = true then out.set (nxtN st b) (cand (l.getD st noP) st b r) else out
def mAll (l : List Pt) (r : List UInt8) (last : Bool) : Nat → List Pt
  | 0 => [noP, noP, noP, noP]
  | n + 1 => mStep l r last (mAll l r last n) (n / 2) (n % 2)
theorem mStep_free (l : List Pt) (r : List UInt8) (out : List Pt) (last : Bool) (st b : Nat) (h : ¬ (last = true ∧ b = 1)) (hs : nxtN st b < out.length) :
    mStep l r last out st b = out.set (nxtN st b) (addC (l.getD st noP) (cand (l.getD st noP) st b r) (out.getD (nxtN st b) noP)) := by
  have hself : out.set (nxtN st b) (out.getD (nxtN st b) noP) = out := by
    rw [List.getD_eq_getElem?_getD, List.getElem?_eq_getElem hs]; simp
  unfold mStep addC
  by_cases h1 : (l.getD st noP).2 < 0
  · rw [if_pos (Or.inl h1), if_pos h1, hself]
  · rw [if_neg (fun e => e.elim h1 h), if_neg h1]
    split
    · rfl
    · rw [hself]
theorem mStep_last (l : List Pt) (r : List UInt8) (out : List Pt) (st b : Nat) (h : b = 1) : mStep l r true out st b = out := if_pos (.inr ⟨rfl, h⟩)
@[simp] theorem mStep_len (l : List Pt) (r : List UInt8) (last : Bool) (out : List Pt) (st b : Nat) : (mStep l r last out st b).length = out.length := by
  unfold mStep; split
  · rfl
  · split <;> simp
@[simp] theorem mAll_len (l : List Pt) (r : List UInt8) (last : Bool) (n : Nat) : (mAll l r last n).length = 4 := by
  induction n with
  | zero => rfl
  | succ n ih => simp [mAll, ih]
theorem upTo_four (l : List Pt) (r : List UInt8) {t : Nat} (h : t < 4) : upTo l r t 4 =
    addC (l.getD (2 * (t % 2) + 1) noP) (cand (l.getD (2 * (t % 2) + 1) noP) (2 * (t % 2) + 1) (t / 2) r) (addC (l.getD (2 * (t % 2)) noP) (cand (l.getD (2 * (t % 2)) noP) (2 * (t % 2)) (t / 2) r) noP) := by
  match t, h with
  | 0, _ => rfl
  | 1, _ => rfl
  | 2, _ => rfl
  | 3, _ => rfl
theorem mAll_free (l : List Pt) (r : List UInt8) : mAll l r false 8 = stepP l r := by
  have e : ∀ (out : List Pt) (st b : Nat), out.length = 4 → nxtN st b < 4 → mStep l r false out st b = out.set (nxtN st b) (addC (l.getD st noP) (cand (l.getD st noP) st b r) (out.getD (nxtN st b) noP)) :=
    fun out st b h h' => mStep_free l r out false st b (by simp) (by omega)
  unfold stepP
  rw [upTo_four l r (by omega), upTo_four l r (by omega), upTo_four l r (by omega), upTo_four l r (by omega)]
  have s1 : mAll l r false 1 = _ := e [noP, noP, noP, noP] 0 0 (by simp) (by decide)
  have s2 : mAll l r false 2 = _ := (congrArg (fun o => mStep l r false o 0 1) s1).trans (e _ 0 1 (by simp) (by decide))
  have s3 : mAll l r false 3 = _ := (congrArg (fun o => mStep l r false o 1 0) s2).trans (e _ 1 0 (by simp) (by decide))
  have s4 : mAll l r false 4 = _ := (congrArg (fun o => mStep l r false o 1 1) s3).trans (e _ 1 1 (by simp) (by decide))
  have s5 : mAll l r false 5 = _ := (congrArg (fun o => mStep l r false o 2 0) s4).trans (e _ 2 0 (by simp) (by decide))
  have s6 : mAll l r false 6 = _ := (congrArg (fun o => mStep l r false o 2 1) s5).trans (e _ 2 1 (by simp) (by decide))
  have s7 : mAll l r false 7 = _ := (congrArg (fun o => mStep l r false o 3 0) s6).trans (e _ 3 0 (by simp) (by decide))
  have s8 : mAll l r false 8 = _ := (congrArg (fun o => mStep l r false o 3 1) s7).trans (e _ 3 1 (by simp) (by decide))
  rw [s8]
  rfl
theorem mAll_last (l : List Pt) (r : List UInt8) : mAll l r true 8 = stepL l r := by
  have e : ∀ (out : List Pt) (st : Nat), out.length = 4 → nxtN st 0 < 4 → mStep l r true out st 0 = out.set (nxtN st 0) (addC (l.getD st noP) (cand (l.getD st noP) st 0 r) (out.getD (nxtN st 0) noP)) :=
    fun out st h h' => mStep_free l r out true st 0 (by simp) (by omega)
  unfold stepL
  rw [upTo_four l r (by omega), upTo_four l r (by omega)]
  have s1 : mAll l r true 1 = _ := e [noP, noP, noP, noP] 0 (by simp) (by decide)
  have s2 : mAll l r true 2 = _ := (congrArg (fun o => mStep l r true o 0 1) s1).trans (mStep_last l r _ 0 1 rfl)
  have s3 : mAll l r true 3 = _ := (congrArg (fun o => mStep l r true o 1 0) s2).trans (e _ 1 (by simp) (by decide))
  have s4 : mAll l r true 4 = _ := (congrArg (fun o => mStep l r true o 1 1) s3).trans (mStep_last l r _ 1 1 rfl)
  have s5 : mAll l r true 5 = _ := (congrArg (fun o => mStep l r true o 2 0) s4).trans (e _ 2 (by simp) (by decide))
  have s6 : mAll l r true 6 = _ := (congrArg (fun o => mStep l r true o 2 1) s5).trans (mStep_last l r _ 2 1 rfl)
  have s7 : mAll l r true 7 = _ := (congrArg (fun o => mStep l r true o 3 0) s6).trans (e _ 3 (by simp) (by decide))
  have s8 : mAll l r true 8 = _ := (congrArg (fun o => mStep l r true o 3 1) s7).trans (mStep_last l r _ 3 1 rfl)
  rw [s8]
  rfl

/-- one text is no worse than another -/
def LeP (c1 : Nat) (s1 : List UInt8) (c2 : Nat) (s2 : List UInt8) : Prop := c1 < c2 ∨ (c1 = c2 ∧ Op.bytesLess s2 s1 = false)
theorem LeP.trans {c1 c2 c3 : Nat} {s1 s2 s3 : List UInt8} (h : LeP c1 s1 c2 s2) (h' : LeP c2 s2 c3 s3) : LeP c1 s1 c3 s3 := by
  rcases h with h | ⟨rfl, h⟩
  · rcases h' with h' | ⟨rfl, h'⟩
    · exact .inl (by omega)
    · exact .inl h
  · rcases h' with h' | ⟨rfl, h'⟩
    · exact .inl h'
    · exact .inr ⟨rfl, bl_trans h h'⟩
theorem LeP.refl (c : Nat) (s : List UInt8) : LeP c s c s := .inr ⟨rfl, bl_irr s⟩
/-- p is the best text of S by its cost -/
def BestQ (S : List UInt8 → Prop) (cost : List UInt8 → Nat) (p : Pt) : Prop :=
  (p = noP ∧ ∀ s, ¬ S s) ∨ (S p.1 ∧ p.2 = (cost p.1 : Int) ∧ ∀ s, S s → LeP (cost p.1) p.1 (cost s) s)
theorem best_join {S1 S2 S : List UInt8 → Prop} {cost : List UInt8 → Nat} {p x : Pt} (hS : ∀ s, S s ↔ S1 s ∨ S2 s) (hp : BestQ S1 cost p)
    (hx : S2 x.1 ∧ x.2 = (cost x.1 : Int) ∧ ∀ s, S2 s → LeP (cost x.1) x.1 (cost s) s) : BestQ S cost (if betterP x p = true then x else p) := by
  obtain ⟨x1, x2, x3⟩ := hx
  rcases hp with ⟨rfl, hn⟩ | ⟨p1, p2, p3⟩
  · have : betterP x noP = true := by simp [betterP, noP]
    rw [if_pos this]
    exact .inr ⟨(hS _).2 (.inr x1), x2, fun s hs => (((hS s).1 hs).elim (fun h => absurd h (hn s)) (x3 s))⟩
  · by_cases hb : betterP x p = true
    · rw [if_pos hb]
      have hle : LeP (cost x.1) x.1 (cost p.1) p.1 := by
        simp only [betterP, Bool.or_eq_true, Bool.and_eq_true, decide_eq_true_eq, x2, p2] at hb
        rcases hb with h | h | ⟨h, h'⟩
        · omega
        · exact .inl (by omega)
        · exact .inr ⟨by omega, bl_asym h'⟩
      exact .inr ⟨(hS _).2 (.inr x1), x2, fun s hs => (((hS s).1 hs).elim (fun h => hle.trans (p3 s h)) (x3 s))⟩
    · rw [if_neg hb]
      have hle : LeP (cost p.1) p.1 (cost x.1) x.1 := by
        simp only [betterP, Bool.or_eq_true, Bool.and_eq_true, decide_eq_true_eq, x2, p2, not_or, not_and, Bool.not_eq_true] at hb
        obtain ⟨_, h2, h3⟩ := hb
        rcases Nat.lt_or_ge (cost p.1) (cost x.1) with h | h
        · exact .inl h
        · exact .inr ⟨by omega, h3 (by omega)⟩
      exact .inr ⟨(hS _).2 (.inl p1), p2, fun s hs => (((hS s).1 hs).elim (p3 s) (fun h => hle.trans (x3 s h)))⟩

/-- the texts of k bits that lead to a state -/
def Lead (k t : Nat) (s : List UInt8) : Prop := s.all isBitC = true ∧ s.length = k ∧ endT 0 s = t
def costT (r s : List UInt8) : Nat := dl (encT 0 s) r
def LeadU (k t n : Nat) (s : List UInt8) : Prop := ∃ s' c, s = s' ++ [c] ∧ s'.all isBitC = true ∧ isBitC c = true ∧ s'.length = k ∧ endT 0 s' < n ∧ nxtN (endT 0 s') (bv c) = t
theorem costT_snoc {r s : List UInt8} (q : List UInt8) (c : UInt8) (h : r.length = 3 * s.length) : costT (r ++ q) (s ++ [c]) = costT r s + dl (outN (endT 0 s) (bv c)) q := by
  unfold costT
  rw [encT_snoc, dl_append (by simp [h])]
theorem nxt_half {n b : Nat} (h : n < 4) : nxtN n b / 2 = b := by unfold nxtN; omega
theorem best_up (l : List Pt) (r q : List UInt8) (k t : Nat) (ht : t < 4) (hr : r.length = 3 * k) (hl : ∀ f, f < 4 → BestQ (Lead k f) (costT r) (l.getD f noP)) :
    ∀ n, n ≤ 4 → BestQ (LeadU k t n) (costT (r ++ q)) (upTo l q t n)
  | 0, _ => .inl ⟨rfl, fun s h => by obtain ⟨s', c, _, _, _, _, h, _⟩ := h; omega⟩
  | n + 1, hn => by
    have ih := best_up l r q k t ht hr hl n (by omega)
    have hmore : ∀ s, LeadU k t (n + 1) s ↔ LeadU k t n s ∨ (∃ s' c, s = s' ++ [c] ∧ s'.all isBitC = true ∧ isBitC c = true ∧ s'.length = k ∧ endT 0 s' = n ∧ nxtN n (bv c) = t) := by
      intro s
      constructor
      · rintro ⟨s', c, h1, h2, h3, h4, h5, h6⟩
        rcases Nat.lt_or_ge (endT 0 s') n with h | h
        · exact .inl ⟨s', c, h1, h2, h3, h4, h, h6⟩
        · have e : endT 0 s' = n := by omega
          exact .inr ⟨s', c, h1, h2, h3, h4, e, by rw [← e]; exact h6⟩
      · rintro (⟨s', c, h1, h2, h3, h4, h5, h6⟩ | ⟨s', c, h1, h2, h3, h4, h5, h6⟩)
        · exact ⟨s', c, h1, h2, h3, h4, by omega, h6⟩
        · exact ⟨s', c, h1, h2, h3, h4, by omega, by rw [h5]; exact h6⟩
    have hno : (∀ s, ¬ (∃ s' c, s = s' ++ [c] ∧ s'.all isBitC = true ∧ isBitC c = true ∧ s'.length = k ∧ endT 0 s' = n ∧ nxtN n (bv c) = t)) → BestQ (LeadU k t (n + 1)) (costT (r ++ q)) (upTo l q t n) := by
      intro hno
      have e : LeadU k t (n + 1) = LeadU k t n := by
        funext s
        exact propext ((hmore s).trans ⟨fun h => h.elim id (fun h => absurd h (hno s)), .inl⟩)
      rw [e]; exact ih
    unfold upTo
    by_cases hx : nxtN n (t / 2) = t
    · rw [if_pos hx]
      unfold addC
      rcases hl n (by omega) with ⟨e, hnone⟩ | ⟨⟨a1, a2, a3⟩, b, hbest⟩
      · rw [if_pos (by rw [e]; decide)]
        exact hno (fun s ⟨s', c, h1, h2, h3, h4, h5, h6⟩ => hnone s' ⟨h2, h4, h5⟩)
      · rw [if_neg (by rw [b]; omega)]
        have ht2 : t / 2 < 2 := by omega
        refine best_join hmore ih ⟨⟨_, _, rfl, a1, isBit_chB ht2, a2, a3, by rw [bv_chB ht2]; exact hx⟩, ?_, ?_⟩
        · show (l.getD n noP).2 + _ = _
          rw [show (cand (l.getD n noP) n (t / 2) q).1 = (l.getD n noP).1 ++ [chB (t / 2)] from rfl, costT_snoc q _ (by rw [a2, hr]), a3, bv_chB ht2, b]
          omega
        · rintro s ⟨s', c, rfl, h2, h3, h4, h5, h6⟩
          have hc : bv c = t / 2 := by rw [← h6, nxt_half (by omega)]
          have hcc : c = chB (t / 2) := by rw [← hc, chB_bv h3]
          rw [show (cand (l.getD n noP) n (t / 2) q).1 = (l.getD n noP).1 ++ [chB (t / 2)] from rfl, costT_snoc q _ (by rw [a2, hr]), costT_snoc q _ (by rw [h4, hr]), a3, h5, bv_chB ht2, hc, hcc]
          rcases hbest s' ⟨h2, h4, h5⟩ with h | ⟨h, h'⟩
          · exact .inl (by omega)
          · exact .inr ⟨by omega, by rw [bl_append (by rw [h4, a2])]; exact h'⟩
    · rw [if_neg hx]
      refine hno (fun s ⟨s', c, h1, h2, h3, h4, h5, h6⟩ => hx ?_)
      rw [show t / 2 = bv c by rw [← h6, nxt_half (by omega)]]
      exact h6
theorem lead_up {k t : Nat} (s : List UInt8) : LeadU k t 4 s ↔ Lead (k + 1) t s := by
  constructor
  · rintro ⟨s', c, rfl, h2, h3, h4, h5, h6⟩
    exact ⟨by simp [h2, h3], by simp [h4], by rw [endT_snoc]; exact h6⟩
  · rintro ⟨h1, h2, h3⟩
    have hne : s ≠ [] := fun e => by rw [e] at h2; simp at h2
    have hs := (List.dropLast_concat_getLast hne).symm
    rw [hs] at h1 h3
    rw [endT_snoc] at h3
    simp only [List.all_append, List.all_cons, List.all_nil, Bool.and_true, Bool.and_eq_true] at h1
    exact ⟨_, _, hs, h1.1, h1.2, by simp [h2], endT_lt (by omega) _, h3⟩
theorem best_paths (r : List UInt8) : ∀ k, 3 * k ≤ r.length → ∀ t, t < 4 → BestQ (Lead k t) (costT (r.take (3 * k))) ((pathsN r k).getD t noP)
  | 0, _, t, ht => by
    by_cases h0 : t = 0
    · subst h0
      refine .inr ⟨⟨rfl, rfl, rfl⟩, ?_, ?_⟩
      · simp [pathsN, startP, costT, encT, dl]
      · rintro s ⟨h1, h2, h3⟩
        rw [List.length_eq_zero_iff.1 h2]
        exact LeP.refl _ _
    · refine .inl ⟨?_, ?_⟩
      · match t, ht, h0 with
        | 1, _, _ => rfl
        | 2, _, _ => rfl
        | 3, _, _ => rfl
      · rintro s ⟨h1, h2, h3⟩
        rw [List.length_eq_zero_iff.1 h2] at h3
        exact h0 h3.symm
  | k + 1, hk, t, ht => by
    have ih := best_paths r k (by omega)
    have h := best_up (pathsN r k) (r.take (3 * k)) ((r.drop (3 * k)).take 3) k t ht (by simp; omega) ih 4 (by omega)
    have e : r.take (3 * k) ++ (r.drop (3 * k)).take 3 = r.take (3 * (k + 1)) := by
      rw [show 3 * (k + 1) = 3 * k + 3 by omega, List.take_add]
    rw [e] at h
    rw [show LeadU k t 4 = Lead (k + 1) t from funext (fun s => propext (lead_up s))] at h
    rw [pathsN, stepP_at _ _ ht]
    exact h
/-- some bits lead to state 0: zeros -/
theorem lead_zero (k : Nat) : Lead k 0 (List.replicate k 48) := by
  refine ⟨by simp [isBitC], by simp, ?_⟩
  induction k with
  | zero => rfl
  | succ k ih => rw [List.replicate_succ, endT]; exact ih
theorem best_zero (r : List UInt8) (k : Nat) (hk : 3 * k ≤ r.length) : Lead k 0 ((pathsN r k).getD 0 noP).1 ∧ ((pathsN r k).getD 0 noP).2 = (costT (r.take (3 * k)) ((pathsN r k).getD 0 noP).1 : Int) ∧
    ∀ s, Lead k 0 s → LeP (costT (r.take (3 * k)) ((pathsN r k).getD 0 noP).1) ((pathsN r k).getD 0 noP).1 (costT (r.take (3 * k)) s) s := by
  rcases best_paths r k hk 0 (by omega) with ⟨_, hn⟩ | h
  · exact absurd (lead_zero k) (hn _)
  · exact h
/-- bits that end in state 0 end in two zeros -/
theorem lead_tail {n : Nat} {s : List UInt8} (h : Lead (n + 2) 0 s) : s = s.take n ++ [48, 48] := by
  obtain ⟨h1, h2, h3⟩ := h
  have hd : (s.drop n).length = 2 := by simp; omega
  match hs : s.drop n, hd with
  | [c, d], _ =>
    have e : s = s.take n ++ [c, d] := by rw [← hs, List.take_append_drop]
    rw [e, show s.take n ++ [c, d] = (s.take n ++ [c]) ++ [d] by simp, endT_snoc, endT_snoc] at h3
    rw [e] at h1
    simp only [List.all_append, List.all_cons, List.all_nil, Bool.and_true, Bool.and_eq_true] at h1
    have hc : bv c = 0 := by unfold nxtN at h3; omega
    have hdz : bv d = 0 := by unfold nxtN at h3; omega
    have e1 : c = 48 := by rw [← chB_bv h1.2.1, hc]; rfl
    have e2 : d = 48 := by rw [← chB_bv h1.2.2, hdz]; rfl
    rw [e1, e2] at e
    exact e
theorem lead_zeros {n : Nat} {s : List UInt8} (h : s.all isBitC = true) (hl : s.length = n) : Lead (n + 2) 0 (s ++ [48, 48]) := by
  refine ⟨by simp [h, isBitC], by simp [hl], ?_⟩
  rw [endT_append]
  have := endT_lt (by omega : 0 < 4) s
  generalize endT 0 s = q at this
  have e : bv 48 = 0 := by decide
  simp only [endT, e, nxtN]
  omega

/-- encoding, distance, decoding -/
def encOk10 (s : List UInt8) : Bool := bitsOk s 30
def encR10 (s : List UInt8) : List UInt8 := if encOk10 s = true then encT 0 (s ++ [48, 48]) else []
def dstOk (a b : List UInt8) : Bool := bitsOk a 96 && (bitsOk b 96 && decide (a.length = b.length))
def dstR (a b : List UInt8) : Int := if dstOk a b = true then (dl a b : Int) else 0
def cosOk (s r : List UInt8) : Bool := encOk10 s && dstOk (encR10 s) r
def cosR (s r : List UInt8) : Int := if cosOk s r = true then (dl (encR10 s) r : Int) else 0
def recOk (r : List UInt8) : Bool := bitsOk r 96 && (decide (r.length % 3 = 0) && decide (6 ≤ r.length))
def bstR (r : List UInt8) : List Pt := if recOk r = true then pathsN r (r.length / 3 - 2) else []
def dcdR (r : List UInt8) : Pt := if recOk r = true then (((pathsN r (r.length / 3)).getD 0 noP).1.take (r.length / 3 - 2), ((pathsN r (r.length / 3)).getD 0 noP).2) else ([], 0)

theorem bitsOk_b {s : List UInt8} {m : Nat} (h : bitsOk s m = true) : s.length ≤ m ∧ s.all isBitC = true := by
  simpa [bitsOk] using h
theorem encT_bits (st : Nat) (hst : st < 4) (s : List UInt8) : (encT st s).all isBitC = true := by
  induction s generalizing st with
  | nil => rfl
  | cons c s ih =>
    have key : ∀ u, u < 4 → ∀ b, b < 2 → (outN u b).all isBitC = true := by decide +kernel
    simp only [encT, List.all_append, Bool.and_eq_true]
    exact ⟨key st hst _ (bv_lt c), ih _ (nxtN_lt hst (bv_lt c))⟩
theorem encR10_yes {s : List UInt8} (h : encOk10 s = true) : encR10 s = encT 0 (s ++ [48, 48]) := if_pos h
theorem encR10_no {s : List UInt8} (h : encOk10 s = false) : encR10 s = [] := if_neg (by rw [h]; decide)
theorem encR10_len {s : List UInt8} (h : encOk10 s = true) : (encR10 s).length = 3 * (s.length + 2) := by rw [encR10_yes h]; simp
theorem encR10_bits {s : List UInt8} (h : encOk10 s = true) : bitsOk (encR10 s) 96 = true := by
  have := (bitsOk_b h).1
  simp only [bitsOk, Bool.and_eq_true, decide_eq_true_eq]
  exact ⟨by rw [encR10_len h]; omega, by rw [encR10_yes h]; exact encT_bits 0 (by omega) _⟩
theorem recOk_b {r : List UInt8} (h : recOk r = true) : bitsOk r 96 = true ∧ ∃ n, r.length = 3 * (n + 2) ∧ n ≤ 30 ∧ r.length / 3 = n + 2 := by
  simp only [recOk, Bool.and_eq_true, decide_eq_true_eq] at h
  have := (bitsOk_b h.1).1
  exact ⟨h.1, r.length / 3 - 2, by omega, by omega, by omega⟩

/-- what is decoded, with its cost, and that no other bits are better -/
theorem dcd_best {r : List UInt8} {n : Nat} (h : recOk r = true) (hn : r.length = 3 * (n + 2)) (h30 : n ≤ 30) :
    (dcdR r).1.length = n ∧ (dcdR r).1.all isBitC = true ∧ (dcdR r).2 = (dl (encR10 (dcdR r).1) r : Int) ∧
    ∀ s, s.all isBitC = true → s.length = n → LeP (dl (encR10 (dcdR r).1) r) (dcdR r).1 (dl (encR10 s) r) s := by
  have h3 : r.length / 3 = n + 2 := by omega
  have hb := best_zero r (n + 2) (by omega)
  rw [List.take_of_length_le (by omega)] at hb
  have hd : dcdR r = (((pathsN r (n + 2)).getD 0 noP).1.take n, ((pathsN r (n + 2)).getD 0 noP).2) := by
    unfold dcdR; rw [if_pos h, h3]; rfl
  rw [hd]
  generalize (pathsN r (n + 2)).getD 0 noP = p at hb ⊢
  obtain ⟨hl, hc, hbest⟩ := hb
  have ht := lead_tail hl
  have hlen : (p.1.take n).length = n := by simp [hl.2.1]
  have hbits : (p.1.take n).all isBitC = true := by
    have := hl.1
    rw [ht] at this
    simp only [List.all_append, Bool.and_eq_true] at this
    exact this.1
  have hok : encOk10 (p.1.take n) = true := by simp only [encOk10, bitsOk, Bool.and_eq_true, decide_eq_true_eq]; exact ⟨by omega, hbits⟩
  have hcost : dl (encR10 (p.1.take n)) r = costT r p.1 := by rw [encR10_yes hok, ← ht]; rfl
  refine ⟨hlen, hbits, by rw [hcost]; exact hc, fun s hs hsl => ?_⟩
  have hok2 : encOk10 s = true := by simp only [encOk10, bitsOk, Bool.and_eq_true, decide_eq_true_eq]; exact ⟨by omega, hs⟩
  have := hbest _ (lead_zeros hs hsl)
  rw [hcost, encR10_yes hok2]
  rw [ht] at this
  rw [← ht] at this
  rcases this with h | ⟨h, h'⟩
  · exact .inl h
  · refine .inr ⟨h, ?_⟩
    rw [ht, bl_append (by rw [hsl, hlen])] at h'
    exact h'
/-- few errors are corrected: by the free distance -/
theorem dcd_free {s r : List UInt8} (hs : encOk10 s = true) (hr : r.length = (encR10 s).length) (hrb : r.all isBitC = true) (hd : dl (encR10 s) r ≤ 3) : dcdR r = (s, (dl (encR10 s) r : Int)) ∧ recOk r = true := by
  have hsb := bitsOk_b hs
  have hrl : r.length = 3 * (s.length + 2) := by rw [hr, encR10_len hs]
  have hok : recOk r = true := by
    simp only [recOk, bitsOk, Bool.and_eq_true, decide_eq_true_eq]
    exact ⟨⟨by omega, hrb⟩, by omega, by omega⟩
  obtain ⟨h1, h2, h3, h4⟩ := dcd_best hok hrl hsb.1
  have hp := h4 s hsb.2 rfl
  have hcost : dl (encR10 (dcdR r).1) r ≤ dl (encR10 s) r := by rcases hp with h | ⟨h, _⟩ <;> omega
  have hok2 : encOk10 (dcdR r).1 = true := by simp only [encOk10, bitsOk, Bool.and_eq_true, decide_eq_true_eq]; exact ⟨by omega, h2⟩
  have heq : (dcdR r).1 = s := by
    apply Classical.byContradiction
    intro hne
    have l1 := lead_zeros h2 h1
    have l2 := lead_zeros hsb.2 rfl
    have h7 := far_seven ((dcdR r).1 ++ [48, 48]) (s ++ [48, 48]) 0 (by simp [h1]) l1.1 l2.1 (fun e => hne (List.append_cancel_right e)) (by omega) (l1.2.2.trans l2.2.2.symm)
    rw [← encR10_yes hok2, ← encR10_yes hs] at h7
    have tri := dl_tri (a := encR10 (dcdR r).1) (b := r) (c := encR10 s) (by rw [encR10_len hok2, hrl, h1]) hr
    have := dl_comm r (encR10 s)
    omega
  refine ⟨Prod.ext heq ?_, hok⟩
  rw [heq] at h3
  exact h3
end G294
