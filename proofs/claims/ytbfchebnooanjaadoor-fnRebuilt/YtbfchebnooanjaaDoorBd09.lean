/- Joined texts: PlusT, OpenMsr, StrpMem, SplitMath, JoinMath, StrpMath, DrpMath. -/
import Derived.Test.YtbfchebnooanjaaDoorBd08
import Derived.Deep.RegionHeld3
import Derived.Test.YtbfchebnooanjaaDoorProg
import Derived.Test.YtbfchebnooanjaaDoorBd00
import Derived.Test.YtbfchebnooanjaaDoorBd06
import Derived.Test.YtbfchebnooanjaaDoorBd03
import Derived.Lib.SmallJoins
import Derived.Test.YtbfchebnooanjaaDoorBd02
import Derived.Test.YtbfchebnooanjaaDoorBd05
set_option linter.unusedSimpArgs false
set_option linter.unusedVariables false
/- plusTimes, and the methods that make the texts of a product, a sum, a merge and a change. -/
namespace G294
open Go Go.RowKit
/-- a text plus a multiple of an equally long one -/
def plusL (a : List UInt8) (f : UInt8) (b : List UInt8) : List UInt8 := mkRow a.length fun p => a.getD p 0 ^^^ gmul f (b.getD p 0)
@[simp] theorem plusL_length (a : List UInt8) (f : UInt8) (b : List UInt8) : (plusL a f b).length = a.length := by simp [plusL]
theorem comb_plus (a b : List UInt8) (f : UInt8) : comb 2 a.length (fun j => if j = 0 then 1 else f) [a, b] = plusL a f b := by
  refine mkRow_congr fun p hp => ?_
  rw [combF_succ, combF_succ]
  show (0 ^^^ gmul 1 (a.getD p 0)) ^^^ gmul f (b.getD p 0) = _
  rw [gmul_one_left, UInt8.zero_xor]
theorem mkRow_two (f : UInt8) : mkRow 2 (fun j => if j = 0 then 1 else f) = [1, f] := by simp [mkRow, List.range_succ]
end G294
namespace Go.Proofs.YtbfchebnooanjaaDoor
open Go.RowKit G294

end Go.Proofs.YtbfchebnooanjaaDoor

/- From the readings of a law's arguments to what its walk asks: a struct of two ints. -/
namespace G294
open Go Go.ChangeShapes Go.WideShapes Go.ChangeAt Go.RowKit Go.Deep Go.Joins
section
variable {H : Type} {enc : TypeId × Value → H} {P : Program} {W : World} {base : Nat} {t : TypeId} {v : Value} {d : DataW H} {p : List MemPlace} {f0 f1 : Field}
theorem open_two (hs : P.underlying t = some (.struct #[f0, f1])) (hone : oneCellFields P #[f0, f1] = true) (hC : P.cellsOf t = 2) (u0 : P.underlying f0.type = some (.int .i64)) (u1 : P.underlying f1.type = some (.int .i64))
    (hv : Value.okWide P W .any base t v) (h : DataW.Trod enc P W 0 (fun _ => true) true t v d p) : ∃ g e : Int, v = .agg #[.int .i64 g, .int .i64 e] := by
  obtain ⟨v0, v1, y0, y1, n, rfl, _, _, h0, h1⟩ := open_agg2 hs hone hC hv h
  obtain ⟨g, hg, _⟩ := DataW.trod_int u0 h0
  obtain ⟨e, he, _⟩ := DataW.trod_int u1 h1
  simp only [List.cons.injEq, and_true] at hg he
  exact ⟨g, e, by rw [hg, he]⟩
end
end G294

/- Stripes in memory: two slices of texts. -/
namespace G294
open Go Go.RowKit
abbrev Strp := List (List UInt8) × List (List UInt8)
/-- a stripe of the call's own, its blocks from lo to hi: those of its data lie ahead of those of its parities -/
def OwnT (E : TypeId) (w : World) (lo hi : Nat) (v u : Value) (s : Strp) : Prop := ∃ mid, lo ≤ mid ∧ mid ≤ hi ∧ OwnStrs E w lo mid v s.1 ∧ OwnStrs E w mid hi u s.2
section
variable {w w' : World} {lo hi a b : Nat} {v u : Value} {l : List (List UInt8)} {s : Strp} {E : TypeId}
theorem OwnStrs.widerS {lo' hi' : Nat} (h : OwnStrs E w lo hi v l) (h1 : lo' ≤ lo) (h2 : hi ≤ hi') (h3 : hi' ≤ w.heap.size) : OwnStrs E w lo' hi' v l := by
  obtain ⟨o1, o2, o3⟩ := h
  refine ⟨⟨o1.1, ?_⟩, h3, fun g e => Nat.lt_of_lt_of_le (o3 g e) h2⟩
  rcases o1.2 with hn | ⟨g, cap, cur, rfl, hbg, rest⟩
  · exact .inl hn
  · exact .inr ⟨g, cap, cur, rfl, Nat.le_trans h1 hbg, rest⟩
theorem OwnT.keep (h : OwnT E w lo hi v u s) (t : TurnIn a b w w') (d : hi ≤ a ∨ b ≤ lo) : OwnT E w' lo hi v u s := by
  obtain ⟨mid, h1, h2, h3, h4⟩ := h
  exact ⟨mid, h1, h2, h3.keep t (by omega), h4.keep t (by omega)⟩
theorem OwnT.wider {lo' hi' : Nat} (h : OwnT E w lo hi v u s) (h1 : lo' ≤ lo) (h2 : hi ≤ hi') (h3 : hi' ≤ w.heap.size) : OwnT E w lo' hi' v u s := by
  obtain ⟨mid, g1, g2, g3, g4⟩ := h
  exact ⟨mid, by omega, by omega, g3.widerS h1 (Nat.le_refl _) (by omega), g4.widerS (Nat.le_refl _) h2 h3⟩
theorem OwnT.isSlice (h : OwnT E w lo hi v u s) : ∃ A n c A' n' c', v = .slice A n c ∧ u = .slice A' n' c' := by
  obtain ⟨mid, _, _, h3, h4⟩ := h
  obtain ⟨A, n, c, e⟩ := h3.isSlice
  obtain ⟨A', n', c', e'⟩ := h4.isSlice
  exact ⟨_, _, _, _, _, _, e, e'⟩
theorem OwnT.seen1 (h : OwnT E w lo hi v u s) : Seen w v (strs s.1) := by
  obtain ⟨mid, _, _, h3, h4⟩ := h
  exact h3.seen
theorem OwnT.seen2 (h : OwnT E w lo hi v u s) : Seen w u (strs s.2) := by
  obtain ⟨mid, _, _, h3, h4⟩ := h
  exact h4.seen
theorem OwnT.nil (E : TypeId) (w : World) (lo : Nat) (h : lo ≤ w.heap.size) : OwnT E w lo w.heap.size (.slice none 0 0) (.slice none 0 0) ([], []) :=
  ⟨w.heap.size, h, Nat.le_refl _, OwnStrs.nil E w lo, OwnStrs.nil E w _⟩
theorem OwnT.of {w1 : World} (h : OwnStrs E w1 w.heap.size w1.heap.size v s.1) (k : OwnStrs E w' w1.heap.size w'.heap.size u s.2) (t : TurnIn 0 0 w1 w') (hw : w.heap.size ≤ w1.heap.size) : OwnT E w' w.heap.size w'.heap.size v u s :=
  ⟨w1.heap.size, hw, t.size, h.keep t (by omega), k⟩
end
def RetT (E : TypeId) (w : World) (s : Strp) (e : Ending) (w' : World) : Prop := ∃ v u, e = .returned (.agg #[v, u]) ∧ OwnT E w' w.heap.size w'.heap.size v u s ∧ TurnIn 0 0 w w'
def RetTOk (E : TypeId) (w : World) (s : Strp) (ok : Bool) (e : Ending) (w' : World) : Prop := ∃ v u, e = .returned (.tuple #[.agg #[v, u], .bool ok]) ∧ OwnT E w' w.heap.size w'.heap.size v u s ∧ TurnIn 0 0 w w'
def marksT (k n m : Nat) : Strp := (marksS k n, marksS (k + n) m)
def RetMarkT (E : TypeId) (w : World) (lo hi : Nat) (v u : Value) (k n m : Nat) (e : Ending) (w' : World) : Prop :=
  e = .returned (.int .i64 ((k + (n + m) : Nat) : Int)) ∧ OwnT E w' lo hi v u (marksT k n m) ∧ TurnIn lo hi w w'
def totT (s : Strp) : Nat := (s.1.length + sizM s.1) + (s.2.length + sizM s.2)
theorem totT_le (s : Strp) : s.1.length ≤ totT s ∧ s.2.length ≤ totT s := by unfold totT; omega
end G294
namespace Go.Proofs.YtbfchebnooanjaaDoor
open Go.RowKit G294

end Go.Proofs.YtbfchebnooanjaaDoor

/- The mathematics of SplitText and JoinShards. -/
namespace G294
open Go Go.RowKit
/-- the length of a part -/
def partSize (n k : Nat) : Nat := (n + k - 1) / k
def padded (s : List UInt8) (k : Nat) : List UInt8 := s ++ List.replicate (k * partSize s.length k - s.length) 0
def splitP (s : List UInt8) (k : Nat) (i : Nat) : List UInt8 := ((padded s k).drop (i * partSize s.length k)).take (partSize s.length k)
def splitL (s : List UInt8) (k : Nat) : List (List UInt8) := (List.range k).map (splitP s k)
def splitOk (s : List UInt8) (k : Int) : Bool := dataOk k && decide ((s.length : Int) ≤ k * 40)
def splitR (s : List UInt8) (k : Int) : List (List UInt8) := if splitOk s k then splitL s k.toNat else []
theorem partSize_mul (n k : Nat) (hk : 1 ≤ k) : n ≤ k * partSize n k := by
  unfold partSize
  have h := Nat.div_add_mod (n + k - 1) k
  have h2 := Nat.mod_lt (n + k - 1) (show 0 < k by omega)
  omega
theorem partSize_le (n k : Nat) (hk : 1 ≤ k) (h : n ≤ k * 40) : partSize n k ≤ 40 := by
  unfold partSize
  have h1 : n + k - 1 < 41 * k := by omega
  have := (Nat.div_lt_iff_lt_mul (show 0 < k by omega)).2 h1
  omega
theorem padded_length (s : List UInt8) (k : Nat) (hk : 1 ≤ k) : (padded s k).length = k * partSize s.length k := by
  have := partSize_mul s.length k hk
  simp [padded]; omega
theorem splitP_length (s : List UInt8) (k i : Nat) (hk : 1 ≤ k) (hi : i < k) : (splitP s k i).length = partSize s.length k := by
  unfold splitP
  rw [List.length_take, List.length_drop, padded_length s k hk]
  have : (i + 1) * partSize s.length k ≤ k * partSize s.length k := Nat.mul_le_mul_right _ hi
  rw [Nat.add_mul] at this
  omega
@[simp] theorem splitL_length (s : List UInt8) (k : Nat) : (splitL s k).length = k := by simp [splitL]
theorem splitL_succ (s : List UInt8) (k i : Nat) : (List.range (i + 1)).map (splitP s k) = (List.range i).map (splitP s k) ++ [splitP s k i] := by simp [List.range_succ]
theorem extract_str (l : List UInt8) (a b : Nat) : (str l).extract a b = str ((l.drop a).take (b - a)) := by
  apply ByteArray.ext
  rw [ByteArray.data_extract]
  apply Array.ext'
  simp [str]
end G294

/- Texts of one length: equallyLong and l3Texts; the mathematics of JoinShards. -/
namespace G294
open Go Go.RowKit
/-- texts of one length, at most 40 -/
def textsOk (L : List (List UInt8)) : Bool := L.all fun s => decide (s.length = (L.getD 0 []).length ∧ s.length ≤ 40)
theorem textsOk_iff (L : List (List UInt8)) : textsOk L = true ↔ ∀ i (h : i < L.length), L[i].length = (L.getD 0 []).length ∧ L[i].length ≤ 40 := by
  unfold textsOk
  rw [List.all_eq_true]
  constructor
  · intro h i hi
    simpa using h L[i] (List.getElem_mem hi)
  · intro h s hs
    obtain ⟨i, hi, rfl⟩ := List.getElem_of_mem hs
    simpa using h i hi
theorem textsOk_false {L : List (List UInt8)} {i : Nat} (hi : i < L.length) (h : ¬ (L[i].length = (L.getD 0 []).length ∧ L[i].length ≤ 40)) : textsOk L = false := by
  rw [Bool.eq_false_iff]
  intro ht
  exact h ((textsOk_iff L).1 ht i hi)
theorem flatten_const : ∀ (L : List (List UInt8)) (n : Nat), (∀ s ∈ L, s.length = n) → L.flatten.length = L.length * n
  | [], n, _ => by simp
  | a :: L, n, h => by
    have h1 := h a (by simp)
    have ih := flatten_const L n (fun s hs => h s (by simp [hs]))
    simp only [List.flatten_cons, List.length_append, List.length_cons, ih, h1]
    rw [Nat.add_mul]; omega
theorem textsOk_flatten {L : List (List UInt8)} (h : textsOk L = true) : L.flatten.length = L.length * (L.getD 0 []).length := by
  apply flatten_const
  intro s hs
  obtain ⟨i, hi, rfl⟩ := List.getElem_of_mem hs
  exact ((textsOk_iff L).1 h i hi).1
theorem textsOk_first {L : List (List UInt8)} (h : textsOk L = true) : (L.getD 0 []).length ≤ 40 := by
  cases L with
  | nil => simp
  | cons a L => have := ((textsOk_iff _).1 h 0 (by simp)).2; simpa using this
theorem flatten_take_succ (L : List (List UInt8)) (k : Nat) (hk : k < L.length) : (L.take (k + 1)).flatten = (L.take k).flatten ++ L[k] := by
  rw [List.take_succ_eq_append_getElem hk, List.flatten_append]; simp
theorem flatten_take_le (L : List (List UInt8)) (k : Nat) : (L.take k).flatten.length ≤ L.flatten.length := by
  have h : L.flatten = (L.take k).flatten ++ (L.drop k).flatten := by rw [← List.flatten_append, List.take_append_drop]
  rw [h]; simp
def joinOk (L : List (List UInt8)) (z : Int) : Bool := (dataOk L.length && textsOk L) && decide (0 ≤ z ∧ z ≤ L.flatten.length)
def joinR (L : List (List UInt8)) (z : Int) : List UInt8 := if joinOk L z then L.flatten.take z.toNat else []
end G294

/- Stripes: what is valid, what MakeStripe makes. -/
namespace G294
open Go Go.RowKit
def strpOk (s : Strp) : Bool := goodI s.1.length && (par4 s.2.length && textsOk (s.1 ++ s.2))
theorem goodI_b {n : Int} (h : goodI n = true) : 1 ≤ n ∧ n ≤ 16 := by simpa [goodI] using h
theorem par4_b {n : Int} (h : par4 n = true) : 1 ≤ n ∧ n ≤ 4 := by simpa [par4] using h
theorem strpOk_b {s : Strp} (h : strpOk s = true) : (1 ≤ s.1.length ∧ s.1.length ≤ 16) ∧ (1 ≤ s.2.length ∧ s.2.length ≤ 4) ∧ textsOk (s.1 ++ s.2) = true := by
  simp only [strpOk, Bool.and_eq_true] at h
  have h1 := goodI_b h.1
  have h2 := par4_b h.2.1
  exact ⟨by omega, by omega, h.2.2⟩
theorem textsOk_all {L : List (List UInt8)} : textsOk L = true ↔ ∀ t ∈ L, t.length = (L.getD 0 []).length ∧ t.length ≤ 40 := by
  simp only [textsOk, List.all_eq_true, decide_eq_true_eq]
theorem getD_head_append {A B : List (List UInt8)} (h : 1 ≤ A.length) : (A ++ B).getD 0 [] = A.getD 0 [] := by
  cases A with
  | nil => simp at h
  | cons a A => rfl
theorem strpOk_len {s : Strp} (h : strpOk s = true) : (∀ t ∈ s.1, t.length = (s.1.getD 0 []).length) ∧ (∀ t ∈ s.2, t.length = (s.1.getD 0 []).length) ∧ (s.1.getD 0 []).length ≤ 40 := by
  obtain ⟨h1, h2, h3⟩ := strpOk_b h
  rw [textsOk_all, getD_head_append h1.1] at h3
  refine ⟨fun t ht => (h3 t (List.mem_append_left _ ht)).1, fun t ht => (h3 t (List.mem_append_right _ ht)).1, ?_⟩
  have hm : s.1.getD 0 [] ∈ s.1 := by
    have : s.1.getD 0 [] = s.1[0]'(by omega) := by simp [List.getD, show 0 < s.1.length by omega]
    rw [this]; exact List.getElem_mem _
  exact (h3 _ (List.mem_append_left _ hm)).2
theorem strpOk_first {s : Strp} (h : strpOk s = true) : textsOk s.1 = true := by
  obtain ⟨h1, h2, h3⟩ := strpOk_len h
  exact textsOk_all.2 fun t ht => ⟨h1 t ht, by rw [h1 t ht]; exact h3⟩
theorem texts_same {T : List (List UInt8)} (h : textsOk T = true) : ∀ j, j < T.length → (T.getD j []).length = (T.getD 0 []).length := fun j hj => by
  have := ((textsOk_iff T).1 h j hj).1
  rw [← this]; simp [List.getD, hj]
theorem getD_mem {L : List (List UInt8)} {i : Nat} (h : i < L.length) : L.getD i [] ∈ L := by
  have : L.getD i [] = L[i] := by simp [List.getD, h]
  rw [this]; exact List.getElem_mem _
def mkOk (l : List (List UInt8)) (m : Int) : Bool := prmOk l.length m && textsOk l
def mkS (l : List (List UInt8)) (m : Nat) : Strp := (l, rowsT m l.length (l.getD 0 []).length prmF l)
def mkR (l : List (List UInt8)) (m : Int) : Strp := if mkOk l m = true then mkS l m.toNat else ([], [])
theorem mkR_no {l : List (List UInt8)} {m : Int} (h : mkOk l m = false) : mkR l m = ([], []) := if_neg (by rw [h]; simp)
theorem mkR_yes {l : List (List UInt8)} {m : Nat} (h : mkOk l m = true) : mkR l m = mkS l m := by unfold mkR; rw [if_pos h]; simp
theorem strp_make {s : Strp} (h : strpOk s = true) : mkOk s.1 s.2.length = true := by
  have h2 := strpOk_first h
  simp only [strpOk, Bool.and_eq_true] at h
  simp [mkOk, prmOk, h.1, h.2.1, h2]
/-- a stripe's parities are those of its data -/
def rightR (s : Strp) : Bool := if strpOk s = true then decide ((mkS s.1 s.2.length).2 = s.2) else false
theorem rightR_no {s : Strp} (h : strpOk s = false) : rightR s = false := if_neg (by rw [h]; simp)
theorem rightR_yes {s : Strp} (h : strpOk s = true) : rightR s = decide ((mkS s.1 s.2.length).2 = s.2) := if_pos h
theorem mkR_len (l : List (List UInt8)) (m : Int) : (mkR l m).1.length + (mkR l m).2.length ≤ 20 := by
  unfold mkR; split
  · rename_i h
    simp only [mkOk, prmOk, Bool.and_eq_true] at h
    have h1 := goodI_b h.1.1
    have h2 := par4_b h.1.2
    simp only [mkS, rowsT_length]; omega
  · simp
end G294

/- Chapter 9: the blocks that a seed chooses, sums of chosen texts, and steps of peeling (mathematics). -/
namespace G294
open Go Go.RowKit
def nxt (s : Nat) : Nat := (75 * s + 74) % 65537
theorem nxt_lt (s : Nat) : nxt s < 65537 := Nat.mod_lt _ (by omega)
def manyB (seed b : Nat) : Nat := min (nxt seed % 4 + 1) b
theorem manyB_le (seed b : Nat) : manyB seed b ≤ 4 ∧ manyB seed b ≤ b := by unfold manyB; omega
def setB (F : Nat → Bool) (k : Nat) : Nat → Bool := fun i => if i = k then true else F i
abbrev Cho := Nat × (Nat → Bool) × Nat
def choS (b : Nat) (c : Cho) : Cho := if c.2.1 (nxt c.1 % b) = true then (nxt c.1, c.2.1, c.2.2) else (nxt c.1, setB c.2.1 (nxt c.1 % b), c.2.2 + 1)
def chAt (seed b : Nat) : Nat → Cho
  | 0 => (nxt seed, fun _ => false, 0)
  | n + 1 => if (chAt seed b n).2.2 < manyB seed b then choS b (chAt seed b n) else chAt seed b n
theorem chAt_zero (seed b : Nat) : chAt seed b 0 = (nxt seed, fun _ => false, 0) := rfl
theorem chAt_skip {seed b n s got : Nat} {F : Nat → Bool} (h : chAt seed b n = (s, F, got)) (hg : got < manyB seed b) (hF : F (nxt s % b) = true) : chAt seed b (n + 1) = (nxt s, F, got) := by
  show (if (chAt seed b n).2.2 < manyB seed b then choS b (chAt seed b n) else chAt seed b n) = _
  rw [h, if_pos hg]
  show (if F (nxt s % b) = true then _ else _) = _
  rw [if_pos hF]
theorem chAt_take {seed b n s got : Nat} {F : Nat → Bool} (h : chAt seed b n = (s, F, got)) (hg : got < manyB seed b) (hF : F (nxt s % b) = false) : chAt seed b (n + 1) = (nxt s, setB F (nxt s % b), got + 1) := by
  show (if (chAt seed b n).2.2 < manyB seed b then choS b (chAt seed b n) else chAt seed b n) = _
  rw [h, if_pos hg]
  show (if F (nxt s % b) = true then _ else _) = _
  rw [if_neg (by rw [hF]; decide)]
theorem chAt_stop {seed b n : Nat} (h : ¬ (chAt seed b n).2.2 < manyB seed b) : ∀ d, chAt seed b (n + d) = chAt seed b n := by
  intro d
  induction d with
  | zero => rfl
  | succ d ih =>
    show (if (chAt seed b (n + d)).2.2 < manyB seed b then choS b (chAt seed b (n + d)) else chAt seed b (n + d)) = _
    rw [ih, if_neg h]
theorem chAt_bounds (seed b n : Nat) : (chAt seed b n).1 < 65537 ∧ (chAt seed b n).2.2 ≤ manyB seed b := by
  induction n with
  | zero => exact ⟨nxt_lt _, Nat.zero_le _⟩
  | succ n ih =>
    show (if (chAt seed b n).2.2 < manyB seed b then choS b (chAt seed b n) else chAt seed b n).1 < 65537 ∧ (if (chAt seed b n).2.2 < manyB seed b then choS b (chAt seed b n) else chAt seed b n).2.2 ≤ manyB seed b
    by_cases h : (chAt seed b n).2.2 < manyB seed b
    · rw [if_pos h]
      unfold choS
      by_cases h2 : (chAt seed b n).2.1 (nxt (chAt seed b n).1 % b) = true
      · rw [if_pos h2]; exact ⟨nxt_lt _, Nat.le_of_lt h⟩
      · rw [if_neg h2]; exact ⟨nxt_lt _, h⟩
    · rw [if_neg h]; exact ih
def inF (seed b : Nat) : Nat → Bool := (chAt seed b 200).2.1
theorem chAt_end {seed b n s got : Nat} {F : Nat → Bool} (h : chAt seed b n = (s, F, got)) (hn : n ≤ 200) (he : n = 200 ∨ ¬ got < manyB seed b) : inF seed b = F := by
  unfold inF
  rcases he with rfl | he
  · rw [h]
  · have hs := chAt_stop (seed := seed) (b := b) (n := n) (by rw [h]; exact he) (200 - n)
    rw [show n + (200 - n) = 200 by omega] at hs
    rw [hs, h]
/-- a bit as a byte -/
def bitU (x : Bool) : UInt8 := if x then 1 else 0
def rowB (F : Nat → Bool) : Nat → UInt8 := fun i => bitU (F i)
theorem rowB_set (b k : Nat) (F : Nat → Bool) : (mkRow b (rowB F)).set k 1 = mkRow b (rowB (setB F k)) := by
  rw [mkRow_set]
  refine mkRow_congr fun i hi => ?_
  unfold rowB setB
  by_cases h : i = k
  · rw [if_pos h, if_pos h]; rfl
  · rw [if_neg h, if_neg h]
def mkB (b : Nat) (F : Nat → Bool) : List Bool := (List.range b).map F
@[simp] theorem mkB_length (b : Nat) (F : Nat → Bool) : (mkB b F).length = b := by simp [mkB]
theorem mkB_set (b k : Nat) (F : Nat → Bool) : (mkB b F).set k true = mkB b (setB F k) := by
  apply List.ext_getElem?
  intro i
  by_cases hi : i < b
  · by_cases h : k = i
    · subst h; simp [mkB, setB, hi]
    · rw [List.getElem?_set_ne h]; simp [mkB, setB, hi, show ¬ i = k from fun e => h e.symm]
  · rw [List.getElem?_eq_none (by simp; omega), List.getElem?_eq_none (by simp; omega)]
theorem mkB_get (b : Nat) (F : Nat → Bool) (i : Nat) (h : i < b) : (mkB b F)[i]? = some (F i) := by simp [mkB, h]
theorem mkB_false (b : Nat) : mkB b (fun _ => false) = List.replicate b false := by
  apply List.ext_getElem?
  intro i
  by_cases hi : i < b
  · simp [mkB, hi]
  · rw [List.getElem?_eq_none (by simp; omega), List.getElem?_eq_none (by simp; omega)]
/-- the chosen ones below k -/
def blkK (F : Nat → Bool) (k : Nat) : List Nat := (List.range k).filter F
theorem blkK_yes {F : Nat → Bool} {k : Nat} (h : F k = true) : blkK F (k + 1) = blkK F k ++ [k] := by simp [blkK, List.range_succ, List.filter_append, h]
theorem blkK_no {F : Nat → Bool} {k : Nat} (h : F k = false) : blkK F (k + 1) = blkK F k := by simp [blkK, List.range_succ, List.filter_append, h]
theorem blkK_len (F : Nat → Bool) (k : Nat) : (blkK F k).length ≤ k := by
  have := List.length_filter_le F (List.range k)
  simpa [blkK] using this
theorem blkK_mem {F : Nat → Bool} {k i : Nat} : i ∈ blkK F k ↔ i < k ∧ F i = true := by simp [blkK]
def intL (l : List Nat) : List Int := l.map fun (i : Nat) => (i : Int)
@[simp] theorem intL_length (l : List Nat) : (intL l).length = l.length := by simp [intL]
theorem intL_append (l m : List Nat) : intL (l ++ m) = intL l ++ intL m := by simp [intL]
theorem intL_get (l : List Nat) (k : Nat) (h : k < l.length) : (ints (intL l))[k]? = some (.int .i64 ((l.getD k 0 : Nat) : Int)) := by simp [ints, intL, List.getD, h]
def seedOk (s : Int) : Bool := decide (0 ≤ s ∧ s ≤ 100000)
def bcOk (b : Int) : Bool := decide (1 ≤ b ∧ b ≤ 12)
theorem seedOk_b {s : Int} (h : seedOk s = true) : 0 ≤ s ∧ s ≤ 100000 := by simpa [seedOk] using h
theorem bcOk_b {s : Int} (h : bcOk s = true) : 1 ≤ s ∧ s ≤ 12 := by simpa [bcOk] using h
def blkN (seed b : Nat) : List Nat := blkK (inF seed b) b
def blkOk (s b : Int) : Bool := seedOk s && bcOk b
def blkR (s b : Int) : List Int := if blkOk s b = true then intL (blkN s.toNat b.toNat) else []
theorem blkR_len (s b : Int) : (blkR s b).length ≤ 12 := by
  unfold blkR
  by_cases h : blkOk s b = true
  · rw [if_pos h, intL_length]
    have := blkK_len (inF s.toNat b.toNat) b.toNat
    simp only [blkOk, Bool.and_eq_true] at h
    have := bcOk_b h.2
    unfold blkN
    omega
  · rw [if_neg h]; simp
/-- texts added to a text, one behind the other -/
def addN (B : List (List UInt8)) (ks : List Nat) (o : List UInt8) : List UInt8 := ks.foldl (fun o k => plusL o 1 (B.getD k [])) o
theorem addN_nil (B : List (List UInt8)) (o : List UInt8) : addN B [] o = o := rfl
theorem addN_snoc (B : List (List UInt8)) (ks : List Nat) (k : Nat) (o : List UInt8) : addN B (ks ++ [k]) o = plusL (addN B ks o) 1 (B.getD k []) := by simp [addN, List.foldl_append]
@[simp] theorem addN_length (B : List (List UInt8)) (ks : List Nat) (o : List UInt8) : (addN B ks o).length = o.length := by
  induction ks generalizing o with
  | nil => rfl
  | cons k ks ih => show (addN B ks (plusL o 1 (B.getD k []))).length = _; rw [ih]; simp
theorem plusL_getD (a : List UInt8) (f : UInt8) (b : List UInt8) (p : Nat) (h : p < a.length) : (plusL a f b).getD p 0 = a.getD p 0 ^^^ gmul f (b.getD p 0) := by unfold plusL; rw [mkRow_getD _ _ _ h]
theorem row_ext {a b : List UInt8} (hl : a.length = b.length) (h : ∀ p, p < a.length → a.getD p 0 = b.getD p 0) : a = b := by
  rw [eq_mkRow a, eq_mkRow b, hl]
  exact mkRow_congr fun p hp => h p (by omega)
theorem plusL_nil (a : List UInt8) : plusL a 1 [] = a := by
  refine row_ext (by simp) fun p hp => ?_
  rw [plusL_getD _ _ _ _ (by simpa using hp), gmul_one_left]
  simp
/-- the fold of the chosen is the row's product -/
theorem addN_comb (B : List (List UInt8)) (n : Nat) (F : Nat → Bool) (k : Nat) : addN B (blkK F k) (List.replicate n 0) = comb k n (rowB F) B := by
  induction k with
  | zero =>
    show List.replicate n 0 = mkRow n (combF 0 (rowB F) B)
    refine row_ext (by simp) fun p hp => ?_
    rw [mkRow_getD _ _ _ (by simpa using hp)]
    simp at hp
    simp [combF, sumK, List.getD, hp]
  | succ k ih =>
    cases h : F k
    · rw [blkK_no h, ih]
      refine mkRow_congr fun p hp => ?_
      rw [combF_succ]
      unfold rowB bitU
      rw [h]
      rw [show (if false = true then (1 : UInt8) else 0) = 0 from rfl, gmul_comm, gmul_zero]; simp
    · rw [blkK_yes h, addN_snoc, ih]
      refine row_ext (by simp [comb]) fun p hp => ?_
      have hp' : p < n := by simpa [comb] using hp
      rw [plusL_getD _ _ _ _ (by simpa [comb] using hp'), comb, comb, mkRow_getD _ _ _ hp', mkRow_getD _ _ _ hp', combF_succ]
      unfold rowB bitU
      rw [h]
      rfl
/-- a drop of blocks -/
def bksOk (L : List (List UInt8)) : Bool := bcOk L.length && textsOk L
def sumD (seed : Nat) (L : List (List UInt8)) : List UInt8 := comb L.length (L.getD 0 []).length (rowB (inF seed L.length)) L
def drpOk (L : List (List UInt8)) (s : Int) : Bool := seedOk s && bksOk L
def drpR (L : List (List UInt8)) (s : Int) : Sh := if drpOk L s = true then (s, sumD s.toNat L) else (0, [])
theorem sumD_len (seed : Nat) (L : List (List UInt8)) : (sumD seed L).length = (L.getD 0 []).length := by simp [sumD, comb]
theorem sumD_addN (seed : Nat) (L : List (List UInt8)) : addN L (blkN seed L.length) (List.replicate (L.getD 0 []).length 0) = sumD seed L := addN_comb L _ _ _
end G294
