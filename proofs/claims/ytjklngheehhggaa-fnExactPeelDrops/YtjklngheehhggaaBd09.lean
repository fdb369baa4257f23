/- Joined texts: JoinMath, StrpMath, ShardMem, DrpMath, DrpI, BolMem, BolWalks. -/
import Derived.Test.YtjklngheehhggaaBd08
import Derived.Test.YtjklngheehhggaaBd01
import Derived.Test.YtjklngheehhggaaBd02
import Derived.Test.YtjklngheehhggaaBd04
import Derived.Test.YtjklngheehhggaaBd00
import Derived.Test.YtjklngheehhggaaBd06
import Derived.Test.YtjklngheehhggaaBd03
set_option linter.unusedSimpArgs false
set_option linter.unusedVariables false
/- Texts of one length: equallyLong and l3Texts; the mathematics of JoinShards. -/
namespace G294
open Go Go.RowKit
/-- texts of one length, at most 40 -/
def textsOk (L : List (List UInt8)) : Bool := L.all fun s => decide (s.length = (L.getD 0 []).length ∧ s.length ≤ 40)
theorem textsOk_iff (L : List (List UInt8)) : textsOk L = true ↔ ∀ i (h : i < L.length), L[i].length = (L.getD 0 []).length ∧ L[i].length ≤ 40 := by
  unfold textsOk
  rw [List.all_eq_true]
  constructor
  · intro h i hi
    simpa using h L[i] (List.getElem_mem hi)
  · intro h s hs
    obtain ⟨i, hi, rfl⟩ := List.getElem_of_mem hs
    simpa using h i hi
theorem textsOk_false {L : List (List UInt8)} {i : Nat} (hi : i < L.length) (h : ¬ (L[i].length = (L.getD 0 []).length ∧ L[i].length ≤ 40)) : textsOk L = false := by
  rw [Bool.eq_false_iff]
  intro ht
  exact h ((textsOk_iff L).1 ht i hi)
theorem flatten_const : ∀ (L : List (List UInt8)) (n : Nat), (∀ s ∈ L, s.length = n) → L.flatten.length = L.length * n
  | [], n, _ => by simp
  | a :: L, n, h => by
    have h1 := h a (by simp)
    have ih := flatten_const L n (fun s hs => h s (by simp [hs]))
    simp only [List.flatten_cons, List.length_append, List.length_cons, ih, h1]
    rw [Nat.add_mul]; omega
theorem textsOk_flatten {L : List (List UInt8)} (h : textsOk L = true) : L.flatten.length = L.length * (L.getD 0 []).length := by
  apply flatten_const
  intro s hs
  obtain ⟨i, hi, rfl⟩ := List.getElem_of_mem hs
  exact ((textsOk_iff L).1 h i hi).1
theorem textsOk_first {L : List (List UInt8)} (h : textsOk L = true) : (L.getD 0 []).length ≤ 40 := by
  cases L with
  | nil => simp
  | cons a L => have := ((textsOk_iff _).1 h 0 (by simp)).2; simpa using this
theorem flatten_take_succ (L : List (List UInt8)) (k : Nat) (hk : k < L.length) : (L.take (k + 1)).flatten = (L.take k).flatten ++ L[k] := by
  rw [List.take_succ_eq_append_getElem hk, List.flatten_append]; simp
theorem flatten_take_le (L : List (List UInt8)) (k : Nat) : (L.take k).flatten.length ≤ L.flatten.length := by
  have h : L.flatten = (L.take k).flatten ++ (L.drop k).flatten := by rw [← List.flatten_append, List.take_append_drop]
  rw [h]; simp
def joinOk (L : List (List UInt8)) (z : Int) : Bool := (dataOk L.length && textsOk L) && decide (0 ≤ z ∧ z ≤ L.flatten.length)
def joinR (L : List (List UInt8)) (z : Int) : List UInt8 := if joinOk L z then L.flatten.take z.toNat else []
end G294

/- Stripes: what is valid, what MakeStripe makes. -/
namespace G294
open Go Go.RowKit
def strpOk (s : Strp) : Bool := goodI s.1.length && (par4 s.2.length && textsOk (s.1 ++ s.2))
theorem goodI_b {n : Int} (h : goodI n = true) : 1 ≤ n ∧ n ≤ 16 := by simpa [goodI] using h
theorem par4_b {n : Int} (h : par4 n = true) : 1 ≤ n ∧ n ≤ 4 := by simpa [par4] using h
theorem strpOk_b {s : Strp} (h : strpOk s = true) : (1 ≤ s.1.length ∧ s.1.length ≤ 16) ∧ (1 ≤ s.2.length ∧ s.2.length ≤ 4) ∧ textsOk (s.1 ++ s.2) = true := by
  simp only [strpOk, Bool.and_eq_true] at h
  have h1 := goodI_b h.1
  have h2 := par4_b h.2.1
  exact ⟨by omega, by omega, h.2.2⟩
theorem textsOk_all {L : List (List UInt8)} : textsOk L = true ↔ ∀ t ∈ L, t.length = (L.getD 0 []).length ∧ t.length ≤ 40 := by
  simp only [textsOk, List.all_eq_true, decide_eq_true_eq]
theorem getD_head_append {A B : List (List UInt8)} (h : 1 ≤ A.length) : (A ++ B).getD 0 [] = A.getD 0 [] := by
  cases A with
  | nil => simp at h
  | cons a A => rfl
theorem strpOk_len {s : Strp} (h : strpOk s = true) : (∀ t ∈ s.1, t.length = (s.1.getD 0 []).length) ∧ (∀ t ∈ s.2, t.length = (s.1.getD 0 []).length) ∧ (s.1.getD 0 []).length ≤ 40 := by
  obtain ⟨h1, h2, h3⟩ := strpOk_b h
  rw [textsOk_all, getD_head_append h1.1] at h3
  refine ⟨fun t ht => (h3 t (List.mem_append_left _ ht)).1, fun t ht => (h3 t (List.mem_append_right _ ht)).1, ?_⟩
  have hm : s.1.getD 0 [] ∈ s.1 := by
    have : s.1.getD 0 [] = s.1[0]'(by omega) := by simp [List.getD, show 0 < s.1.length by omega]
    rw [this]; exact List.getElem_mem _
  exact (h3 _ (List.mem_append_left _ hm)).2
theorem strpOk_first {s : Strp} (h : strpOk s = true) : textsOk s.1 = true := by
  obtain ⟨h1, h2, h3⟩ := strpOk_len h
  exact textsOk_all.2 fun t ht => ⟨h1 t ht, by rw [h1 t ht]; exact h3⟩
theorem texts_same {T : List (List UInt8)} (h : textsOk T = true) : ∀ j, j < T.length → (T.getD j []).length = (T.getD 0 []).length := fun j hj => by
  have := ((textsOk_iff T).1 h j hj).1
  rw [← this]; simp [List.getD, hj]
theorem getD_mem {L : List (List UInt8)} {i : Nat} (h : i < L.length) : L.getD i [] ∈ L := by
  have : L.getD i [] = L[i] := by simp [List.getD, h]
  rw [this]; exact List.getElem_mem _
def mkOk (l : List (List UInt8)) (m : Int) : Bool := prmOk l.length m && textsOk l
def mkS (l : List (List UInt8)) (m : Nat) : Strp := (l, rowsT m l.length (l.getD 0 []).length prmF l)
def mkR (l : List (List UInt8)) (m : Int) : Strp := if mkOk l m = true then mkS l m.toNat else ([], [])
theorem mkR_no {l : List (List UInt8)} {m : Int} (h : mkOk l m = false) : mkR l m = ([], []) := if_neg (by rw [h]; simp)
theorem mkR_yes {l : List (List UInt8)} {m : Nat} (h : mkOk l m = true) : mkR l m = mkS l m := by unfold mkR; rw [if_pos h]; simp
theorem strp_make {s : Strp} (h : strpOk s = true) : mkOk s.1 s.2.length = true := by
  have h2 := strpOk_first h
  simp only [strpOk, Bool.and_eq_true] at h
  simp [mkOk, prmOk, h.1, h.2.1, h2]
/-- a stripe's parities are those of its data -/
def rightR (s : Strp) : Bool := if strpOk s = true then decide ((mkS s.1 s.2.length).2 = s.2) else false
theorem rightR_no {s : Strp} (h : strpOk s = false) : rightR s = false := if_neg (by rw [h]; simp)
theorem rightR_yes {s : Strp} (h : strpOk s = true) : rightR s = decide ((mkS s.1 s.2.length).2 = s.2) := if_pos h
theorem mkR_len (l : List (List UInt8)) (m : Int) : (mkR l m).1.length + (mkR l m).2.length ≤ 20 := by
  unfold mkR; split
  · rename_i h
    simp only [mkOk, prmOk, Bool.and_eq_true] at h
    have h1 := goodI_b h.1.1
    have h2 := par4_b h.1.2
    simp only [mkS, rowsT_length]; omega
  · simp
end G294

/- Shards in memory: a slice of structs of an int and a string that is seen, or of the call's own; what a mark writes. -/
namespace G294
open Go Go.RowKit
abbrev Sh := Int × List UInt8
/-- shards as the cells of memory -/
def shs : List Sh → List Value
  | [] => []
  | s :: l => .int .i64 s.1 :: .string (str s.2) :: shs l
@[simp] theorem shs_length (l : List Sh) : (shs l).length = l.length * 2 := by
  induction l with
  | nil => rfl
  | cons s l ih => simp [shs, ih]; omega
theorem shs_append (l m : List Sh) : shs (l ++ m) = shs l ++ shs m := by
  induction l with
  | nil => rfl
  | cons s l ih => simp [shs, ih]
theorem shs_no (l : List Sh) (i : Nat) (h : i < l.length) : (shs l)[i * 2]? = some (.int .i64 l[i].1) := by
  induction l generalizing i with
  | nil => simp at h
  | cons s l ih =>
    cases i with
    | zero => rfl
    | succ i => rw [show (i + 1) * 2 = i * 2 + 1 + 1 by omega]; simpa [shs] using ih i (by simpa using h)
theorem shs_data (l : List Sh) (i : Nat) (h : i < l.length) : (shs l)[i * 2 + 1]? = some (.string (str l[i].2)) := by
  induction l generalizing i with
  | nil => simp at h
  | cons s l ih =>
    cases i with
    | zero => rfl
    | succ i => rw [show (i + 1) * 2 + 1 = i * 2 + 1 + 1 + 1 by omega]; simpa [shs] using ih i (by simpa using h)
theorem shs_oneC (l : List Sh) : ∀ y, y ∈ shs l → y.oneCell' = true := by
  induction l with
  | nil => intro y hy; simp [shs] at hy
  | cons s l ih =>
    intro y hy
    simp only [shs, List.mem_cons] at hy
    rcases hy with rfl | rfl | hy
    · rfl
    · rfl
    · exact ih y hy
theorem shs_set (l : List Sh) (i : Nat) (x : Sh) (h : i < l.length) : ((shs l).set (i * 2) (.int .i64 x.1)).set (i * 2 + 1) (.string (str x.2)) = shs (l.set i x) := by
  induction l generalizing i with
  | nil => simp at h
  | cons s l ih =>
    cases i with
    | zero => rfl
    | succ i =>
      rw [show (i + 1) * 2 = i * 2 + 1 + 1 by omega]
      simp only [shs, List.set_cons_succ, ih i (by simpa using h)]
/-- the value v is seen in w as the shards l -/
def SeenH (w : World) (v : Value) (l : List Sh) : Prop :=
  ∃ A c, v = .slice A l.length c ∧ l.length ≤ c ∧ c ≤ maxLen ∧ (0 < l.length → ∃ b off, A = some ⟨b, off, none⟩ ∧ b < w.heap.size ∧ ∀ i s, l[i]? = some s → w.cell? ⟨b, off + i * 2, none⟩ = some (.int .i64 s.1) ∧ w.cell? ⟨b, off + i * 2 + 1, none⟩ = some (.string (str s.2)))
theorem at_lt {α : Type} {l : List α} {n k : Nat} (hn : l.length = n) (h : k < n) : ∃ s, l[k]? = some s := ⟨_, List.getElem?_eq_getElem (by omega)⟩
/-- a row of shards of the call's own, its block from lo to hi -/
def OwnSh (E : TypeId) (w : World) (lo hi : Nat) (v : Value) (l : List Sh) : Prop := w.ownsRow lo E 2 v l.length (shs l) ∧ hi ≤ w.heap.size ∧ ∀ g, v.ownBlock = some g → g < hi
section
variable {w w' : World} {lo hi a b : Nat} {v : Value} {l : List Sh} {E : TypeId}
theorem SeenH.below (h : SeenH w v l) (hb : Below w.heap.size w w') : SeenH w' v l := by
  obtain ⟨A, c, rfl, h1, h2, h3⟩ := h
  refine ⟨A, c, rfl, h1, h2, fun hn => ?_⟩
  obtain ⟨b, off, rfl, hb', hc⟩ := h3 hn
  exact ⟨b, off, rfl, Nat.lt_of_lt_of_le hb' hb.size, fun i s hi => ⟨(hb.cell (p := ⟨b, off + i * 2, none⟩) hb').trans (hc i s hi).1, (hb.cell (p := ⟨b, off + i * 2 + 1, none⟩) hb').trans (hc i s hi).2⟩⟩
theorem SeenH.len (h : SeenH w v l) : ∃ A c, v = .slice A l.length c := by
  obtain ⟨A, c, h, _⟩ := h
  exact ⟨A, c, h⟩
theorem SeenH.nil (w : World) : SeenH w (.slice none 0 0) [] := ⟨none, 0, rfl, Nat.le_refl _, Nat.zero_le _, fun h => by simp at h⟩
theorem owns_turn2 {size n : Nat} {xs : List Value} (h : w.ownsRow lo E size v n xs) (h2 : ∀ g, v.ownBlock = some g → g < hi) (t : TurnIn a b w w') (d : hi ≤ a ∨ b ≤ lo) : w'.ownsRow lo E size v n xs := by
  refine ⟨h.1, ?_⟩
  rcases h.2 with hn | ⟨g, cap, cur, rfl, hbg, hg, rest⟩
  · exact .inl hn
  · refine .inr ⟨g, cap, cur, rfl, hbg, ?_, rest⟩
    have := h2 g rfl
    rw [t.block g (Array.getElem?_eq_some_iff.1 hg).1 (by omega)]
    exact hg
theorem OwnSh.keep (h : OwnSh E w lo hi v l) (t : TurnIn a b w w') (d : hi ≤ a ∨ b ≤ lo) : OwnSh E w' lo hi v l :=
  ⟨owns_turn2 h.1 h.2.2 t d, Nat.le_trans h.2.1 t.size, h.2.2⟩
theorem OwnSh.seen (h : OwnSh E w lo hi v l) : SeenH w v l := by
  obtain ⟨h1, h2, h3⟩ := h
  rcases h1.2 with ⟨rfl, hn⟩ | ⟨g, cap, cur, rfl, hb, hg, hnc, hcm, hcs, ht⟩
  · have : l = [] := List.eq_nil_of_length_eq_zero hn
    subst this
    exact SeenH.nil w
  · refine ⟨_, cap, rfl, hnc, hcm, fun hn => ⟨g, 0, rfl, (Array.getElem?_eq_some_iff.1 hg).1, fun i s hs => ?_⟩⟩
    obtain ⟨hi, rfl⟩ := List.getElem?_eq_some_iff.1 hs
    have e1 := h1.cells (g := g) rfl (i * 2) _ (shs_no l i hi)
    have e2 := h1.cells (g := g) rfl (i * 2 + 1) _ (shs_data l i hi)
    rw [Addr.add_lit, Nat.zero_add] at e1 e2
    exact ⟨by rw [Nat.zero_add]; exact e1, by rw [Nat.zero_add]; exact e2⟩
theorem OwnSh.nil (E : TypeId) (w : World) (lo : Nat) : OwnSh E w lo w.heap.size (.slice none 0 0) [] := ⟨World.ownsRow_nil _ _ _ _, Nat.le_refl _, fun g h => by simp [Value.ownBlock] at h⟩
theorem OwnSh.of_made (h : w'.ownsRow w.heap.size E 2 v l.length (shs l)) : OwnSh E w' w.heap.size w'.heap.size v l := ⟨h, Nat.le_refl _, fun g hg => (h.lt g hg).2⟩
end
def RetShs (E : TypeId) (w : World) (l : List Sh) (e : Ending) (w' : World) : Prop := ∃ v, e = .returned v ∧ OwnSh E w' w.heap.size w'.heap.size v l ∧ TurnIn 0 0 w w'
def RetShsOk (E : TypeId) (w : World) (l : List Sh) (ok : Bool) (e : Ending) (w' : World) : Prop := ∃ v, e = .returned (.tuple #[v, .bool ok]) ∧ OwnSh E w' w.heap.size w'.heap.size v l ∧ TurnIn 0 0 w w'
/-- the shards that marks write -/
def marksH (k n : Nat) : List Sh := (List.range n).map fun i => (((k + i * 2 : Nat) : Int), mtext (k + i * 2 + 1))
@[simp] theorem marksH_length (k n : Nat) : (marksH k n).length = n := by simp [marksH]
theorem marksH_get (k n i : Nat) (h : i < (marksH k n).length) : (marksH k n)[i] = (((k + i * 2 : Nat) : Int), mtext (k + i * 2 + 1)) := by simp [marksH]
def RetMarkH (E : TypeId) (w : World) (lo hi : Nat) (v : Value) (k n : Nat) (e : Ending) (w' : World) : Prop :=
  e = .returned (.int .i64 ((k + n * 2 : Nat) : Int)) ∧ OwnSh E w' lo hi v (marksH k n) ∧ TurnIn lo hi w w'
end G294

/- Chapter 9: the blocks that a seed chooses, sums of chosen texts, and steps of peeling (mathematics). -/
namespace G294
open Go Go.RowKit
def nxt (s : Nat) : Nat := (75 * s + 74) % 65537
theorem nxt_lt (s : Nat) : nxt s < 65537 := Nat.mod_lt _ (by omega)
def manyB (seed b : Nat) : Nat := min (nxt seed % 4 + 1) b
theorem manyB_le (seed b : Nat) : manyB seed b ≤ 4 ∧ manyB seed b ≤ b := by unfold manyB; omega
def setB (F : Nat → Bool) (k : Nat) : Nat → Bool := fun i => if i = k then true else F i
abbrev Cho := Nat × (Nat → Bool) × Nat
def choS (b : Nat) (c : Cho) : Cho := if c.2.1 (nxt c.1 % b) = true then (nxt c.1, c.2.1, c.2.2) else (nxt c.1, setB c.2.1 (nxt c.1 % b), c.2.2 + 1)
def chAt (seed b : Nat) : Nat → Cho
  | 0 => (nxt seed, fun _ => false, 0)
  | n + 1 => if (chAt seed b n).2.2 < manyB seed b then choS b (chAt seed b n) else chAt seed b n
theorem chAt_zero (seed b : Nat) : chAt seed b 0 = (nxt seed, fun _ => false, 0) := rfl
theorem chAt_skip {seed b n s got : Nat} {F : Nat → Bool} (h : chAt seed b n = (s, F, got)) (hg : got < manyB seed b) (hF : F (nxt s % b) = true) : chAt seed b (n + 1) = (nxt s, F, got) := by
  show (if (chAt seed b n).2.2 < manyB seed b then choS b (chAt seed b n) else chAt seed b n) = _
  rw [h, if_pos hg]
  show (if F (nxt s % b) = true then _ else _) = _
  rw [if_pos hF]
theorem chAt_take {seed b n s got : Nat} {F : Nat → Bool} (h : chAt seed b n = (s, F, got)) (hg : got < manyB seed b) (hF : F (nxt s % b) = false) : chAt seed b (n + 1) = (nxt s, setB F (nxt s % b), got + 1) := by
  show (if (chAt seed b n).2.2 < manyB seed b then choS b (chAt seed b n) else chAt seed b n) = _
  rw [h, if_pos hg]
  show (if F (nxt s % b) = true then _ else _) = _
  rw [if_neg (by rw [hF]; decide)]
theorem chAt_stop {seed b n : Nat} (h : ¬ (chAt seed b n).2.2 < manyB seed b) : ∀ d, chAt seed b (n + d) = chAt seed b n := by
  intro d
  induction d with
  | zero => rfl
  | succ d ih =>
    show (if (chAt seed b (n + d)).2.2 < manyB seed b then choS b (chAt seed b (n + d)) else chAt seed b (n + d)) = _
    rw [ih, if_neg h]
theorem chAt_bounds (seed b n : Nat) : (chAt seed b n).1 < 65537 ∧ (chAt seed b n).2.2 ≤ manyB seed b := by
  induction n with
  | zero => exact ⟨nxt_lt _, Nat.zero_le _⟩
  | succ n ih =>
    show (if (chAt seed b n).2.2 < manyB seed b then choS b (chAt seed b n) else chAt seed b n).1 < 65537 ∧ (if (chAt seed b n).2.2 < manyB seed b then choS b (chAt seed b n) else chAt seed b n).2.2 ≤ manyB seed b
    by_cases h : (chAt seed b n).2.2 < manyB seed b
    · rw [if_pos h]
      unfold choS
      by_cases h2 : (chAt seed b n).2.1 (nxt (chAt seed b n).1 % b) = true
      · rw [if_pos h2]; exact ⟨nxt_lt _, Nat.le_of_lt h⟩
      · rw [if_neg h2]; exact ⟨nxt_lt _, h⟩
    · rw [if_neg h]; exact ih
def inF (seed b : Nat) : Nat → Bool := (chAt seed b 200).2.1
theorem chAt_end {seed b n s got : Nat} {F : Nat → Bool} (h : chAt seed b n = (s, F, got)) (hn : n ≤ 200) (he : n = 200 ∨ ¬ got < manyB seed b) : inF seed b = F := by
  unfold inF
  rcases he with rfl | he
  · rw [h]
  · have hs := chAt_stop (seed := seed) (b := b) (n := n) (by rw [h]; exact he) (200 - n)
    rw [show n + (200 - n) = 200 by omega] at hs
    rw [hs, h]
/-- a bit as a byte -/
def bitU (x : Bool) : UInt8 := if x then 1 else 0
def rowB (F : Nat → Bool) : Nat → UInt8 := fun i => bitU (F i)
theorem rowB_set (b k : Nat) (F : Nat → Bool) : (mkRow b (rowB F)).set k 1 = mkRow b (rowB (setB F k)) := by
  rw [mkRow_set]
  refine mkRow_congr fun i hi => ?_
  unfold rowB setB
  by_cases h : i = k
  · rw [if_pos h, if_pos h]; rfl
  · rw [if_neg h, if_neg h]
def mkB (b : Nat) (F : Nat → Bool) : List Bool := (List.range b).map F
@[simp] theorem mkB_length (b : Nat) (F : Nat → Bool) : (mkB b F).length = b := by simp [mkB]
theorem mkB_set (b k : Nat) (F : Nat → Bool) : (mkB b F).set k true = mkB b (setB F k) := by
  apply List.ext_getElem?
  intro i
  by_cases hi : i < b
  · by_cases h : k = i
    · subst h; simp [mkB, setB, hi]
    · rw [List.getElem?_set_ne h]; simp [mkB, setB, hi, show ¬ i = k from fun e => h e.symm]
  · rw [List.getElem?_eq_none (by simp; omega), List.getElem?_eq_none (by simp; omega)]
theorem mkB_get (b : Nat) (F : Nat → Bool) (i : Nat) (h : i < b) : (mkB b F)[i]? = some (F i) := by simp [mkB, h]
theorem mkB_false (b : Nat) : mkB b (fun _ => false) = List.replicate b false := by
  apply List.ext_getElem?
  intro i
  by_cases hi : i < b
  · simp [mkB, hi]
  · rw [List.getElem?_eq_none (by simp; omega), List.getElem?_eq_none (by simp; omega)]
/-- the chosen ones below k -/
def blkK (F : Nat → Bool) (k : Nat) : List Nat := (List.range k).filter F
theorem blkK_yes {F : Nat → Bool} {k : Nat} (h : F k = true) : blkK F (k + 1) = blkK F k ++ [k] := by simp [blkK, List.range_succ, List.filter_append, h]
theorem blkK_no {F : Nat → Bool} {k : Nat} (h : F k = false) : blkK F (k + 1) = blkK F k := by simp [blkK, List.range_succ, List.filter_append, h]
theorem blkK_len (F : Nat → Bool) (k : Nat) : (blkK F k).length ≤ k := by
  have := List.length_filter_le F (List.range k)
  simpa [blkK] using this
theorem blkK_mem {F : Nat → Bool} {k i : Nat} : i ∈ blkK F k ↔ i < k ∧ F i = true := by simp [blkK]
def intL (l : List Nat) : List Int := l.map fun (i : Nat) => (i : Int)
@[simp] theorem intL_length (l : List Nat) : (intL l).length = l.length := by simp [intL]
theorem intL_append (l m : List Nat) : intL (l ++ m) = intL l ++ intL m := by simp [intL]
theorem intL_get (l : List Nat) (k : Nat) (h : k < l.length) : (ints (intL l))[k]? = some (.int .i64 ((l.getD k 0 : Nat) : Int)) := by simp [ints, intL, List.getD, h]
def seedOk (s : Int) : Bool := decide (0 ≤ s ∧ s ≤ 100000)
def bcOk (b : Int) : Bool := decide (1 ≤ b ∧ b ≤ 12)
theorem seedOk_b {s : Int} (h : seedOk s = true) : 0 ≤ s ∧ s ≤ 100000 := by simpa [seedOk] using h
theorem bcOk_b {s : Int} (h : bcOk s = true) : 1 ≤ s ∧ s ≤ 12 := by simpa [bcOk] using h
def blkN (seed b : Nat) : List Nat := blkK (inF seed b) b
def blkOk (s b : Int) : Bool := seedOk s && bcOk b
def blkR (s b : Int) : List Int := if blkOk s b = true then intL (blkN s.toNat b.toNat) else []
theorem blkR_len (s b : Int) : (blkR s b).length ≤ 12 := by
  unfold blkR
  by_cases h : blkOk s b = true
  · rw [if_pos h, intL_length]
    have := blkK_len (inF s.toNat b.toNat) b.toNat
    simp only [blkOk, Bool.and_eq_true] at h
    have := bcOk_b h.2
    unfold blkN
    omega
  · rw [if_neg h]; simp
/-- texts added to a text, one behind the other -/
def addN (B : List (List UInt8)) (ks : List Nat) (o : List UInt8) : List UInt8 := ks.foldl (fun o k => plusL o 1 (B.getD k [])) o
theorem addN_nil (B : List (List UInt8)) (o : List UInt8) : addN B [] o = o := rfl
theorem addN_snoc (B : List (List UInt8)) (ks : List Nat) (k : Nat) (o : List UInt8) : addN B (ks ++ [k]) o = plusL (addN B ks o) 1 (B.getD k []) := by simp [addN, List.foldl_append]
@[simp] theorem addN_length (B : List (List UInt8)) (ks : List Nat) (o : List UInt8) : (addN B ks o).length = o.length := by
  induction ks generalizing o with
  | nil => rfl
  | cons k ks ih => show (addN B ks (plusL o 1 (B.getD k []))).length = _; rw [ih]; simp
theorem plusL_getD (a : List UInt8) (f : UInt8) (b : List UInt8) (p : Nat) (h : p < a.length) : (plusL a f b).getD p 0 = a.getD p 0 ^^^ gmul f (b.getD p 0) := by unfold plusL; rw [mkRow_getD _ _ _ h]
theorem row_ext {a b : List UInt8} (hl : a.length = b.length) (h : ∀ p, p < a.length → a.getD p 0 = b.getD p 0) : a = b := by
  rw [eq_mkRow a, eq_mkRow b, hl]
  exact mkRow_congr fun p hp => h p (by omega)
theorem plusL_nil (a : List UInt8) : plusL a 1 [] = a := by
  refine row_ext (by simp) fun p hp => ?_
  rw [plusL_getD _ _ _ _ (by simpa using hp), gmul_one_left]
  simp
/-- the fold of the chosen is the row's product -/
theorem addN_comb (B : List (List UInt8)) (n : Nat) (F : Nat → Bool) (k : Nat) : addN B (blkK F k) (List.replicate n 0) = comb k n (rowB F) B := by
  induction k with
  | zero =>
    show List.replicate n 0 = mkRow n (combF 0 (rowB F) B)
    refine row_ext (by simp) fun p hp => ?_
    rw [mkRow_getD _ _ _ (by simpa using hp)]
    simp at hp
    simp [combF, sumK, List.getD, hp]
  | succ k ih =>
    cases h : F k
    · rw [blkK_no h, ih]
      refine mkRow_congr fun p hp => ?_
      rw [combF_succ]
      unfold rowB bitU
      rw [h]
      rw [show (if false = true then (1 : UInt8) else 0) = 0 from rfl, gmul_comm, gmul_zero]; simp
    · rw [blkK_yes h, addN_snoc, ih]
      refine row_ext (by simp [comb]) fun p hp => ?_
      have hp' : p < n := by simpa [comb] using hp
      rw [plusL_getD _ _ _ _ (by simpa [comb] using hp'), comb, comb, mkRow_getD _ _ _ hp', mkRow_getD _ _ _ hp', combF_succ]
      unfold rowB bitU
      rw [h]
      rfl
/-- a drop of blocks -/
def bksOk (L : List (List UInt8)) : Bool := bcOk L.length && textsOk L
def sumD (seed : Nat) (L : List (List UInt8)) : List UInt8 := comb L.length (L.getD 0 []).length (rowB (inF seed L.length)) L
def drpOk (L : List (List UInt8)) (s : Int) : Bool := seedOk s && bksOk L
def drpR (L : List (List UInt8)) (s : Int) : Sh := if drpOk L s = true then (s, sumD s.toNat L) else (0, [])
theorem sumD_len (seed : Nat) (L : List (List UInt8)) : (sumD seed L).length = (L.getD 0 []).length := by simp [sumD, comb]
theorem sumD_addN (seed : Nat) (L : List (List UInt8)) : addN L (blkN seed L.length) (List.replicate (L.getD 0 []).length 0) = sumD seed L := addN_comb L _ _ _
end G294

/- Chapter 9: which blocks a seed chooses: the program's. -/
namespace G294
open Go Go.RowKit
theorem rem_nat (a b : Nat) : ((a : Nat) : Int).tmod ((b : Nat) : Int) = ((a % b : Nat) : Int) := by
  rw [Int.tmod_eq_emod_of_nonneg (by omega)]; exact (Int.natCast_emod a b).symm
theorem bitU_eq (x : Bool) : (((bitU x).toNat : Int) == 0) = !x := by cases x <;> rfl
theorem bitU_one (x : Bool) : (((bitU x).toNat : Int) == 1) = x := by cases x <;> rfl
end G294
namespace Go.Proofs.Ytjklngheehhggaa
open Go.RowKit G294

set_option maxHeartbeats 400000 in
theorem goodSeed_any (n : Int) (w : World) : Calls Try.prog 30 #[.int .i64 n] w fun e w' => e = .returned (.bool (seedOk n)) ∧ w = w' := by
  by_cases h1 : 0 ≤ n
  · have hd : decide (0 ≤ n) = true := by simpa using h1
    by_cases h2 : n ≤ 100000
    · have HV : Hid (seedOk n = true) := by show seedOk n = true; simp [seedOk, h1, h2]
      go_enter Try.func30, Try.ntmps30
      go_wp2_with fail
      go_ret
      exact ⟨by rw [HV.out]; simp [h2], rfl⟩
    · have HV : Hid (seedOk n = false) := by show seedOk n = false; simp [seedOk, h2]
      go_enter Try.func30, Try.ntmps30
      go_wp2_with fail
      go_ret
      exact ⟨by rw [HV.out]; simp [h2], rfl⟩
  · have hd : decide (0 ≤ n) = false := by simpa using h1
    have HV : Hid (seedOk n = false) := by show seedOk n = false; simp [seedOk, h1]
    go_enter Try.func30, Try.ntmps30
    go_wp2_with fail
    go_ret
    exact ⟨by rw [HV.out]; rfl, rfl⟩

set_option maxHeartbeats 400000 in
theorem goodBlockCount_any (n : Int) (w : World) : Calls Try.prog 31 #[.int .i64 n] w fun e w' => e = .returned (.bool (bcOk n)) ∧ w = w' := by
  by_cases h1 : 1 ≤ n
  · have hd : decide (1 ≤ n) = true := by simpa using h1
    by_cases h2 : n ≤ 12
    · have HV : Hid (bcOk n = true) := by show bcOk n = true; simp [bcOk, h1, h2]
      go_enter Try.func31, Try.ntmps31
      go_wp2_with fail
      go_ret
      exact ⟨by rw [HV.out]; simp [h2], rfl⟩
    · have HV : Hid (bcOk n = false) := by show bcOk n = false; simp [bcOk, h2]
      go_enter Try.func31, Try.ntmps31
      go_wp2_with fail
      go_ret
      exact ⟨by rw [HV.out]; simp [h2], rfl⟩
  · have hd : decide (1 ≤ n) = false := by simpa using h1
    have HV : Hid (bcOk n = false) := by show bcOk n = false; simp [bcOk, h1]
    go_enter Try.func31, Try.ntmps31
    go_wp2_with fail
    go_ret
    exact ⟨by rw [HV.out]; rfl, rfl⟩

set_option maxHeartbeats 400000 in
theorem nextNumber_any (s : Nat) (w : World) (hs : s ≤ 100000) : Calls Try.prog 58 #[.int .i64 (s : Int)] w fun e w' => e = .returned (.int .i64 ((nxt s : Nat) : Int)) ∧ w = w' := by
  obtain ⟨z, hz⟩ : ∃ z, z = 75 * s := ⟨_, rfl⟩
  have hzb : z ≤ 7500000 := by omega
  have hm : (75 : Int) * (s : Int) = (z : Int) := by rw [hz]; simp
  have hr : ((z : Int) + 74).tmod 65537 = ((nxt s : Nat) : Int) := by
    have e := rem_nat (z + 74) 65537
    have e2 : nxt s = (z + 74) % 65537 := by rw [hz]; rfl
    rw [e2]; exact e
  have hn := nxt_lt s
  generalize nxt s = t at *
  clear hz
  go_enter Try.func58, Try.ntmps58
  go_wp2_with fail
  go_ret
  exact ⟨rfl, rfl⟩

set_option maxRecDepth 100000 in
set_option maxHeartbeats 2000000 in
theorem dropRow_own (s b : Nat) (w : World) (hs : s ≤ 100000) (hb1 : 1 ≤ b) (hb2 : b ≤ 12) : Calls Try.prog 32 #[.int .i64 (s : Int), .int .i64 (b : Int)] w (RetBytes 5 w (mkRow b (rowB (inF s b)))) := by
  obtain ⟨i0, hi0, hz0, hz1, hz2⟩ := info_parts infoByte
  have HN := fun t (ht : t ≤ 100000) W => nextNumber_any t W ht
  have HE := Lib.hid (fun n s' got F => @chAt_end s b n s' got F)
  have HSK := Lib.hid (fun n s' got F => @chAt_skip s b n s' got F)
  have HTK := Lib.hid (fun n s' got F => @chAt_take s b n s' got F)
  have HBD := Lib.hid (chAt_bounds s b)
  have H0 := Lib.hid (chAt_zero s b)
  have hn0 := nxt_lt s
  have hmb := manyB_le s b
  obtain ⟨hmb4, hmbb⟩ := hmb
  have HM : Hid (manyB s b = min (nxt s % 4 + 1) b) := Lib.hid rfl
  have HMV : Hid (min (((nxt s : Nat) : Int) % 4 + 1) (b : Int) = ((manyB s b : Nat) : Int)) := by
    show _ = _
    unfold manyB; omega
  generalize manyB s b = mm at *
  clear HM
  go_enter Try.func32, Try.ntmps32
  go_wp2_with (at_make; refine wpList_make_full _ rfl _ _ _ rfl w.heap.size _ i0 _ 1 Try.underlying53 hi0 hz0 hz1 _ _ _ _ b rfl rfl rfl rfl ?b2 ?b3 ?b4 ?_)
  case b2 => rw [hz2]; omega
  case b3 => unfold maxLen; omega
  case b4 => exact Nat.le_refl _
  intro w1 hown1 hg1
  have hb1' : Below w.heap.size w w1 := below_of_grown hg1 (Nat.le_refl _) (by simp)
  rw [toList_madeCells_one] at hown1
  clear hg1
  have hO : OwnBytes 5 w1 w.heap.size w1.heap.size (.slice (some ⟨w.heap.size, 0, none⟩) b b) (mkRow b (rowB fun _ => false)) := by
    refine OwnBytes.of_made ?_
    rw [mkRow_length, bys_zero b (rowB fun _ => false) (fun _ _ => rfl)]; exact hown1
  clear hown1
  go_wp2_with fail
  refine (HN s hs _).mono ?_
  rintro e w' ⟨rfl, rfl⟩
  go_wp2_with fail
  simp only [HMV.out]
  have HC0 : Hid (chAt s b 0 = (nxt s, fun _ => false, 0)) := H0
  generalize nxt s = t0 at *
  clear HMV H0
  go_loopw [6, 7, 8] (fun num mis usd wr => ∃ (n s' got : Nat) (F : Nat → Bool), n ≤ 200 ∧ s' < 65537 ∧ got ≤ mm ∧ num = .int .i64 s' ∧ mis = .int .i64 ((mm - got : Nat) : Int) ∧ usd = .int .i64 n ∧ Hid (chAt s b n = (s', F, got)) ∧ OwnBytes 5 wr w.heap.size wr.heap.size (.slice (some ⟨w.heap.size, 0, none⟩) b b) (mkRow b (rowB F)) ∧ Below w.heap.size w wr)
    (fun _ _ usd _ => 200 - (intOf usd).toNat)
  case atStart => exact ⟨0, t0, 0, _, Nat.zero_le _, hn0, Nat.zero_le _, rfl, rfl, rfl, HC0, hO, hb1'⟩
  case round =>
    obtain ⟨n, s', got, F, hn, hs', hg, rfl, rfl, rfl, HC, hO, hb⟩ := hrel
    clear hb1' hn0
    by_cases hlt : n < 200
    · have hd1 : decide ((n : Int) < 200) = true := by simp; omega
      by_cases hgt : got < mm
      · have hd2 : decide ((0 : Int) < ((mm - got : Nat) : Int)) = true := by simp; omega
        have HN2 := Lib.hid (HN s' (by omega) wr)
        have hnl := nxt_lt s'
        have HSK2 := Lib.hid (fun h => HSK.out n s' got F HC.out hgt h)
        have HTK2 := Lib.hid (fun h => HTK.out n s' got F HC.out hgt h)
        generalize nxt s' = t at *
        have hrk := rem_nat t b
        have hkb := Nat.mod_lt t (show 0 < b by omega)
        generalize t % b = k at *
        have hcs := hO.cellAt (k := k) (by simpa using hkb)
        have hfr := hO.frozenAt k
        rw [mkRow_getD _ _ _ hkb] at hcs
        have hki : (k : Int) < (b : Int) := by omega
        have hb0 : ¬ (b : Int) = 0 := by omega
        have HO := Lib.hid hO
        clear hO
        cases hF : F k
        · have HF := Lib.hid (HTK2.out hF)
          have hz : ((rowB F k).toNat : Int) = 0 := by unfold rowB; rw [hF]; rfl
          rw [hz] at hcs
          have hst := HO.out.store (q := k) (x := 1) (by simp) (rowB_set b k F)
          have hb2 : Below w.heap.size w (wr.setCell ⟨w.heap.size, k, none⟩ (.int .u8 ((1 : UInt8).toNat : Int))) := hb.setCell (Nat.le_refl _) _
          have HST := Lib.hid hst
          have HB2 := Lib.hid hb2
          have hmg : ((mm - got : Nat) : Int) - 1 = ((mm - (got + 1) : Nat) : Int) := by omega
          clear hst hb2 hz HSK2 HTK2 hF
          go_wp2_with fail
          refine HN2.out.mono ?_
          rintro e w' ⟨rfl, rfl⟩
          go_wp2_with fail
          go_roundw
          case rel => exact ⟨n + 1, t, got + 1, setB F k, by omega, by omega, by omega, rfl, by rw [← hmg], by go_num, HF, by
            have h := HST.out
            exact ⟨h.1, Nat.le_refl _, fun g e => by have := h.2.2 g e; simpa using this⟩, HB2.out⟩
          case measure => simp [intOf]; omega
        · have HF := Lib.hid (HSK2.out hF)
          have hz : ((rowB F k).toNat : Int) = 1 := by unfold rowB; rw [hF]; rfl
          rw [hz] at hcs
          clear hz HSK2 HTK2 hF
          go_wp2_with fail
          refine HN2.out.mono ?_
          rintro e w' ⟨rfl, rfl⟩
          go_wp2_with fail
          go_roundw
          case rel => exact ⟨n + 1, t, got, F, by omega, by omega, by omega, rfl, rfl, by go_num, HF, HO.out, hb⟩
          case measure => simp [intOf]; omega
      · have hd2 : decide ((0 : Int) < ((mm - got : Nat) : Int)) = false := by simp; omega
        have HF := Lib.hid (HE.out n s' got F HC.out hn (.inr hgt))
        go_wp2_with fail
        go_ret
        exact ⟨_, rfl, by rw [HF.out]; exact hO, TurnIn.of_below hb⟩
    · have hd1 : decide ((n : Int) < 200) = false := by simp; omega
      have HF := Lib.hid (HE.out n s' got F HC.out hn (.inl (by omega)))
      clear hlt
      go_wp2_with fail
      go_ret
      exact ⟨_, rfl, by rw [HF.out]; exact hO, TurnIn.of_below hb⟩

set_option maxRecDepth 100000 in
set_option maxHeartbeats 2000000 in
theorem blocksOf_own (s b : Int) (w : World) : Calls Try.prog 8 #[.int .i64 s, .int .i64 b] w (RetIntsOk 3 w (blkR s b) (blkOk s b)) := by
  by_cases h1 : seedOk s = true
  · have hs := seedOk_b h1
    have H1 := Lib.hid h1
    by_cases h2 : bcOk b = true
    · have hb := bcOk_b h2
      have H2 := Lib.hid h2
      have HOK : Hid (blkOk s b = true) := by show blkOk s b = true; simp [blkOk, h1, h2]
      have HR : Hid (blkR s b = intL (blkN s.toNat b.toNat)) := if_pos HOK.out
      obtain ⟨s, rfl⟩ := Int.eq_ofNat_of_zero_le hs.1
      obtain ⟨b, rfl⟩ := Int.eq_ofNat_of_zero_le (show 0 ≤ b by omega)
      simp only [Int.toNat_natCast] at HR
      have hb1 : 1 ≤ b := by omega
      have hb2 : b ≤ 12 := by omega
      have HD := Lib.hid (dropRow_own s b w (by omega) hb1 hb2)
      have HBN : Hid (blkN s b = blkK (inF s b) b) := Lib.hid rfl
      generalize inF s b = F at *
      clear h1 h2
      go_enter Try.func8, Try.ntmps8
      go_wp2_with fail
      refine (goodSeed_any _ _).mono ?_
      rintro e w' ⟨rfl, rfl⟩
      rw [H1.out]
      go_wp2_with fail
      refine (goodBlockCount_any _ _).mono ?_
      rintro e w' ⟨rfl, rfl⟩
      rw [H2.out]
      go_wp2_with fail
      refine HD.out.mono ?_
      rintro e w1 ⟨v1, rfl, o1, k1⟩
      have z1 := k1.size
      obtain ⟨g, cap, hv1, hg1, hg2, _, hcm⟩ := o1.slice (by simp; omega)
      rw [mkRow_length] at hv1
      subst hv1
      unfold maxLen at hcm
      have HO1 := Lib.hid o1
      clear o1
      go_wp2_with fail
      go_loopw [6, 21] (fun o i wr => ∃ k : Nat, k ≤ b ∧ i = .int .i64 k ∧ wr.ownsRow w1.heap.size 3 1 o (blkK F k).length (ints (intL (blkK F k))) ∧ TurnIn 0 0 w1 wr)
        (fun _ i _ => b - (intOf i).toNat)
      case atStart => exact ⟨0, Nat.zero_le _, rfl, World.ownsRow_nil _ _ _ _, TurnIn.refl _⟩
      case round =>
        obtain ⟨k, hk, rfl, ho, kr⟩ := hrel
        have zr := kr.size
        by_cases hlt : k < b
        · have hki : (k : Int) < (b : Int) := by omega
          have hcs := (HO1.out.keep kr (by omega)).cellAt (k := k) (by simpa using hlt)
          rw [mkRow_getD _ _ _ hlt] at hcs
          obtain ⟨t, ht⟩ : ∃ t, t = (blkK F k).length := ⟨_, rfl⟩
          have htk : t ≤ 12 := by have := blkK_len F k; omega
          have HTL : Hid ((blkK F k).length = t) := ht.symm
          rw [← ht] at ho
          have HO := Lib.hid ho
          clear ho ht
          cases hF : F k
          · have hz : ((rowB F k).toNat : Int) = 0 := by unfold rowB; rw [hF]; rfl
            rw [hz] at hcs
            have hon : wr.ownsRow w1.heap.size 3 1 u6 (blkK F (k + 1)).length (ints (intL (blkK F (k + 1)))) := by rw [blkK_no hF, HTL.out]; exact HO.out
            clear hz hF
            go_wp2_with fail
            go_roundw
            case rel => exact ⟨k + 1, by omega, by go_num, hon, kr⟩
            case measure => simp [intOf]; omega
          · have hz : ((rowB F k).toNat : Int) = 1 := by unfold rowB; rw [hF]; rfl
            rw [hz] at hcs
            have HPL := Lib.hid (blkK_yes hF)
            have HO2 := Lib.hid (HO.out.alloc (.cells #[.int .i64 (k : Int)] 3))
            have KA := Lib.hid (turn_trans kr (turn_alloc wr (.cells #[.int .i64 (k : Int)] 3)) (by omega))
            clear hz hF HO
            go_wp2_with (at_builtin; refine wpList_append1 rfl _ _ _ rfl w1.heap.size 3 _ _ Try.underlying22 infoInt rfl _ t _ rfl HO2.out wr.heap.size (.int .i64 (k : Int)) rfl ?c1 rfl ?c2 ?c3 ?c4 ?_)
            case c1 => simp
            case c2 => omega
            case c3 => omega
            case c4 => simp; omega
            intro v' w3 hown3 hg3 _
            have k3 : TurnIn 0 0 w1 w3 := turn_trans' KA.out hg3 (fun g e => (HO2.out.lt g e).1)
            have hon : w3.ownsRow w1.heap.size 3 1 v' (blkK F (k + 1)).length (ints (intL (blkK F (k + 1)))) := by
              rw [HPL.out, intL_append, ints_append, List.length_append, HTL.out]; exact hown3
            clear hown3 hg3 KA HO2
            go_wp2_with fail
            go_roundw
            case rel => exact ⟨k + 1, by omega, by go_num, hon, k3⟩
            case measure => simp [intOf]; omega
        · obtain rfl : k = b := by omega
          have hki : ¬ (k : Int) < (k : Int) := by omega
          have hox : OwnInts 3 wr w.heap.size wr.heap.size u6 (intL (blkK F k)) := ⟨own_base (by rw [intL_length]; exact ho) z1, Nat.le_refl _, fun g e => (ho.lt g e).2⟩
          have HOX := Lib.hid hox
          clear ho hox
          go_wp2_with fail
          go_ret2
          exact ⟨_, by rw [HOK.out]; rfl, by rw [HR.out, HBN.out]; exact HOX.out, turn_trans k1 kr (by omega)⟩
    · have H2 : Hid (bcOk b = false) := by show bcOk b = false; simpa using h2
      have HOK : Hid (blkOk s b = false) := by show blkOk s b = false; simp [blkOk, H2.out]
      have HR : Hid (blkR s b = []) := if_neg (by rw [HOK.out]; decide)
      clear h1 h2
      go_enter Try.func8, Try.ntmps8
      go_wp2_with fail
      refine (goodSeed_any _ _).mono ?_
      rintro e w' ⟨rfl, rfl⟩
      rw [H1.out]
      go_wp2_with fail
      refine (goodBlockCount_any _ _).mono ?_
      rintro e w' ⟨rfl, rfl⟩
      rw [H2.out]
      go_wp2_with fail
      go_ret2
      exact ⟨_, by rw [HOK.out]; rfl, by rw [HR.out]; exact OwnInts.nil _ _ _, TurnIn.refl _⟩
  · have H1 : Hid (seedOk s = false) := by show seedOk s = false; simpa using h1
    have HOK : Hid (blkOk s b = false) := by show blkOk s b = false; simp [blkOk, H1.out]
    have HR : Hid (blkR s b = []) := if_neg (by rw [HOK.out]; decide)
    clear h1
    go_enter Try.func8, Try.ntmps8
    go_wp2_with fail
    refine (goodSeed_any _ _).mono ?_
    rintro e w' ⟨rfl, rfl⟩
    rw [H1.out]
    go_wp2_with fail
    go_ret2
    exact ⟨_, by rw [HOK.out]; rfl, by rw [HR.out]; exact OwnInts.nil _ _ _, TurnIn.refl _⟩

end Go.Proofs.Ytjklngheehhggaa

/- Bools in memory: a slice of bools that is seen, or of the call's own; the bools that a mark writes. -/
namespace G294
open Go Go.RowKit
/-- bools as the cells of memory -/
def bls (l : List Bool) : List Value := l.map fun x => .bool x
@[simp] theorem bls_length (l : List Bool) : (bls l).length = l.length := by simp [bls]
theorem bls_append (l m : List Bool) : bls (l ++ m) = bls l ++ bls m := by simp [bls]
theorem bls_get (l : List Bool) (i : Nat) (h : i < l.length) : (bls l)[i]? = some (.bool l[i]) := by simp [bls, h]
theorem bls_getD (l : List Bool) (i : Nat) (h : i < l.length) : (bls l)[i]? = some (.bool (l.getD i false)) := by simp [bls, List.getD, h]
theorem bls_set (l : List Bool) (k : Nat) (x : Bool) : (bls l).set k (.bool x) = bls (l.set k x) := by simp [bls, List.map_set]
theorem bls_rep (n : Nat) (x : Bool) : bls (List.replicate n x) = List.replicate n (.bool x) := by simp [bls]
theorem bls_oneC (l : List Bool) : ∀ y, y ∈ bls l → y.oneCell' = true := by
  intro y hy
  simp only [bls, List.mem_map] at hy
  obtain ⟨x, _, rfl⟩ := hy
  rfl
/-- a row of bools of the call's own, its block from lo to hi -/
def OwnBools (E : TypeId) (w : World) (lo hi : Nat) (v : Value) (l : List Bool) : Prop := w.ownsRow lo E 1 v l.length (bls l) ∧ hi ≤ w.heap.size ∧ ∀ g, v.ownBlock = some g → g < hi
section
variable {w w' : World} {lo hi a b : Nat} {v : Value} {l : List Bool} {E : TypeId}
theorem OwnBools.keep (h : OwnBools E w lo hi v l) (t : TurnIn a b w w') (d : hi ≤ a ∨ b ≤ lo) : OwnBools E w' lo hi v l :=
  ⟨owns_turn h.1 h.2.2 t d, Nat.le_trans h.2.1 t.size, h.2.2⟩
theorem OwnBools.seen (h : OwnBools E w lo hi v l) : Seen w v (bls l) := Seen.of_own h.1
theorem OwnBools.nil (E : TypeId) (w : World) (lo : Nat) : OwnBools E w lo w.heap.size (.slice none 0 0) [] := ⟨World.ownsRow_nil _ _ _ _, Nat.le_refl _, fun g h => by simp [Value.ownBlock] at h⟩
theorem OwnBools.of_made (h : w'.ownsRow w.heap.size E 1 v l.length (bls l)) : OwnBools E w' w.heap.size w'.heap.size v l := ⟨h, Nat.le_refl _, fun g hg => (h.lt g hg).2⟩
theorem OwnBools.isSlice (h : OwnBools E w lo hi v l) : ∃ A n c, v = .slice A n c := by
  rcases h.1.2 with ⟨hh, _⟩ | ⟨g, cap, cur, hh, _⟩ <;> exact ⟨_, _, _, hh⟩
theorem OwnBools.wider {lo' hi' : Nat} (h : OwnBools E w lo hi v l) (h1 : lo' ≤ lo) (h2 : hi ≤ hi') (h3 : hi' ≤ w.heap.size) : OwnBools E w lo' hi' v l :=
  ⟨own_base h.1 h1, h3, fun g hg => by have := h.2.2 g hg; omega⟩
theorem OwnBools.cellAt {g n cap k : Nat} (h : OwnBools E w lo hi (.slice (some ⟨g, 0, none⟩) n cap) l) (hk : k < l.length) : w.cell? ⟨g, k, none⟩ = some (.bool (l.getD k false)) := by
  have hc := h.1.cells (g := g) rfl k _ (bls_getD l k hk)
  rwa [Addr.add_lit, Nat.zero_add] at hc
theorem OwnBools.frozenAt {g n cap : Nat} (h : OwnBools E w lo hi (.slice (some ⟨g, 0, none⟩) n cap) l) (k : Nat) : w.frozen? ⟨g, k, none⟩ = false := by
  have hn : n = l.length := by
    rcases h.1.2 with ⟨hh, _⟩ | ⟨g', c', cur, hh, _⟩
    · simp at hh
    · simp at hh; exact hh.2.1
  exact (hn ▸ h.1 : w.ownsRow lo E 1 (.slice (some ⟨g, 0, none⟩) n cap) n (bls l)).frozenAt k
theorem OwnBools.store {g n cap q : Nat} {l' : List Bool} {x : Bool} (h : OwnBools E w lo hi (.slice (some ⟨g, 0, none⟩) n cap) l) (hn : l.length = n) (e : l.set q x = l') :
    OwnBools E (w.setCell ⟨g, q, none⟩ (.bool x)) lo hi (.slice (some ⟨g, 0, none⟩) n cap) l' := by
  have h1 := h.1
  rw [hn] at h1
  have hst := h1.stored q (.bool x)
  refine ⟨?_, by simpa using h.2.1, h.2.2⟩
  have e3 : l'.length = n := by rw [← e]; simpa using hn
  rw [← e, ← bls_set, List.length_set, hn]
  exact hst.1
end
def RetBls (E : TypeId) (w : World) (l : List Bool) (e : Ending) (w' : World) : Prop := ∃ v, e = .returned v ∧ OwnBools E w' w.heap.size w'.heap.size v l ∧ TurnIn 0 0 w w'
/-- the bools that marks write -/
def marksL (k n : Nat) : List Bool := (List.range n).map fun i => decide ((k + i) % 3 = 0)
@[simp] theorem marksL_length (k n : Nat) : (marksL k n).length = n := by simp [marksL]
theorem marksL_get (k n i : Nat) (h : i < n) : (bls (marksL k n))[i]? = some (.bool (decide ((k + i) % 3 = 0))) := by simp [bls, marksL, h]
def RetMarkL (E : TypeId) (w : World) (lo hi : Nat) (v : Value) (k n : Nat) (e : Ending) (w' : World) : Prop :=
  e = .returned (.int .i64 ((k + n : Nat) : Int)) ∧ OwnBools E w' lo hi v (marksL k n) ∧ TurnIn lo hi w w'
end G294

/- Contracts of the laws' helpers on []bool: a copy, equality, marks, marks held, size. -/
namespace Go.Proofs.Ytjklngheehhggaa
open Go.RowKit G294

theorem infoBool : (Try.prog.info? 4).map (fun i => (i.zero, i.size, i.bytes)) = some (some (.bool false), 1, 1) := by kernel_rfl

set_option maxHeartbeats 400000 in
theorem toBoolS_own (v : Value) (l : List Bool) (w : World) (hv : Seen w v (bls l)) (hn : l.length ≤ 1048576) :
    Calls Try.prog 52 #[v] w (RetBls 4 w l) := by
  obtain ⟨i0, hi0, hz0, hz1, hz2⟩ := info_parts infoBool
  obtain ⟨A, c, rfl, hlc, hcm, hx⟩ := hv
  rw [bls_length] at hlc hx
  simp only [bls_length]
  unfold maxLen at hcm
  generalize hnn : l.length = n at *
  have HN := Lib.hid hnn
  clear hnn
  go_enter Try.func52, Try.ntmps52
  go_wp2_with (at_make; refine wpList_make_full _ rfl _ _ _ rfl w.heap.size _ i0 _ 1 Try.underlying31 hi0 hz0 hz1 _ _ _ _ n rfl rfl rfl rfl ?b2 ?b3 ?b4 ?_)
  case b2 => rw [hz2]; omega
  case b3 => unfold maxLen; omega
  case b4 => exact Nat.le_refl _
  intro w1 hown1 hg1
  have hb1 : Below w.heap.size w w1 := below_of_grown hg1 (Nat.le_refl _) (by simp)
  rw [toList_madeCells_one] at hown1
  clear hg1
  go_wp2_with fail
  go_loopw [4] (fun i wr => ∃ k : Nat, k ≤ n ∧ i = .int .i64 k ∧ wr.ownsRow w.heap.size 4 1 (.slice (some ⟨w.heap.size, 0, none⟩) n n) n ((bls l).take k ++ List.replicate (n - k) (.bool false)) ∧ Below w.heap.size w wr)
    (fun i _ => n - (intOf i).toNat)
  case atStart => exact ⟨0, Nat.zero_le _, rfl, by simpa using hown1, hb1⟩
  case round =>
    obtain ⟨k, hk, rfl, hown, hb⟩ := hrel
    clear hown1 hb1
    by_cases hlt : k < n
    · obtain ⟨b, off, rfl, hbl, hcell⟩ := hx (by omega)
      have hkl : k < l.length := by rw [HN.out]; exact hlt
      have hcx : wr.cell? ⟨b, off + k, none⟩ = some (.bool (l[k])) := (hb.cell (p := ⟨b, off + k, none⟩) hbl).trans (hcell k _ (bls_get l k hkl))
      have hco : wr.cell? ⟨w.heap.size, k, none⟩ = some (.bool false) := by
        have ht : ((bls l).take k).length = k := by simp; omega
        rw [hown.cellAt k (by omega), List.getElem?_append_right (by omega), ht, Nat.sub_self, List.getElem?_replicate, if_pos (by omega)]
      have hfr := hown.frozenAt k
      have hst := hown.stored k (.bool (l[k]))
      rw [take_set_next (bls l) _ k _ (bls_get l k hkl) (by simp [HN.out]; omega)] at hst
      clear hcell hx
      go_wp2_with fail
      go_roundw
      case rel => exact ⟨k + 1, by omega, by go_num, by simpa [Nat.sub_sub] using hst.1, hb.setCell (Nat.le_refl _) _⟩
      case measure => simp [intOf]; omega
    · obtain rfl : k = n := by omega
      go_wp2_with fail
      go_ret
      refine ⟨_, rfl, OwnBools.of_made ?_, TurnIn.of_below hb⟩
      rw [List.take_of_length_le (by simp [HN.out]), Nat.sub_self] at hown
      simpa [HN.out] using hown

set_option maxHeartbeats 400000 in
theorem eqBoolS_same (v u : Value) (l : List Bool) (w : World) (hv : Seen w v (bls l)) (hu : Seen w u (bls l)) :
    Calls Try.prog 39 #[v, u] w (RetBool w true) := by
  obtain ⟨A, c, rfl, hlc, hcm, hx⟩ := hv
  obtain ⟨A', c', rfl, hlc', hcm', hx'⟩ := hu
  rw [bls_length] at hlc hx hlc' hx'
  simp only [bls_length]
  unfold maxLen at hcm hcm'
  generalize hnn : l.length = n at *
  have HN := Lib.hid hnn
  clear hnn
  have hbn : ((n : Int) != (n : Int)) = false := by simp
  go_enter Try.func39, Try.ntmps39
  go_wp2_with fail
  go_loopw [5] (fun i wr => ∃ k : Nat, k ≤ n ∧ i = .int .i64 k ∧ Below w.heap.size w wr)
    (fun i _ => n - (intOf i).toNat)
  case atStart => exact ⟨0, Nat.zero_le _, rfl, Below.refl _ _⟩
  case round =>
    obtain ⟨k, hk, rfl, hb⟩ := hrel
    by_cases hlt : k < n
    · obtain ⟨b, off, rfl, hbl, hcell⟩ := hx (by omega)
      obtain ⟨b', off', rfl, hbl', hcell'⟩ := hx' (by omega)
      have hkl : k < l.length := by rw [HN.out]; exact hlt
      have hcx := (hb.cell (p := ⟨b, off + k, none⟩) hbl).trans (hcell k _ (bls_get l k hkl))
      have hcy := (hb.cell (p := ⟨b', off' + k, none⟩) hbl').trans (hcell' k _ (bls_get l k hkl))
      clear hcell hcell' hx hx'
      have hki : (k : Int) < (n : Int) := by omega
      generalize l[k] = x at *
      have hbb : (x != x) = false := by simp
      go_wp2_with fail
      go_quiet (fail)
      go_wp2_with fail
      go_roundw
      case rel => exact ⟨k + 1, by omega, by go_num, below_drewN hb _⟩
      case measure => simp [intOf]; omega
    · obtain rfl : k = n := by omega
      go_wp2_with fail
      go_ret
      exact ⟨rfl, TurnIn.of_below hb⟩

theorem third (m : Nat) : (((m : Nat) : Int) % 3 == 0) = decide (m % 3 = 0) := by
  by_cases h : m % 3 = 0
  · rw [decide_eq_true h, beq_iff_eq]; omega
  · rw [decide_eq_false h, beq_eq_false_iff_ne]; omega

set_option maxHeartbeats 400000 in
theorem markBoolS_own (v : Value) (l : List Bool) (k0 lo hi : Nat) (w : World) (hv : OwnBools 4 w lo hi v l) (hk0 : k0 + l.length ≤ 1000000000000) :
    Calls Try.prog 43 #[v, .int .i64 k0] w (RetMarkL 4 w lo hi v k0 l.length) := by
  have hown0 := hv
  rcases hv.1.2 with ⟨rfl, hn⟩ | ⟨g, cap, cur, rfl, hbg, hg, hnc, hcm, hcs, ht⟩
  · have : l = [] := List.eq_nil_of_length_eq_zero hn
    subst this
    have HE := Lib.hid hown0
    clear hown0 hv hn
    go_enter Try.func43, Try.ntmps43
    go_wp2_with fail
    refine wp_loop_once ?_
    go_wp2_with fail
    go_ret
    exact ⟨rfl, HE.out, ⟨rfl, rfl, rfl, Nat.le_refl _, fun _ _ _ => rfl⟩⟩
  · have hgh : g < hi := hv.2.2 g rfl
    have htop : hi ≤ w.heap.size := hv.2.1
    replace hown0 := hv.1
    clear hv hg ht hcs
    unfold maxLen at hcm
    generalize hnn : l.length = n at *
    have HN := Lib.hid hnn
    have hbl : (bls l).length = n := by simp [hnn]
    have HB := Lib.hid hbl
    clear hnn hbl
    go_enter Try.func43, Try.ntmps43
    go_wp2_with fail
    go_loopw [1, 5] (fun q i wr => ∃ k : Nat, k ≤ n ∧ i = .int .i64 k ∧ q = .int .i64 ((k0 + k : Nat) : Int) ∧ wr.ownsRow lo 4 1 (.slice (some ⟨g, 0, none⟩) n cap) n ((bls (marksL k0 n)).take k ++ (bls l).drop k) ∧ TurnIn lo hi w wr)
      (fun _ i _ => n - (intOf i).toNat)
    case atStart => exact ⟨0, Nat.zero_le _, rfl, by simp, by simpa using hown0, ⟨rfl, rfl, rfl, Nat.le_refl _, fun _ _ _ => rfl⟩⟩
    case round =>
      obtain ⟨k, hk, rfl, rfl, hown, hgr⟩ := hrel
      clear hown0
      by_cases hlt : k < n
      · have hki : (k : Int) < (n : Int) := by omega
        have hco : wr.cell? ⟨g, k, none⟩ = some (.bool (l[k]'(by rw [HN.out]; exact hlt))) := by
          have htk : ((bls (marksL k0 n)).take k).length = k := by simp; omega
          rw [hown.cellAt k (by omega), List.getElem?_append_right (by omega), htk, Nat.sub_self, List.getElem?_drop, Nat.add_zero, bls_get]
        have hfr := hown.frozenAt k
        have hst := hown.stored k (.bool (decide ((k0 + k) % 3 = 0)))
        rw [take_set_over _ _ k _ (marksL_get k0 n k hlt) (by simp [HN.out])] at hst
        have hst1 := hst.1
        have hst2 : TurnIn lo hi w _ := turn_trans hgr (TurnIn.of_grown (lo := lo) (hi := hi) hst.2 (fun g' e => by simp [Value.ownBlock] at e; omega)) (by omega)
        obtain ⟨m, hm⟩ : ∃ m, m = k0 + k := ⟨_, rfl⟩
        have hmb : m ≤ 1000000000000 := by omega
        have HM := Lib.hid hm
        rw [← hm] at hst1 hst2 ⊢
        have h3 := third m
        generalize decide (m % 3 = 0) = bb at *
        have HS1 := Lib.hid hst1
        have HS2 := Lib.hid hst2
        clear hst hown hgr hm hst1 hst2
        go_wp2_with fail
        go_roundw
        case rel => exact ⟨k + 1, by omega, by go_num, by have := HM.out; go_num, HS1.out, HS2.out⟩
        case measure => simp [intOf]; omega
      · obtain rfl : k = n := by omega
        go_wp2_with fail
        go_ret
        refine ⟨rfl, ?_, hgr⟩
        rw [List.take_of_length_le (by simp), List.drop_of_length_le (by rw [HB.out]; exact Nat.le_refl _), List.append_nil] at hown
        exact ⟨by simpa using hown, Nat.le_trans htop hgr.size, fun g' e => by simp [Value.ownBlock] at e; omega⟩

set_option maxHeartbeats 400000 in
theorem heldBoolS_own (v : Value) (k0 n : Nat) (w : World) (hv : Seen w v (bls (marksL k0 n))) (hk0 : k0 + n ≤ 1000000000000) :
    Calls Try.prog 45 #[v, .int .i64 k0] w (RetInt w ((k0 + n : Nat) : Int)) := by
  obtain ⟨A, c, rfl, hlc, hcm, hx⟩ := hv
  simp only [bls_length, marksL_length] at hlc hx ⊢
  unfold maxLen at hcm
  go_enter Try.func45, Try.ntmps45
  go_wp2_with fail
  go_loopw [1, 5] (fun q i wr => ∃ k : Nat, k ≤ n ∧ i = .int .i64 k ∧ q = .int .i64 ((k0 + k : Nat) : Int) ∧ Below w.heap.size w wr)
    (fun _ i _ => n - (intOf i).toNat)
  case atStart => exact ⟨0, Nat.zero_le _, rfl, by simp, Below.refl _ _⟩
  case round =>
    obtain ⟨k, hk, rfl, rfl, hb⟩ := hrel
    by_cases hlt : k < n
    · obtain ⟨b, off, rfl, hbl, hcell⟩ := hx (by omega)
      have hcx := (hb.cell (p := ⟨b, off + k, none⟩) hbl).trans (hcell k _ (marksL_get k0 n k hlt))
      clear hcell hx
      have hki : (k : Int) < (n : Int) := by omega
      obtain ⟨m, hm⟩ : ∃ m, m = k0 + k := ⟨_, rfl⟩
      have hmb : m ≤ 1000000000000 := by omega
      have HM := Lib.hid hm
      rw [← hm] at hcx ⊢
      have h3 := third m
      generalize decide (m % 3 = 0) = bb at *
      have hbb : (bb != bb) = false := by simp
      clear hm
      go_wp2_with fail
      go_roundw
      case rel => exact ⟨k + 1, by omega, by go_num, by have := HM.out; go_num, hb⟩
      case measure => simp [intOf]; omega
    · obtain rfl : k = n := by omega
      go_wp2_with fail
      go_ret
      exact ⟨rfl, TurnIn.of_below hb⟩

set_option maxHeartbeats 400000 in
theorem szBoolS_yes (A : Option Addr) (n c left : Nat) (w : World) (h : n ≤ left) (hl : left ≤ 1048576) :
    Calls Try.prog 49 #[.slice A n c, .int .i64 left] w (RetInt w ((left - n : Nat) : Int)) := by
  have hneg : ¬ ((left : Int) - (n : Int)) < 0 := by omega
  go_enter Try.func49, Try.ntmps49
  go_wp2_with fail
  go_ret
  exact ⟨congrArg (fun z => Ending.returned (.int .i64 z)) (by omega), TurnIn.refl w⟩

set_option maxHeartbeats 400000 in
theorem szBoolS_no (A : Option Addr) (n c left : Nat) (w : World) (h : left < n) (hl : left ≤ 1048576) (hm : n ≤ maxLen) :
    Calls Try.prog 49 #[.slice A n c, .int .i64 left] w (RetInt w (-1)) := by
  unfold maxLen at hm
  have hneg : ((left : Int) - (n : Int)) < 0 := by omega
  go_enter Try.func49, Try.ntmps49
  go_wp2_with fail
  go_ret
  exact ⟨rfl, TurnIn.refl w⟩

end Go.Proofs.Ytjklngheehhggaa
