/- Joined texts: Two, TailHeld, VecPair, VecAdd, VecScale. -/
import Derived.Test.YtblfobbeojdihaaGreatDoorBd06
import Derived.Test.YtblfobbeojdihaaGreatDoorBd00
import Derived.OrdersHeld
import Derived.StillTail
import Derived.Deep.RegionHeld
import Derived.Test.YtblfobbeojdihaaGreatDoorBd02
import Derived.Deep.RegionHeld3
set_option linter.unusedSimpArgs false
set_option linter.unusedVariables false
/- Two matrices beside each other, whose rows are replaced by new ones. -/
namespace G294
open Go Go.RowKit
structure Two (E EE : TypeId) (w : World) (lo g1 g2 n p1 p2 : Nat) (A B : Mat) (vs us : List Value) : Prop where
  o1 : w.ownsRow lo EE 1 (.slice (some ⟨g1, 0, none⟩) n p1) n vs
  o2 : w.ownsRow lo EE 1 (.slice (some ⟨g2, 0, none⟩) n p2) n us
  ne : g1 ≠ g2
  r1 : ∀ (i : Nat) (u : Value), vs[i]? = some u → OwnBytes E w lo w.heap.size u (A.getD i []) ∧ u.ownBlock ≠ some g1 ∧ u.ownBlock ≠ some g2
  r2 : ∀ (i : Nat) (u : Value), us[i]? = some u → OwnBytes E w lo w.heap.size u (B.getD i []) ∧ u.ownBlock ≠ some g1 ∧ u.ownBlock ≠ some g2
def ApartL (vs : List Value) : Prop := ∀ (i j : Nat) (u u' : Value) (g : Nat), vs[i]? = some u → vs[j]? = some u' → u.ownBlock = some g → u'.ownBlock = some g → i = j
section
variable {E EE : TypeId} {w w' : World} {lo g1 g2 n p1 p2 : Nat} {A B : Mat} {vs us : List Value}
theorem Two.flip (h : Two E EE w lo g1 g2 n p1 p2 A B vs us) : Two E EE w lo g2 g1 n p2 p1 B A us vs :=
  ⟨h.o2, h.o1, h.ne.symm, fun i u hu => ⟨(h.r2 i u hu).1, (h.r2 i u hu).2.2, (h.r2 i u hu).2.1⟩, fun i u hu => ⟨(h.r1 i u hu).1, (h.r1 i u hu).2.2, (h.r1 i u hu).2.1⟩⟩
theorem Two.keep (h : Two E EE w lo g1 g2 n p1 p2 A B vs us) (t : TurnIn 0 0 w w') : Two E EE w' lo g1 g2 n p1 p2 A B vs us :=
  ⟨owns_turn h.o1 (fun g e => (h.o1.lt g e).2) t (by omega), owns_turn h.o2 (fun g e => (h.o2.lt g e).2) t (by omega), h.ne,
    fun i u hu => ⟨((h.r1 i u hu).1.keep t (by omega)).wider (Nat.le_refl _) t.size (Nat.le_refl _), (h.r1 i u hu).2⟩,
    fun i u hu => ⟨((h.r2 i u hu).1.keep t (by omega)).wider (Nat.le_refl _) t.size (Nat.le_refl _), (h.r2 i u hu).2⟩⟩
theorem Two.put (h : Two E EE w lo g1 g2 n p1 p2 A B vs us) (k : Nat) (hk : k < A.length) {u : Value} {r : List UInt8} (hu : OwnBytes E w lo w.heap.size u r) (n1 : u.ownBlock ≠ some g1) (n2 : u.ownBlock ≠ some g2) :
    Two E EE (w.setCell ⟨g1, k, none⟩ u) lo g1 g2 n p1 p2 (A.set k r) B (vs.set k u) us := by
  have hst := h.o1.stored k u
  have hold : ∀ (x : Value) (l : List UInt8), OwnBytes E w lo w.heap.size x l → x.ownBlock ≠ some g1 → OwnBytes E (w.setCell ⟨g1, k, none⟩ u) lo (w.setCell ⟨g1, k, none⟩ u).heap.size x l :=
    fun x l hx hn => (hx.other hst.2 (fun g' e e2 => hn (e.trans e2.symm))).wider (Nat.le_refl _) (by simp) (by simp)
  refine ⟨hst.1, own_other h.o2 hst.2 (fun g e e2 => h.ne (Option.some.inj (e2.trans e.symm))), h.ne, ?_, fun i x hx => ⟨hold x _ (h.r2 i x hx).1 (h.r2 i x hx).2.1, (h.r2 i x hx).2⟩⟩
  intro i x hx
  rw [getD_set _ _ _ _ _ hk]
  rcases get_set hx with ⟨rfl, rfl⟩ | ⟨hne, hx⟩
  · rw [if_pos rfl]; exact ⟨hold _ _ hu n1, n1, n2⟩
  · rw [if_neg hne]; exact ⟨hold x _ (h.r1 i x hx).1 (h.r1 i x hx).2.1, (h.r1 i x hx).2⟩
theorem Two.congr {A' B' : Mat} (h : Two E EE w lo g1 g2 n p1 p2 A B vs us) (e1 : A = A') (e2 : B = B') : Two E EE w lo g1 g2 n p1 p2 A' B' vs us := e1 ▸ e2 ▸ h
theorem Two.of {lo1 hi1 lo2 hi2 : Nat} (h1 : OwnM E EE w lo1 hi1 (.slice (some ⟨g1, 0, none⟩) n p1) A vs) (h2 : OwnM E EE w lo2 hi2 (.slice (some ⟨g2, 0, none⟩) n p2) B us) (hd : hi1 ≤ lo2) (hl : lo ≤ lo1) (hA : A.length = n) (hB : B.length = n) (hl2 : lo ≤ lo2) :
    Two E EE w lo g1 g2 n p1 p2 A B vs us ∧ ApartL us := by
  have a1 := h1.out g1 rfl
  have a2 := (h2.row.lt g2 rfl).1
  refine ⟨⟨own_base (hA ▸ h1.row) hl, own_base (hB ▸ h2.row) hl2, by omega, fun i u hu => ?_, fun i u hu => ?_⟩, fun i j u u' g hi hj e e' => ((h2.apart i u g hi e).2 j u' hj e').symm⟩
  · exact ⟨(h1.rows i u hu).wider hl h1.top (Nat.le_refl _), fun e => (h1.apart i u g1 hu e).1 rfl, fun e => by have := (h1.rows i u hu).2.2 g2 e; omega⟩
  · exact ⟨(h2.rows i u hu).wider hl2 h2.top (Nat.le_refl _), fun e => by have := ((h2.rows i u hu).1.lt g1 e).1; omega, fun e => (h2.apart i u g2 hu e).1 rfl⟩
theorem Two.own2 (h : Two E EE w lo g1 g2 n p1 p2 A B vs us) (ha : ApartL us) (hB : B.length = n) : OwnM E EE w lo w.heap.size (.slice (some ⟨g2, 0, none⟩) n p2) B us :=
  ⟨hB.symm ▸ h.o2, Nat.le_refl _, fun g e => (h.o2.lt g e).2, fun i u hu => (h.r2 i u hu).1, fun i u g hu e => ⟨fun e2 => (h.r2 i u hu).2.2 (e.trans e2.symm), fun j u' hj e' => (ha i j u u' g hu hj e e').symm⟩⟩
/-- row i of the first -/
theorem Two.rowF {c : Nat} {F : Ents} (h : Two E EE w lo g1 g2 n p1 p2 (mkM n c F) B vs us) (i : Nat) (hi : i < n) (hc : 0 < c) : ∃ b cc, vs[i]? = some (.slice (some ⟨b, 0, none⟩) c cc) ∧ b < w.heap.size ∧ c ≤ cc ∧ cc ≤ maxLen ∧
    w.cell? ⟨g1, i, none⟩ = some (.slice (some ⟨b, 0, none⟩) c cc) ∧ OwnBytes E w lo w.heap.size (.slice (some ⟨b, 0, none⟩) c cc) (mkRow c (F i)) ∧ ∀ j, j < c → w.cell? ⟨b, j, none⟩ = some (.int .u8 ((F i j).toNat : Int)) := by
  have hl := h.o1.1
  have e : vs[i]? = some (vs[i]'(by omega)) := List.getElem?_eq_getElem (by omega)
  generalize vs[i]'(by omega) = u at e
  have ho := (h.r1 i u e).1
  rw [mkM_getD _ _ _ _ hi] at ho
  obtain ⟨b, cc, rfl, h1, h2, h3, h4⟩ := ho.slice (by simpa using hc)
  rw [mkRow_length] at ho e h3
  have hcell := h.o1.cells (g := g1) rfl i _ e
  rw [Addr.add_lit, Nat.zero_add] at hcell
  refine ⟨b, cc, e, h2, h3, h4, hcell, ho, fun j hj => ?_⟩
  have := ho.cellAt (k := j) (by simpa using hj)
  rwa [mkRow_getD _ _ _ hj] at this
theorem Two.at1 (h : Two E EE w lo g1 g2 n p1 p2 A B vs us) {i : Nat} {u : Value} (hu : vs[i]? = some u) : w.cell? ⟨g1, i, none⟩ = some u := by
  have hcell := h.o1.cells (g := g1) rfl i _ hu
  rwa [Addr.add_lit, Nat.zero_add] at hcell
theorem Two.some1 (h : Two E EE w lo g1 g2 n p1 p2 A B vs us) {i : Nat} (hi : i < n) : ∃ u, w.cell? ⟨g1, i, none⟩ = some u := by
  have hl := h.o1.1
  exact ⟨_, h.at1 (List.getElem?_eq_getElem (by omega))⟩
/-- what is beside stays when a row is put -/
theorem Two.side (h : Two E EE w lo g1 g2 n p1 p2 A B vs us) (k : Nat) (u : Value) {x : Value} {l : List UInt8} (hx : OwnBytes E w lo w.heap.size x l) (hn : x.ownBlock ≠ some g1) : OwnBytes E (w.setCell ⟨g1, k, none⟩ u) lo (w.setCell ⟨g1, k, none⟩ u).heap.size x l :=
  (hx.other (h.o1.stored k u).2 (fun g' e e2 => hn (e.trans e2.symm))).wider (Nat.le_refl _) (by simp) (by simp)
/-- a new row is put -/
theorem Two.new (h : Two E EE w lo g1 g2 n p1 p2 A B vs us) (t : TurnIn 0 0 w w') {g c cc : Nat} {r : List UInt8} (ho : OwnBytes E w' w.heap.size w'.heap.size (.slice (some ⟨g, 0, none⟩) c cc) r) (hg : w.heap.size ≤ g) (hlo : lo ≤ w.heap.size) (k : Nat) (hk : k < A.length) :
    Two E EE (w'.setCell ⟨g1, k, none⟩ (.slice (some ⟨g, 0, none⟩) c cc)) lo g1 g2 n p1 p2 (A.set k r) B (vs.set k (.slice (some ⟨g, 0, none⟩) c cc)) us := by
  have a1 := (h.o1.lt g1 rfl).2
  have a2 := (h.o2.lt g2 rfl).2
  exact (h.keep t).put k hk (ho.wider hlo (Nat.le_refl _) (Nat.le_refl _)) (by simp [Value.ownBlock]; omega) (by simp [Value.ownBlock]; omega)
theorem Two.fresh (h : Two E EE w lo g1 g2 n p1 p2 A B vs us) {g c cc : Nat} (hg : w.heap.size ≤ g) : ∀ (i : Nat) (x : Value) (g' : Nat), us[i]? = some x → x.ownBlock = some g' → (Value.slice (some ⟨g, 0, none⟩) c cc).ownBlock ≠ some g' := by
  intro i x g' hx e e2
  have := (h.r2 i x hx).1.2.2 g' e
  simp [Value.ownBlock] at e2
  omega
theorem row_own {w w' : World} {c : Nat} {v : Value} {f : Nat → UInt8} (ho : OwnBytes E w' w.heap.size w'.heap.size v (mkRow c f)) (hc : 0 < c) : ∃ g cc, v = .slice (some ⟨g, 0, none⟩) c cc ∧ w.heap.size ≤ g ∧ g < w'.heap.size := by
  obtain ⟨g, cc, e, h1, h2, _⟩ := ho.slice (by simpa using hc)
  exact ⟨g, cc, by simpa using e, h1, h2⟩
theorem Two.frz (h : Two E EE w lo g1 g2 n p1 p2 A B vs us) (k : Nat) : w.frozen? ⟨g1, k, none⟩ = false := h.o1.frozenAt k
theorem ApartL.set (h : ApartL vs) (k : Nat) (u : Value) (hf : ∀ (i : Nat) (x : Value) (g : Nat), vs[i]? = some x → x.ownBlock = some g → u.ownBlock ≠ some g) : ApartL (vs.set k u) := by
  intro i j x x' g hi hj e e'
  rcases get_set hi with ⟨i1, i2⟩ | ⟨n1, hi2⟩ <;> rcases get_set hj with ⟨j1, j2⟩ | ⟨n2, hj2⟩
  · rw [i1, j1]
  · exact absurd (i2 ▸ e) (hf j x' g hj2 e')
  · exact absurd (j2 ▸ e') (hf i x g hi2 e)
  · exact h i j x x' g hi2 hj2 e e'
theorem ApartL.move (h : ApartL vs) (a k : Nat) {y : Value} (hy : vs[a]? = some y) (u : Value) (hf : ∀ (i : Nat) (x : Value) (g : Nat), vs[i]? = some x → x.ownBlock = some g → u.ownBlock ≠ some g) : ApartL ((vs.set k y).set a u) := by
  intro i j x x' g hi hj e e'
  rcases get_set hi with ⟨i1, i2⟩ | ⟨n1, hi2⟩ <;> rcases get_set hj with ⟨j1, j2⟩ | ⟨n2, hj2⟩
  · rw [i1, j1]
  · rcases get_set hj2 with ⟨j3, j4⟩ | ⟨n3, hj3⟩
    · exact absurd (i2 ▸ e) (hf a y g hy (j4 ▸ e'))
    · exact absurd (i2 ▸ e) (hf j x' g hj3 e')
  · rcases get_set hi2 with ⟨i3, i4⟩ | ⟨n3, hi3⟩
    · exact absurd (j2 ▸ e') (hf a y g hy (i4 ▸ e))
    · exact absurd (j2 ▸ e') (hf i x g hi3 e)
  · rcases get_set hi2 with ⟨i3, i4⟩ | ⟨n3, hi3⟩ <;> rcases get_set hj2 with ⟨j3, j4⟩ | ⟨n4, hj3⟩
    · rw [i3, j3]
    · exact absurd (h a j y x' g hy hj3 (i4 ▸ e) e').symm n2
    · exact absurd (h i a x y g hi3 hy e (j4 ▸ e')) n1
    · exact h i j x x' g hi3 hj3 e e'
end
/-- only the blocks g1 and g2 of those that were there may have turned -/
structure Off (g1 g2 : Nat) (w w' : World) : Prop where
  os : w'.os = w.os
  tape : w'.tape = w.tape
  output : w'.output = w.output
  size : w.heap.size ≤ w'.heap.size
  block : ∀ k, k < w.heap.size → k ≠ g1 → k ≠ g2 → w'.heap[k]? = w.heap[k]?
section
variable {w w1 w2 W : World} {g1 g2 N : Nat}
theorem Off.refl (w : World) : Off g1 g2 w w := ⟨rfl, rfl, rfl, Nat.le_refl _, fun _ _ _ _ => rfl⟩
theorem Off.turn (h : Off g1 g2 w w1) (t : TurnIn 0 0 w1 w2) : Off g1 g2 w w2 :=
  ⟨t.os.trans h.os, t.tape.trans h.tape, t.output.trans h.output, Nat.le_trans h.size t.size, fun k hk a b => (t.block k (by have := h.size; omega) (by omega)).trans (h.block k hk a b)⟩
theorem Off.set1 (h : Off g1 g2 w w1) (o : Nat) (x : Value) : Off g1 g2 w (w1.setCell ⟨g1, o, none⟩ x) :=
  ⟨h.os, h.tape, h.output, by simpa using h.size, fun k hk a b => (heap_setCell_other w1 ⟨g1, o, none⟩ k x (by intro e; simp at e; omega)).trans (h.block k hk a b)⟩
theorem Off.flip (h : Off g1 g2 w w1) : Off g2 g1 w w1 := ⟨h.os, h.tape, h.output, h.size, fun k hk a b => h.block k hk b a⟩
theorem Off.set2 (h : Off g1 g2 w w1) (o : Nat) (x : Value) : Off g1 g2 w (w1.setCell ⟨g2, o, none⟩ x) := (h.flip.set1 o x).flip
theorem Off.cell (h : Off g1 g2 w w1) {B o : Nat} {x : Value} (hc : w.cell? ⟨B, o, none⟩ = some x) (hB : B < w.heap.size) (n1 : B ≠ g1) (n2 : B ≠ g2) : w1.cell? ⟨B, o, none⟩ = some x := (World.cell?_of_block (h.block B hB n1 n2)).trans hc
theorem Off.frozen (h : Off g1 g2 w w1) {B o : Nat} {x : Bool} (hc : w.frozen? ⟨B, o, none⟩ = x) (hB : B < w.heap.size) (n1 : B ≠ g1) (n2 : B ≠ g2) : w1.frozen? ⟨B, o, none⟩ = x := (World.frozen?_of_block (h.block B hB n1 n2)).trans hc
theorem Off.below (h : Off g1 g2 w w1) (hb : Below N W w) (hN : N ≤ w.heap.size) (h1 : N ≤ g1) (h2 : N ≤ g2) : Below N W w1 :=
  ⟨h.os.trans hb.os, h.tape.trans hb.tape, h.output.trans hb.output, Nat.le_trans hb.size h.size, fun k hk => (h.block k (by omega) (by omega) (by omega)).trans (hb.block k hk)⟩
end
theorem scaleL_mk (s : UInt8) (c : Nat) (f : Nat → UInt8) : scaleL s (mkRow c f) = mkRow c (fun j => gmul s (f j)) := by
  simp [scaleL, mkRow]
theorem addL_mk (c : Nat) (f g : Nat → UInt8) : addL (mkRow c f) (mkRow c g) = mkRow c (fun j => f j ^^^ g j) := by
  apply List.ext_getElem (by simp [addL])
  intro n h1 h2
  simp [addL, mkRow]
/-- rows below k cleared -/
def ckF (a k : Nat) (fs : Nat → UInt8) (X : Ents) : Ents := fun i j => if i < k then clF a fs X i j else X i j
theorem ckF_a (a k : Nat) (fs : Nat → UInt8) (X : Ents) (j : Nat) : ckF a k fs X a j = X a j := by unfold ckF clF; split <;> simp
theorem ckF_k (a k : Nat) (fs : Nat → UInt8) (X : Ents) (j : Nat) : ckF a k fs X k j = X k j := by simp [ckF]
theorem ckF_zero (a : Nat) (fs : Nat → UInt8) (X : Ents) (n c : Nat) : mkM n c (ckF a 0 fs X) = mkM n c X := mkM_congr fun i j _ _ => by simp [ckF]
theorem ckF_all (a : Nat) (fs : Nat → UInt8) (X : Ents) (n c : Nat) : mkM n c (ckF a n fs X) = mkM n c (clF a fs X) := mkM_congr fun i j hi _ => by simp [ckF, hi]
theorem ckF_stay (a k : Nat) (fs : Nat → UInt8) (X : Ents) (n c : Nat) (h : k = a ∨ fs k = 0) : mkM n c (ckF a k fs X) = mkM n c (ckF a (k + 1) fs X) := mkM_congr fun i j _ _ => by
  unfold ckF
  by_cases h1 : i = k
  · subst h1
    simp only [Nat.lt_irrefl, if_false, Nat.lt_succ_self, if_true, clF]
    by_cases h2 : i = a
    · subst h2; simp
    · rcases h with h | h
      · exact absurd h h2
      · rw [if_neg h2, h, zero_gmul]; simp
  · by_cases h2 : i < k
    · simp [h2, show i < k + 1 by omega]
    · simp [h2, show ¬ i < k + 1 by omega]
theorem ckF_put (a k : Nat) (fs : Nat → UInt8) (X : Ents) (n c : Nat) (h : k ≠ a) : (mkM n c (ckF a k fs X)).set k (mkRow c fun j => X k j ^^^ gmul (fs k) (X a j)) = mkM n c (ckF a (k + 1) fs X) := by
  rw [mkM_set]
  refine mkM_congr fun i j _ _ => ?_
  unfold ckF
  by_cases h1 : i = k
  · subst h1
    simp [clF, h]
  · by_cases h2 : i < k
    · simp [h1, h2, show i < k + 1 by omega]
    · simp [h1, h2, show ¬ i < k + 1 by omega]
theorem ckF_put' (a k : Nat) (fs : Nat → UInt8) (X : Ents) (n c : Nat) (f : UInt8) (hf : f = fs k) (h : k ≠ a) : (mkM n c (ckF a k fs X)).set k (mkRow c fun j => ckF a k fs X k j ^^^ gmul f (ckF a k fs X a j)) = mkM n c (ckF a (k + 1) fs X) := by
  rw [← ckF_put a k fs X n c h]
  congr 1
  exact mkRow_congr fun j _ => by rw [ckF_k, ckF_a, hf]
theorem swap_put (n c a p : Nat) (s : UInt8) (F : Ents) : ((mkM n c F).set p (mkRow c (F a))).set a (mkRow c fun j => gmul s (F p j)) = mkM n c (scF a s (swF a p F)) := by
  rw [mkM_set, mkM_set]
  refine mkM_congr fun i j _ _ => ?_
  unfold scF swF sw
  by_cases h1 : i = a
  · subst h1; simp
  · by_cases h2 : i = p
    · subst h2; simp [h1]
    · simp [h1, h2]
end G294

/- Regions that draw their order and end in one operation that waits for all others: behind it nothing is asked of the cells that the loads read. -/
namespace G294
open Go Go.RowKit
section
variable {P : Program} {md : Region.Mode} {ops : Array Oper} {Q : Exit → Act → World → Prop} {S : World → Prop} {L : Nat}
/-- whatever comes up next; behind each operation but the last, L, S holds -/
def wpAnyT (P : Program) (md : Region.Mode) (ops : Array Oper) (Q : Exit → Act → World → Prop) (S : World → Prop) (L : Nat) : Nat → Array Bool → Act → World → Prop
  | 0, listed, a, w => Region.ready md ops listed = [] ∧ Q .normal a w
  | fuel + 1, listed, a, w =>
    (Region.ready md ops listed = [] → Q .normal a w) ∧
    ∀ i ∈ Region.ready md ops listed, wpOp P ops Q i (fun a' w' => (i ≠ L → S w') ∧ wpAnyT P md ops Q S L fuel (listed.setIfInBounds i true) a' w') a w
theorem wpAny_of_T : ∀ (fuel : Nat) (listed : Array Bool) (a : Act) (w : World), wpAnyT P md ops Q S L fuel listed a w → wpAny P md ops Q fuel listed a w
  | 0, _, _, _, h => h
  | fuel + 1, _, _, _, h => ⟨h.1, fun i hi => wpOp_mono (fun a' w' h' => wpAny_of_T fuel _ a' w' h'.2) (h.2 i hi)⟩
theorem not_ready {i j : Nat} {listed : Array Bool} (hw : Region.waitsFor md ops j i = true) (hi : i ∈ Region.ready md ops listed) : j ∉ Region.ready md ops listed := fun hj => by
  obtain ⟨oj, hoj, e, he, hb, hon⟩ := Region.waitsFor_spec hw
  obtain ⟨_, oj', hoj', hall⟩ := mem_ready.1 hj
  obtain rfl : oj' = oj := Option.some.inj (hoj'.symm.trans hoj)
  have h1 := hall e he hb
  have h0 := (mem_ready.1 hi).1
  rw [hon] at h1
  rcases Nat.lt_or_ge i listed.size with h' | h'
  · simp [h'] at h0 h1; rw [h0] at h1; cases h1
  · simp [Array.getElem?_eq_none h'] at h1
theorem wpAnyT_first {i : Nat} {oi : Oper} {v : Value} (hi : ops[i]? = some oi) (hsel : ∀ (j : Nat) (o : Oper) cs b, ops[j]? = some o → o.op ≠ .select cs b)
    (hQ : ∀ c a w, Q (.panic c) (a.put oi.dst v) w → Q (.panic c) a w) (hwl : Region.waitsFor md ops L i = true) :
    ∀ (fuel : Nat) (listed : Array Bool) (a : Act) (w : World),
      (∀ j oj, ops[j]? = some oj → j ≠ i → listed.getD j true = false → (∀ e ∈ oj.after, Region.binds md e = true → e.on ≠ i) → oi.apart ops oj = true) →
      i ∈ Region.ready md ops listed → YieldsIf P ops S oi v a → S w →
      wpAnyT P md ops Q S L fuel (listed.setIfInBounds i true) (a.put oi.dst v) w → wpAnyT P md ops Q S L (fuel + 1) listed a w := by
  intro fuel
  induction fuel with
  | zero =>
    intro listed a w _ hr hy hS H
    refine ⟨fun h => (by rw [h] at hr; cases hr), fun j hj => ?_⟩
    by_cases hji : j = i
    · subst hji; exact hy.wpOp hi hS ⟨fun _ => hS, H⟩
    · have h5 := ready_mono hj hji
      rw [H.1] at h5
      cases h5
  | succ fuel ih =>
    intro listed a w hfree hr hy hS H
    refine ⟨fun h => (by rw [h] at hr; cases hr), fun j hj => ?_⟩
    by_cases hji : j = i
    · subst hji; exact hy.wpOp hi hS ⟨fun _ => hS, H⟩
    · have hjL : j ≠ L := fun e => not_ready hwl hr (e ▸ hj)
      obtain ⟨hjun, oj, hoj, hall⟩ := mem_ready.1 hj
      have hnot : ∀ e ∈ oj.after, Region.binds md e = true → e.on ≠ i := fun e he hb heq => by
        have h1 := hall e he hb
        have h0 := (mem_ready.1 hr).1
        rw [heq] at h1
        rcases Nat.lt_or_ge i listed.size with h' | h'
        · simp [h'] at h0 h1; rw [h0] at h1; cases h1
        · simp [Array.getElem?_eq_none h'] at h1
      have h2 := wpOp_putIf hoj (hfree j oj hoj hji hjun hnot) (fun cs b => hsel i oi cs b hi) (fun cs b => hsel j oj cs b hoj) hQ hy (H.2 j (ready_mono hj hji))
      refine wpOp_mono (fun a' w' h3 => ⟨h3.2.1, ih (listed.setIfInBounds j true) a' w' (fun k ok hk hki hun hno => ?_) (ready_mono hr (Ne.symm hji)) h3.1 (h3.2.1 hjL) ?_⟩) h2
      · refine hfree k ok hk hki ?_ hno
        by_cases hjk : j = k
        · subst hjk; exact hjun
        · rw [getD_set_ne true hjk] at hun; exact hun
      · rw [Array.setIfInBounds_comm _ _ hji]
        exact h3.2.2
theorem wpAnyT_take {i : Nat} {oi : Oper} {v : Value} {fuel : Nat} {listed : Array Bool} {a : Act} {w : World} (hi : ops[i]? = some oi)
    (hs : Region.noSelect ops = true) (hf : Region.free md ops listed i = true) (hr : (Region.ready md ops listed).contains i = true) (hwl : Region.waitsFor md ops L i = true)
    (hQ : ∀ c a w, Q (.panic c) (a.put oi.dst v) w → Q (.panic c) a w) (hy : YieldsIf P ops S oi v a) (hS : S w)
    (h : wpAnyT P md ops Q S L fuel (listed.setIfInBounds i true) (a.put oi.dst v) w) : wpAnyT P md ops Q S L (fuel + 1) listed a w :=
  wpAnyT_first hi (Region.noSelect_spec hs) hQ hwl fuel listed a w (Region.free_spec hi hf) (by simpa using hr) hy hS h
/-- one operation alone may come up -/
theorem wpAnyT_one {i : Nat} {o : Oper} {fuel : Nat} {listed : Array Bool} {a : Act} {w : World} (ho : ops[i]? = some o) (hr : Region.ready md ops listed = [i])
    (h : ∀ K' : Act → World → Prop, Shut (∀ a w, (i ≠ L → S w) → wpAnyT P md ops Q S L fuel (listed.setIfInBounds i true) a w → K' a w) → if Region.wanted o (yielded ops a.tmps) = true then Oper.wp P o a w K' Q else K' (a.put o.dst undef) w) :
    wpAnyT P md ops Q S L (fuel + 1) listed a w :=
  ⟨fun h0 => (by rw [hr] at h0; cases h0), fun j hj => by
    rw [hr] at hj
    obtain rfl : j = i := by simpa using hj
    exact wpOp_step ho (fun K' hK => h K' (fun a w hS hW => hK a w ⟨hS, hW⟩))⟩
theorem wpAnyT_done {listed : Array Bool} {a : Act} {w : World} (hr : Region.ready md ops listed = []) (h : Q .normal a w) : ∀ fuel, wpAnyT P md ops Q S L fuel listed a w
  | 0 => ⟨hr, h⟩
  | _ + 1 => ⟨fun _ => h, by rw [hr]; simp⟩
theorem wp_region_tail {id : Nat} {a : Act} {w : World} (S : World → Prop) (L : Nat) (hm : P.follows .mixedOrders = true)
    (h : wpAnyT P .any ops Q S L ops.size (Array.replicate ops.size false) a w.drew) : (Code.region id ops true).wp P Q a w :=
  wp_region_any hm (wpAny_of_T _ _ _ _ h)
end
end G294

/- goodVector and goodPair. -/
namespace Go.Proofs.YtblfobbeojdihaaGreatDoor
open Go.RowKit G294

end Go.Proofs.YtblfobbeojdihaaGreatDoor

/- Contracts of AddVectors, the program's and the model's. -/
namespace G294
theorem addL_len (l m : List UInt8) (h : l.length = m.length) : (addL l m).length = l.length := by simp [addL, h]
theorem addL_get (l m : List UInt8) (k : Nat) (h1 : k < l.length) (h2 : k < m.length) (h3 : k < (addL l m).length) : (addL l m)[k] = l[k] ^^^ m[k] := by simp [addL]
theorem addR_len (l m : List UInt8) : (addR l m).length ≤ 80 := by
  unfold addR; split
  · rename_i h; rw [addL_len l m h.2]; exact h.1
  · simp
end G294
namespace Go.Proofs.YtblfobbeojdihaaGreatDoor
open Go.RowKit G294

set_option maxHeartbeats 1000000 in
theorem l1Add_own (v u : Value) (l m : List UInt8) (w : World) (hv : Seen w v (bys l)) (hu : Seen w u (bys m)) (hlen : l.length = m.length) (hn : l.length ≤ 1048576) :
    Calls Tryz.prog 96 #[v, u] w (RetBytes 5 w (addL l m)) := by
  obtain ⟨A, c, rfl, hlc, hcm, hx⟩ := hv
  obtain ⟨A', c', rfl, hlc', hcm', hx'⟩ := hu
  rw [bys_length] at hlc hx hlc' hx'
  simp only [bys_length]
  unfold maxLen at hcm hcm'
  have HAL := Lib.hid (addL_len l m hlen)
  generalize hnn : l.length = n at *
  generalize hmm : m.length = n' at *
  obtain rfl : n = n' := by omega
  have HN := Lib.hid hnn
  have HM := Lib.hid hmm
  clear hnn hmm
  go_enter Tryz.func96, Tryz.ntmps96
  go_wp2_with fail
  go_loopw [5, 9] (fun o i wr => ∃ k : Nat, k ≤ n ∧ i = .int .i64 k ∧ wr.ownsRow w.heap.size 5 1 o k (bys ((addL l m).take k)) ∧ Below w.heap.size w wr)
    (fun _ i _ => n - (intOf i).toNat)
  case atStart => exact ⟨0, Nat.zero_le _, rfl, World.ownsRow_nil _ _ _ _, Below.refl _ _⟩
  case round =>
    obtain ⟨k, hk, rfl, hown, hb⟩ := hrel
    by_cases hlt : k < n
    · obtain ⟨b, off, rfl, hbl, hcell⟩ := hx (by omega)
      obtain ⟨b', off', rfl, hbl', hcell'⟩ := hx' (by omega)
      have hkl : k < l.length := by rw [HN.out]; exact hlt
      have hkm : k < m.length := by rw [HM.out]; exact hlt
      have hka : k < (addL l m).length := by rw [HAL.out]; exact hlt
      have hcx : wr.cell? ⟨b, off + k, none⟩ = some (.int .u8 ((l[k]).toNat : Int)) := (hb.cell (p := ⟨b, off + k, none⟩) hbl).trans (hcell k _ (bys_get l k hkl))
      have hcy : wr.cell? ⟨b', off' + k, none⟩ = some (.int .u8 ((m[k]).toNat : Int)) := (hb.cell (p := ⟨b', off' + k, none⟩) hbl').trans (hcell' k _ (bys_get m k hkm))
      have HX := Lib.hid (xor_u8 l[k] m[k])
      have HG := Lib.hid (addL_get l m k hkl hkm hka)
      have hbs := hb.size
      have hob : u5.ownBlock ≠ some b := fun e => by have := (hown.lt b e).1; omega
      have hob' : u5.ownBlock ≠ some b' := fun e => by have := (hown.lt b' e).1; omega
      have hk0 : (0 : Int) ≤ (k : Int) := Int.natCast_nonneg _
      clear hcell hcell' hx hx'
      have hki : (k : Int) < (n : Int) := by omega
      go_wp2_with fail
      go_region_held3 (fun w' => w'.cell? ⟨b, off + k, none⟩ = some (.int .u8 ((l[k]).toNat : Int)) ∧ w'.cell? ⟨b', off' + k, none⟩ = some (.int .u8 ((m[k]).toNat : Int)))
        (first
          | go_keep
          | (go_split_ands
             refine ⟨?_, ?_⟩
             · (rw [hg'.cell_far _ (by simp; omega) (Ne.symm hob)]; assumption)
             · (rw [hg'.cell_far _ (by simp; omega) (Ne.symm hob')]; assumption)))
        ((refine step_append1 (by rfl) _ _ _ (by rfl) w.heap.size 5 _ _ Tryz.underlying22 infoByte rfl _ k _ (by rfl) ((hown.alloc _).drew) wr.heap.size (.int .u8 (bits BinOp.xor IntKind.u8 ((l[k]).toNat : Int) ((m[k]).toNat : Int))) (by rfl) (by simp) (by rfl) (by omega) (by omega) (by have := hb.size; simp; omega) ?_; intro v' w1 hown1 hg' _))
      have hb' : Below w.heap.size w w1 := below_append ((hb.alloc hb.size _).drew) ((hown.alloc _).drew) hg' (Nat.le_refl _) (by simp; omega)
      have hown2 : w1.ownsRow w.heap.size 5 1 v' (k + 1) (bys ((addL l m).take (k + 1))) := by
        have e : (addL l m).take (k + 1) = (addL l m).take k ++ [l[k] ^^^ m[k]] := by
          rw [List.take_succ_eq_append_getElem hka, HG.out]
        rw [HX.out] at hown1
        rw [e, bys_append]; exact hown1
      clear hown1 hg' hown
      go_wp2_with fail
      go_roundw
      case rel => exact ⟨k + 1, by omega, by go_num, hown2, hb'⟩
      case measure => simp [intOf]; omega
    · obtain rfl : k = n := by omega
      have hki : ¬ (k : Int) < (k : Int) := by omega
      go_wp2_with fail
      go_ret
      refine ⟨_, rfl, OwnBytes.of_made ?_, TurnIn.of_below hb⟩
      rw [List.take_of_length_le (by rw [HAL.out]; exact Nat.le_refl _)] at hown
      simpa [HAL.out] using hown

end Go.Proofs.YtblfobbeojdihaaGreatDoor

/- Contracts of ScaleVector, the program's and the model's. -/
namespace Go.Proofs.YtblfobbeojdihaaGreatDoor
open Go.RowKit G294

set_option maxHeartbeats 400000 in
theorem l1Scale_any (a : UInt8) (v : Value) (l : List UInt8) (w : World) (hv : Seen w v (bys l)) (hn : l.length ≤ 1048576) :
    Calls Tryz.prog 95 #[.int .u8 (a.toNat : Int), v] w (Made w 5 (bys (scaleL a l))) := by
  obtain ⟨A, c, rfl, hlc, hcm, hx⟩ := hv
  rw [bys_length] at hlc hx
  simp only [bys_length]
  unfold maxLen at hcm
  generalize hnn : l.length = n at *
  have HN := Lib.hid hnn
  clear hnn
  go_enter Tryz.func95, Tryz.ntmps95
  go_wp2_with fail
  go_loopw [5, 10] (fun o i wr => ∃ k : Nat, k ≤ n ∧ i = .int .i64 k ∧ wr.ownsRow w.heap.size 5 1 o k (bys ((scaleL a l).take k)) ∧ Below w.heap.size w wr)
    (fun _ i _ => n - (intOf i).toNat)
  case atStart => exact ⟨0, Nat.zero_le _, rfl, World.ownsRow_nil _ _ _ _, Below.refl _ _⟩
  case round =>
    obtain ⟨k, hk, rfl, hown, hb⟩ := hrel
    by_cases hlt : k < n
    · obtain ⟨b, off, rfl, hbl, hcell⟩ := hx (by omega)
      have hkl : k < l.length := by rw [HN.out]; exact hlt
      have hcx : wr.cell? ⟨b, off + k, none⟩ = some (.int .u8 ((l[k]).toNat : Int)) := (hb.cell (p := ⟨b, off + k, none⟩) hbl).trans (hcell k _ (bys_get l k hkl))
      clear hcell hx
      have hki : (k : Int) < (n : Int) := by omega
      go_wp2_with fail
      refine (l1Times_u8 a l[k] _).mono ?_
      rintro e w' ⟨rfl, rfl⟩
      go_wp2_with (at_builtin; refine wpList_append1 rfl _ _ _ rfl w.heap.size 5 _ _ Tryz.underlying22 infoByte rfl _ k _ rfl (hown.alloc _) wr.heap.size (.int .u8 ((gmul a l[k]).toNat : Int)) rfl ?c1 rfl ?c2 ?c3 ?c4 ?_)
      case c1 => simp
      case c2 => omega
      case c3 => omega
      case c4 => have := hb.size; simp; omega
      intro v' w' hown' hg' _
      have hb' : Below w.heap.size w w' := below_append (hb.alloc hb.size _) (hown.alloc _) hg' (Nat.le_refl _) (by have := hb.size; simp; omega)
      have hown2 : w'.ownsRow w.heap.size 5 1 v' (k + 1) (bys ((scaleL a l).take (k + 1))) := by
        have e : (scaleL a l).take (k + 1) = (scaleL a l).take k ++ [gmul a l[k]] := by
          rw [List.take_succ_eq_append_getElem (by simp [scaleL, hkl])]; simp [scaleL]
        rw [e, bys_append]; exact hown'
      clear hown' hg'
      go_wp2_with fail
      go_roundw
      case rel => exact ⟨k + 1, by omega, by go_num, hown2, hb'⟩
      case measure => simp [intOf]; omega
    · obtain rfl : k = n := by omega
      have hki : ¬ (k : Int) < (k : Int) := by omega
      go_wp2_with fail
      go_ret
      refine ⟨_, rfl, ?_, hb⟩
      rw [List.take_of_length_le (by simp [scaleL, HN.out])] at hown
      simpa [HN.out, scaleL] using hown

theorem scaleR_len (a : UInt8) (l : List UInt8) : (scaleR a l).length ≤ 80 := by
  unfold scaleR; split
  · simpa [scaleL]
  · simp

end Go.Proofs.YtblfobbeojdihaaGreatDoor
