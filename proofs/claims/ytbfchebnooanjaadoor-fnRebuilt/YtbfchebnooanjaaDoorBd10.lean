/- Joined texts: BolMem, PeeMath, OpenDrp, DrpWalks, ShardWalks, ShardArgs, DrpArgs. -/
import Derived.Test.YtbfchebnooanjaaDoorBd00
import Derived.Test.YtbfchebnooanjaaDoorBd02
import Derived.Test.YtbfchebnooanjaaDoorBd09
import Derived.Test.YtbfchebnooanjaaDoorBd03
import Derived.Deep.Grids
import Derived.Test.YtbfchebnooanjaaDoorBd06
import Derived.Test.YtbfchebnooanjaaDoorBd05
set_option linter.unusedSimpArgs false
set_option linter.unusedVariables false
/- Bools in memory: a slice of bools that is seen, or of the call's own; the bools that a mark writes. -/
namespace G294
open Go Go.RowKit
/-- bools as the cells of memory -/
def bls (l : List Bool) : List Value := l.map fun x => .bool x
@[simp] theorem bls_length (l : List Bool) : (bls l).length = l.length := by simp [bls]
theorem bls_append (l m : List Bool) : bls (l ++ m) = bls l ++ bls m := by simp [bls]
theorem bls_get (l : List Bool) (i : Nat) (h : i < l.length) : (bls l)[i]? = some (.bool l[i]) := by simp [bls, h]
theorem bls_getD (l : List Bool) (i : Nat) (h : i < l.length) : (bls l)[i]? = some (.bool (l.getD i false)) := by simp [bls, List.getD, h]
theorem bls_set (l : List Bool) (k : Nat) (x : Bool) : (bls l).set k (.bool x) = bls (l.set k x) := by simp [bls, List.map_set]
theorem bls_rep (n : Nat) (x : Bool) : bls (List.replicate n x) = List.replicate n (.bool x) := by simp [bls]
theorem bls_oneC (l : List Bool) : ∀ y, y ∈ bls l → y.oneCell' = true := by
  intro y hy
  simp only [bls, List.mem_map] at hy
  obtain ⟨x, _, rfl⟩ := hy
  rfl
/-- a row of bools of the call's own, its block from lo to hi -/
def OwnBools (E : TypeId) (w : World) (lo hi : Nat) (v : Value) (l : List Bool) : Prop := w.ownsRow lo E 1 v l.length (bls l) ∧ hi ≤ w.heap.size ∧ ∀ g, v.ownBlock = some g → g < hi
section
variable {w w' : World} {lo hi a b : Nat} {v : Value} {l : List Bool} {E : TypeId}
theorem OwnBools.keep (h : OwnBools E w lo hi v l) (t : TurnIn a b w w') (d : hi ≤ a ∨ b ≤ lo) : OwnBools E w' lo hi v l :=
  ⟨owns_turn h.1 h.2.2 t d, Nat.le_trans h.2.1 t.size, h.2.2⟩
theorem OwnBools.seen (h : OwnBools E w lo hi v l) : Seen w v (bls l) := Seen.of_own h.1
theorem OwnBools.nil (E : TypeId) (w : World) (lo : Nat) : OwnBools E w lo w.heap.size (.slice none 0 0) [] := ⟨World.ownsRow_nil _ _ _ _, Nat.le_refl _, fun g h => by simp [Value.ownBlock] at h⟩
theorem OwnBools.of_made (h : w'.ownsRow w.heap.size E 1 v l.length (bls l)) : OwnBools E w' w.heap.size w'.heap.size v l := ⟨h, Nat.le_refl _, fun g hg => (h.lt g hg).2⟩
theorem OwnBools.isSlice (h : OwnBools E w lo hi v l) : ∃ A n c, v = .slice A n c := by
  rcases h.1.2 with ⟨hh, _⟩ | ⟨g, cap, cur, hh, _⟩ <;> exact ⟨_, _, _, hh⟩
theorem OwnBools.wider {lo' hi' : Nat} (h : OwnBools E w lo hi v l) (h1 : lo' ≤ lo) (h2 : hi ≤ hi') (h3 : hi' ≤ w.heap.size) : OwnBools E w lo' hi' v l :=
  ⟨own_base h.1 h1, h3, fun g hg => by have := h.2.2 g hg; omega⟩
theorem OwnBools.cellAt {g n cap k : Nat} (h : OwnBools E w lo hi (.slice (some ⟨g, 0, none⟩) n cap) l) (hk : k < l.length) : w.cell? ⟨g, k, none⟩ = some (.bool (l.getD k false)) := by
  have hc := h.1.cells (g := g) rfl k _ (bls_getD l k hk)
  rwa [Addr.add_lit, Nat.zero_add] at hc
theorem OwnBools.frozenAt {g n cap : Nat} (h : OwnBools E w lo hi (.slice (some ⟨g, 0, none⟩) n cap) l) (k : Nat) : w.frozen? ⟨g, k, none⟩ = false := by
  have hn : n = l.length := by
    rcases h.1.2 with ⟨hh, _⟩ | ⟨g', c', cur, hh, _⟩
    · simp at hh
    · simp at hh; exact hh.2.1
  exact (hn ▸ h.1 : w.ownsRow lo E 1 (.slice (some ⟨g, 0, none⟩) n cap) n (bls l)).frozenAt k
theorem OwnBools.store {g n cap q : Nat} {l' : List Bool} {x : Bool} (h : OwnBools E w lo hi (.slice (some ⟨g, 0, none⟩) n cap) l) (hn : l.length = n) (e : l.set q x = l') :
    OwnBools E (w.setCell ⟨g, q, none⟩ (.bool x)) lo hi (.slice (some ⟨g, 0, none⟩) n cap) l' := by
  have h1 := h.1
  rw [hn] at h1
  have hst := h1.stored q (.bool x)
  refine ⟨?_, by simpa using h.2.1, h.2.2⟩
  have e3 : l'.length = n := by rw [← e]; simpa using hn
  rw [← e, ← bls_set, List.length_set, hn]
  exact hst.1
end
def RetBls (E : TypeId) (w : World) (l : List Bool) (e : Ending) (w' : World) : Prop := ∃ v, e = .returned v ∧ OwnBools E w' w.heap.size w'.heap.size v l ∧ TurnIn 0 0 w w'
/-- the bools that marks write -/
def marksL (k n : Nat) : List Bool := (List.range n).map fun i => decide ((k + i) % 3 = 0)
@[simp] theorem marksL_length (k n : Nat) : (marksL k n).length = n := by simp [marksL]
theorem marksL_get (k n i : Nat) (h : i < n) : (bls (marksL k n))[i]? = some (.bool (decide ((k + i) % 3 = 0))) := by simp [bls, marksL, h]
def RetMarkL (E : TypeId) (w : World) (lo hi : Nat) (v : Value) (k n : Nat) (e : Ending) (w' : World) : Prop :=
  e = .returned (.int .i64 ((k + n : Nat) : Int)) ∧ OwnBools E w' lo hi v (marksL k n) ∧ TurnIn lo hi w w'
end G294

/- Chapter 9: peeling (mathematics). -/
namespace G294
open Go Go.RowKit
/-- a state of peeling: texts, which are known, how many -/
abbrev Pee := List (List UInt8) × List Bool × Int
def knw (p : Pee) (k : Nat) : Bool := p.2.1.getD k false
def unk (p : Pee) (ks : List Nat) : List Nat := ks.filter fun k => !knw p k
def kno (p : Pee) (ks : List Nat) : List Nat := ks.filter fun k => knw p k
theorem unk_snoc_yes {p : Pee} {ks : List Nat} {k : Nat} (h : knw p k = true) : unk p (ks ++ [k]) = unk p ks ∧ kno p (ks ++ [k]) = kno p ks ++ [k] := by
  constructor
  · unfold unk; rw [List.filter_append]; simp [h]
  · unfold kno; rw [List.filter_append]; simp [h]
theorem unk_snoc_no {p : Pee} {ks : List Nat} {k : Nat} (h : knw p k = false) : unk p (ks ++ [k]) = unk p ks ++ [k] ∧ kno p (ks ++ [k]) = kno p ks := by
  constructor
  · unfold unk; rw [List.filter_append]; simp [h]
  · unfold kno; rw [List.filter_append]; simp [h]
/-- the data of a drop plus its known blocks -/
def pdat (d : Sh) (p : Pee) : List UInt8 := addN p.1 (kno p (blkN d.1.toNat p.1.length)) d.2
def punk (d : Sh) (p : Pee) : List Nat := unk p (blkN d.1.toNat p.1.length)
def putP (p : Pee) (k : Nat) (x : List UInt8) : Pee := (p.1.set k x, p.2.1.set k true, p.2.2 + 1)
def oneStep (d : Sh) (p : Pee) : Option Pee := match punk d p with
  | [k] => some (putP p k (pdat d p))
  | _ => none
def stepP : List Sh → Pee → Option Pee
  | [], _ => none
  | d :: l, p => match oneStep d p with
    | some q => some q
    | none => stepP l p
theorem oneStep_one {d : Sh} {p : Pee} {k : Nat} (h : punk d p = [k]) : oneStep d p = some (putP p k (pdat d p)) := by unfold oneStep; rw [h]
theorem oneStep_not {d : Sh} {p : Pee} (h : (punk d p).length ≠ 1) : oneStep d p = none := by
  unfold oneStep
  split
  · rename_i k e; rw [e] at h; exact absurd rfl h
  · rfl
theorem stepP_skip {l : List Sh} {p : Pee} : ∀ {k : Nat}, (∀ (i : Nat) (d : Sh), i < k → l[i]? = some d → oneStep d p = none) → stepP l p = stepP (l.drop k) p := by
  induction l with
  | nil => intro k _; simp
  | cons d l ih =>
    intro k h
    cases k with
    | zero => rfl
    | succ k =>
      show (match oneStep d p with | some q => some q | none => stepP l p) = stepP (l.drop k) p
      rw [h 0 d (by omega) rfl]
      exact ih fun i d hi hd => h (i + 1) d (by omega) (by simpa using hd)
theorem stepP_at {l : List Sh} {p q : Pee} {k : Nat} {d : Sh} (h : ∀ (i : Nat) (d : Sh), i < k → l[i]? = some d → oneStep d p = none) (hd : l[k]? = some d) (hq : oneStep d p = some q) : stepP l p = some q := by
  rw [stepP_skip h]
  obtain ⟨hk, e⟩ := List.getElem?_eq_some_iff.1 hd
  rw [List.drop_eq_getElem_cons hk, e]
  show (match oneStep d p with | some q => some q | none => _) = _
  rw [hq]
theorem stepP_none {l : List Sh} {p : Pee} (h : ∀ (i : Nat) (d : Sh), i < l.length → l[i]? = some d → oneStep d p = none) : stepP l p = none := by
  rw [stepP_skip h, List.drop_length]; rfl
/-- steps as often as possible -/
def peelN (l : List Sh) : Nat → Pee → Pee
  | 0, p => p
  | n + 1, p => match stepP l p with
    | none => p
    | some q => peelN l n q
theorem peelN_none {l : List Sh} {p : Pee} (h : stepP l p = none) : ∀ n, peelN l n p = p
  | 0 => rfl
  | n + 1 => by show (match stepP l p with | none => p | some q => peelN l n q) = p; rw [h]
theorem peelN_some {l : List Sh} {p q : Pee} (h : stepP l p = some q) (n : Nat) : peelN l (n + 1) p = peelN l n q := by
  show (match stepP l p with | none => p | some q => peelN l n q) = _; rw [h]
/-- how many are not known -/
def left (p : Pee) : Nat := ((List.range p.1.length).filter fun k => !knw p k).length
theorem stepP_cases {l : List Sh} {p q : Pee} (h : stepP l p = some q) : ∃ (d : Sh) (k : Nat), d ∈ l ∧ punk d p = [k] ∧ q = putP p k (pdat d p) := by
  induction l with
  | nil => cases h
  | cons d l ih =>
    have h' : (match oneStep d p with | some q => some q | none => stepP l p) = some q := h
    cases hd : oneStep d p with
    | none =>
      rw [hd] at h'
      obtain ⟨d', k, h1, h2⟩ := ih h'
      exact ⟨d', k, List.mem_cons_of_mem _ h1, h2⟩
    | some q' =>
      rw [hd] at h'
      obtain rfl : q' = q := by simpa using h'
      unfold oneStep at hd
      split at hd
      · rename_i k e
        exact ⟨d, k, List.mem_cons_self, e, (Option.some.inj hd).symm⟩
      · cases hd
theorem punk_mem {d : Sh} {p : Pee} {k : Nat} (h : k ∈ punk d p) : k < p.1.length ∧ inF d.1.toNat p.1.length k = true ∧ knw p k = false := by
  simp only [punk, unk, List.mem_filter, blkN, blkK_mem] at h
  exact ⟨h.1.1, h.1.2, by simpa using h.2⟩
theorem putP_knw {p : Pee} {k i : Nat} {x : List UInt8} (hk : k < p.2.1.length) : knw (putP p k x) i = if i = k then true else knw p i := by
  show (p.2.1.set k true).getD i false = _
  rw [getD_set _ _ _ _ _ hk]
  rfl
theorem filter_drop_one {f g : Nat → Bool} {n k : Nat} (hk : k < n) (hf : f k = true) (hg : ∀ i, g i = if i = k then false else f i) : ((List.range n).filter g).length + 1 = ((List.range n).filter f).length := by
  induction n with
  | zero => omega
  | succ n ih =>
    rw [List.range_succ, List.filter_append, List.filter_append, List.length_append, List.length_append]
    by_cases e : k = n
    · subst e
      have h1 : ∀ m, m ≤ k → (List.range m).filter g = (List.range m).filter f := fun m hm => by
        apply List.filter_congr
        intro i hi
        have := List.mem_range.1 hi
        rw [hg i, if_neg (by omega)]
      rw [h1 k (Nat.le_refl _)]
      have h2 : g k = false := by rw [hg k, if_pos rfl]
      simp [h2, hf]
    · have h3 : g n = f n := by rw [hg n, if_neg (fun h => e h.symm)]
      have := ih (by omega)
      cases hn : f n <;> simp [h3, hn] <;> omega
theorem stepP_left {l : List Sh} {p q : Pee} (h : stepP l p = some q) (hl : p.2.1.length = p.1.length) : left q + 1 = left p ∧ q.1.length = p.1.length ∧ q.2.1.length = p.2.1.length ∧ q.2.2 = p.2.2 + 1 := by
  obtain ⟨d, k, _, hk, rfl⟩ := stepP_cases h
  have hm := punk_mem (p := p) (d := d) (k := k) (by rw [hk]; exact List.mem_singleton.2 rfl)
  refine ⟨?_, by simp [putP], by simp [putP], rfl⟩
  unfold left
  have e : (putP p k (pdat d p)).1.length = p.1.length := by simp [putP]
  rw [e]
  refine filter_drop_one hm.1 (by simp [hm.2.2]) fun i => ?_
  rw [putP_knw (by omega)]
  by_cases h : i = k
  · simp [h]
  · simp [h]
theorem stepP_full {l : List Sh} {p : Pee} (h : left p = 0) : stepP l p = none := by
  cases hs : stepP l p with
  | none => rfl
  | some q =>
    obtain ⟨d, k, _, hk, _⟩ := stepP_cases hs
    have hm := punk_mem (p := p) (d := d) (k := k) (by rw [hk]; exact List.mem_singleton.2 rfl)
    have : k ∈ (List.range p.1.length).filter fun k => !knw p k := by simp [hm.1, hm.2.2]
    rw [List.eq_nil_of_length_eq_zero h] at this
    cases this
/-- valid drops -/
def dropsOk (l : List Sh) : Bool := decide (l.length ≤ 40) && ((l.all fun d => seedOk d.1) && textsOk (l.map (·.2)))
/-- a valid state for drops -/
def peeOk (l : List Sh) (p : Pee) : Bool := bcOk p.1.length && (decide (p.2.1.length = p.1.length) && (decide (p.2.2 = ((List.range p.1.length).filter fun k => knw p k).length) &&
  (List.range p.1.length).all fun k => decide ((p.1.getD k []).length = if knw p k then (l.getD 0 (0, [])).2.length else 0)))
def stpOk (l : List Sh) (p : Pee) : Bool := dropsOk l && (peeOk l p && (stepP l p).isSome)
def stpR (l : List Sh) (p : Pee) : Pee := if stpOk l p = true then (stepP l p).getD ([], [], 0) else ([], [], 0)
def pee0 (b : Nat) : Pee := (List.replicate b [], List.replicate b false, 0)
def pelOk (l : List Sh) (b : Int) : Bool := dropsOk l && bcOk b
def pelR (l : List Sh) (b : Int) : Pee := if pelOk l b = true then peelN l b.toNat (pee0 b.toNat) else ([], [], 0)
theorem left_pee0 (b : Nat) : left (pee0 b) = b := by
  unfold left
  have e : (pee0 b).1.length = b := by simp [pee0]
  rw [e]
  have : (List.range b).filter (fun k => !knw (pee0 b) k) = List.range b := by
    apply List.filter_eq_self.2
    intro k hk
    have := List.mem_range.1 hk
    simp [knw, pee0, List.getD, this]
  rw [this]; simp
end G294
namespace G294
structure PeeP (n : Nat) (p : Pee) : Prop where
  b1 : 1 ≤ p.1.length
  b2 : p.1.length ≤ 12
  kl : p.2.1.length = p.1.length
  many : p.2.2 = ((List.range p.1.length).filter fun k => knw p k).length
  len : ∀ k, k < p.1.length → (p.1.getD k []).length = if knw p k then n else 0
theorem peeOk_iff {l : List Sh} {p : Pee} : peeOk l p = true ↔ PeeP (l.getD 0 (0, [])).2.length p := by
  constructor
  · intro h
    simp only [peeOk, bcOk, Bool.and_eq_true, decide_eq_true_eq, List.all_eq_true, List.mem_range] at h
    obtain ⟨h1, h2, h3, h4⟩ := h
    exact ⟨by omega, by omega, h2, h3, h4⟩
  · intro ⟨h1, h2, h3, h4, h5⟩
    simp only [peeOk, bcOk, Bool.and_eq_true, decide_eq_true_eq, List.all_eq_true, List.mem_range]
    exact ⟨by omega, h3, h4, h5⟩
theorem pdat_len (d : Sh) (p : Pee) : (pdat d p).length = d.2.length := by simp [pdat]
theorem dropsOk_len {l : List Sh} (h : dropsOk l = true) : l.length ≤ 40 ∧ (∀ d ∈ l, 0 ≤ d.1 ∧ d.1 ≤ 100000 ∧ d.2.length = (l.getD 0 (0, [])).2.length ∧ d.2.length ≤ 40) := by
  simp only [dropsOk, Bool.and_eq_true, decide_eq_true_eq, List.all_eq_true] at h
  obtain ⟨h1, h2, h3⟩ := h
  refine ⟨h1, fun d hd => ?_⟩
  have := seedOk_b (h2 d hd)
  have ht := textsOk_all.1 h3 d.2 (List.mem_map_of_mem hd)
  have e : ((l.map (·.2)).getD 0 []).length = (l.getD 0 (0, [])).2.length := by
    cases l with
    | nil => rfl
    | cons s l => rfl
  rw [e] at ht
  exact ⟨this.1, this.2, ht.1, ht.2⟩
theorem stepP_good {l : List Sh} {p q : Pee} (hl : dropsOk l = true) (hp : peeOk l p = true) (h : stepP l p = some q) : peeOk l q = true := by
  obtain ⟨d, k, hd, hk, rfl⟩ := stepP_cases h
  obtain ⟨h1, h2, h3, h4, h5⟩ := peeOk_iff.1 hp
  have hm := punk_mem (p := p) (d := d) (k := k) (by rw [hk]; exact List.mem_singleton.2 rfl)
  have hdl := (dropsOk_len hl).2 d hd
  have e : (putP p k (pdat d p)).1.length = p.1.length := by simp [putP]
  refine peeOk_iff.2 ⟨by rw [e]; exact h1, by rw [e]; exact h2, by rw [e]; simpa [putP] using h3, ?_, fun i hi => ?_⟩
  · rw [e]
    show p.2.2 + 1 = _
    have := filter_drop_one (f := fun i => knw (putP p k (pdat d p)) i) (g := fun i => knw p i) hm.1 (by show knw (putP p k (pdat d p)) k = true; rw [putP_knw (by omega), if_pos rfl]) fun i => by
      show knw p i = if i = k then false else knw (putP p k (pdat d p)) i
      rw [putP_knw (by omega)]
      by_cases hi : i = k
      · subst hi; simp [hm.2.2]
      · simp [hi]
    omega
  · rw [e] at hi
    rw [putP_knw (by omega)]
    show ((p.1.set k (pdat d p)).getD i []).length = _
    rw [getD_set _ _ _ _ _ hm.1]
    by_cases hik : i = k
    · rw [if_pos hik, if_pos hik, pdat_len, hdl.2.2.1]; simp
    · rw [if_neg hik, if_neg hik]; exact h5 i hi
theorem pee0_good (l : List Sh) {b : Nat} (h1 : 1 ≤ b) (h2 : b ≤ 12) : peeOk l (pee0 b) = true := by
  have e : (pee0 b).1.length = b := by simp [pee0]
  have hk : ∀ k, k < b → knw (pee0 b) k = false := fun k hk => by simp [knw, pee0, List.getD, hk]
  refine peeOk_iff.2 ⟨by rw [e]; exact h1, by rw [e]; exact h2, by simp [pee0], ?_, fun k hk' => ?_⟩
  · rw [e]
    have : (List.range b).filter (fun k => knw (pee0 b) k) = [] := by
      apply List.filter_eq_nil_iff.2
      intro k hk'
      have := hk k (List.mem_range.1 hk')
      simp [this]
    rw [this]; rfl
  · rw [e] at hk'
    rw [hk k hk']
    simp [pee0, List.getD, hk']
theorem stpOk_step {l : List Sh} {p q : Pee} (hl : dropsOk l = true) (hp : peeOk l p = true) (h : stepP l p = some q) : stpOk l p = true ∧ stpR l p = q := by
  have : stpOk l p = true := by simp [stpOk, hl, hp, h]
  exact ⟨this, by unfold stpR; rw [if_pos this, h]; rfl⟩
theorem stpOk_none {l : List Sh} {p : Pee} (h : stepP l p = none) : stpOk l p = false ∧ stpR l p = ([], [], 0) := by
  have : stpOk l p = false := by simp [stpOk, h]
  exact ⟨this, by unfold stpR; rw [if_neg (by rw [this]; decide)]⟩
theorem stpOk_bad {l : List Sh} {p : Pee} (h : dropsOk l = false ∨ peeOk l p = false) : stpOk l p = false ∧ stpR l p = ([], [], 0) := by
  have : stpOk l p = false := by rcases h with h | h <;> simp [stpOk, h]
  exact ⟨this, by unfold stpR; rw [if_neg (by rw [this]; decide)]⟩
end G294

/- From the readings of a law's arguments to what its walk asks: a drop, a state of peeling. -/
namespace G294
open Go Go.ChangeShapes Go.WideShapes Go.ChangeAt Go.RowKit Go.Deep Go.Joins
section
variable {H : Type} {enc : TypeId × Value → H} {P : Program} {W : World} {base : Nat} {t e q s : TypeId} {v : Value} {d : DataW H} {p : List MemPlace} {f0 f1 f2 : Field}
theorem open_drop (hs : P.underlying t = some (.struct #[f0, f1])) (hone : oneCellFields P #[f0, f1] = true) (hC : P.cellsOf t = 2) (u0 : P.underlying f0.type = some (.int .i64)) (u1 : P.underlying f1.type = some .string)
    (hv : Value.okWide P W .any base t v) (h : DataW.Trod enc P W 0 (fun _ => true) true t v d p) : ∃ (g : Int) (l : List UInt8), v = .agg #[.int .i64 g, .string (str l)] ∧ l.length ≤ maxLen := by
  obtain ⟨v0, v1, y0, y1, n, rfl, _, _, h0, h1⟩ := open_agg2 hs hone hC hv h
  obtain ⟨g, hg, _⟩ := DataW.trod_int u0 h0
  obtain ⟨s, hs, _, hsl⟩ := DataW.trod_string u1 h1
  simp only [List.cons.injEq, and_true] at hg hs
  exact ⟨g, s.data.toList, by rw [hg, hs, ← str_eq], by rw [Array.length_toList]; exact hsl⟩
theorem seen_bools1 {held : Bool} {fuel : Nat} {x : DataW H × List MemPlace} (ht : P.underlying t = some (.slice e)) (he : P.underlying e = some .bool) (hc : P.cellsOf e = 1)
    (h : DataW.trod enc P W 0 (fun _ => true) held fuel t [v] = some x) : ∃ l : List Bool, Seen W v (bls l) := by
  rcases open_bools ht he hc h with ⟨hcs, hx⟩ | ⟨a, len, cap, B, hcs, _, hl, hm, hx, hcell⟩
  · obtain rfl : v = .slice none 0 0 := by simpa using hcs
    exact ⟨[], Seen.nil W⟩
  · obtain rfl : v = .slice (some a) len cap := by simpa using hcs
    refine ⟨mkB len B, some a, cap, by simp, by simp [hl], hm, fun hn => ?_⟩
    rw [bls_length, mkB_length] at hn
    obtain ⟨b, off, spot⟩ := a
    have hspot : spot = none := by simpa [Addr.add] using World.cell?_spot (hcell 0 (by omega))
    subst hspot
    have hc' : ∀ i, i < cap → W.cell? ⟨b, off + i, none⟩ = some (.bool (B i)) := fun i hi => by
      rw [← Go.WideShapes.add_plain]; exact hcell i hi
    refine ⟨b, off, rfl, World.block_lt_of_cell? W _ (hc' 0 (by omega)), fun i u hu => ?_⟩
    have hi : i < len := by
      rcases Nat.lt_or_ge i len with h | h
      · exact h
      · rw [List.getElem?_eq_none (by simpa using h)] at hu; cases hu
    rw [hc' i (by omega), ← hu]
    simp [bls, mkB, hi]
theorem open_peel (hs : P.underlying s = some (.struct #[f0, f1, f2])) (hone : oneCellFields P #[f0, f1, f2] = true) (hC : P.cellsOf s = 3) (h0 : P.underlying f0.type = some (.slice e)) (h1 : P.underlying f1.type = some (.slice q)) (h2 : P.underlying f2.type = some (.int .i64))
    (he : P.underlying e = some .string) (hc : P.cellsOf e = 1) (hq : P.underlying q = some .bool) (hcq : P.cellsOf q = 1)
    (hv : Value.okWide P W .any base s v) (h : DataW.Trod enc P W 0 (fun _ => true) true s v d p) :
    ∃ (x u : Value) (p : Pee), v = .agg #[x, u, .int .i64 p.2.2] ∧ Seen W x (strs p.1) ∧ Seen W u (bls p.2.1) ∧ (∀ s ∈ p.1, s.length ≤ maxLen) := by
  obtain ⟨v0, v1, v2, y0, y1, y2, n, rfl, _, _, g0, g1, g2⟩ := open_agg3 hs hone hC hv h
  obtain ⟨l, hl, ml⟩ := seen_strs1 h0 he hc g0
  obtain ⟨m, hm⟩ := seen_bools1 h1 hq hcq g1
  obtain ⟨g, hg, _⟩ := DataW.trod_int h2 g2
  simp only [List.cons.injEq, and_true] at hg
  exact ⟨v0, v1, (l, m, g), by rw [hg], hl, hm, ml⟩
end
end G294

/- Contracts of the laws' helpers on []Drop: equality, marks, marks held. -/
namespace Go.Proofs.YtbfchebnooanjaaDoor
open Go.RowKit G294

theorem infoDrop : (Tryd.prog.info? 84).map (fun i => (i.zero, i.size, i.bytes)) = some (some (.agg #[.int .i64 0, .string ⟨#[]⟩]), 2, 24) := by kernel_rfl

set_option maxRecDepth 100000 in
set_option maxHeartbeats 1000000 in
theorem eqDrop_same (n : Int) (s : List UInt8) (w : World) : Calls Tryd.prog 49 #[.agg #[.int .i64 n, .string (str s)], .agg #[.int .i64 n, .string (str s)]] w (RetBool w true) := by
  have hb0 : Below w.heap.size w (w.alloc (.cells #[.int .i64 n, .string (str s)] 84)) := (Below.refl _ _).alloc (Nat.le_refl _) _
  have hb1 : Below w.heap.size w ((w.alloc (.cells #[.int .i64 n, .string (str s)] 84)).alloc (.cells #[.int .i64 n, .string (str s)] 84)) := hb0.alloc (by simp) _
  have hbb := str_same s
  have hnn : ((n : Int) != (n : Int)) = false := by simp
  clear hb0
  go_enter Tryd.func49, Tryd.ntmps49
  go_wp2_with fail
  go_ret
  exact ⟨rfl, TurnIn.of_below hb1⟩

set_option maxRecDepth 100000 in
set_option maxHeartbeats 1000000 in
theorem eqDropS_same (v u : Value) (l : List Sh) (w : World) (hv : SeenH w v l) (hu : SeenH w u l) :
    Calls Tryd.prog 21 #[v, u] w (RetBool w true) := by
  obtain ⟨A, c, rfl, hlc, hcm, hx⟩ := hv
  obtain ⟨A', c', rfl, hlc', hcm', hx'⟩ := hu
  unfold maxLen at hcm hcm'
  generalize hnn : l.length = n at *
  have HN := Lib.hid hnn
  clear hnn
  have hbn : ((n : Int) != (n : Int)) = false := by simp
  go_enter Tryd.func21, Tryd.ntmps21
  go_wp2_with fail
  go_loopw [5] (fun i wr => ∃ k : Nat, k ≤ n ∧ i = .int .i64 k ∧ Below w.heap.size w wr)
    (fun i _ => n - (intOf i).toNat)
  case atStart => exact ⟨0, Nat.zero_le _, rfl, Below.refl _ _⟩
  case round =>
    obtain ⟨k, hk, rfl, hb⟩ := hrel
    by_cases hlt : k < n
    · obtain ⟨b, off, rfl, hbl, hcell⟩ := hx (by omega)
      obtain ⟨b', off', rfl, hbl', hcell'⟩ := hx' (by omega)
      obtain ⟨⟨no, s⟩, hks⟩ := at_lt HN.out hlt
      have hc1 := (hb.cell (p := ⟨b, off + k * 2, none⟩) hbl).trans (hcell k _ hks).1
      have hc2 := (hb.cell (p := ⟨b, off + k * 2 + 1, none⟩) hbl).trans (hcell k _ hks).2
      have hd1 := (hb.cell (p := ⟨b', off' + k * 2, none⟩) hbl').trans (hcell' k _ hks).1
      have hd2 := (hb.cell (p := ⟨b', off' + k * 2 + 1, none⟩) hbl').trans (hcell' k _ hks).2
      simp only at hc1 hc2 hd1 hd2
      clear hcell hcell' hx hx'
      have hbs := hb.size
      have hki : (k : Int) < (n : Int) := by omega
      go_wp2_with fail
      go_region_held3 (fun w' => (w'.cell? ⟨b, off + k * 2, none⟩ = some (.int .i64 no) ∧ w'.cell? ⟨b, off + k * 2 + 1, none⟩ = some (.string (str s))) ∧ w'.cell? ⟨b', off' + k * 2, none⟩ = some (.int .i64 no) ∧ w'.cell? ⟨b', off' + k * 2 + 1, none⟩ = some (.string (str s)))
        (first | exact ⟨⟨hc1, hc2⟩, hd1, hd2⟩ | exact ⟨⟨cell_turn ht hc1 (by simp; omega), cell_turn ht hc2 (by simp; omega)⟩, cell_turn ht hd1 (by simp; omega), cell_turn ht hd2 (by simp; omega)⟩)
        ((go_at_call 49; refine (eqDrop_same no s _).mono ?_; rintro e w' ⟨rfl, ht⟩))
      all_goals
        have hb2 : Below w.heap.size w w' := ht.base (below_drewN hb 1) (by simp; omega) (by omega)
        go_wp2_with fail
        go_roundw
        case rel => exact ⟨k + 1, by omega, by go_num, hb2⟩
        case measure => simp [intOf]; omega
    · obtain rfl : k = n := by omega
      go_wp2_with fail
      go_ret
      exact ⟨rfl, TurnIn.of_below hb⟩

set_option maxRecDepth 100000 in
set_option maxHeartbeats 2000000 in
theorem markDropS_own (v : Value) (l : List Sh) (k0 lo hi : Nat) (w : World) (hv : OwnSh 84 w lo hi v l) (h1 : 0 < k0) (hk0 : k0 + l.length * 2 ≤ 1000000000000) :
    Calls Tryd.prog 22 #[v, .int .i64 k0] w (RetMarkH 84 w lo hi v k0 l.length) := by
  have hown0 := hv
  rcases hv.1.2 with ⟨rfl, hn⟩ | ⟨g, cap, cur, rfl, hbg, hg, hnc, hcm, hcs, ht⟩
  · have : l = [] := List.eq_nil_of_length_eq_zero hn
    subst this
    have HE := Lib.hid hown0
    clear hown0 hv hn
    go_enter Tryd.func22, Tryd.ntmps22
    go_wp2_with fail
    refine wp_loop_once ?_
    go_wp2_with fail
    go_ret
    exact ⟨rfl, HE.out, ⟨rfl, rfl, rfl, Nat.le_refl _, fun _ _ _ => rfl⟩⟩
  · have hgh : g < hi := hv.2.2 g rfl
    have htop : hi ≤ w.heap.size := hv.2.1
    replace hown0 := hv.1
    clear hv hg ht hcs
    unfold maxLen at hcm
    generalize hnn : l.length = n at *
    have HN := Lib.hid hnn
    clear hnn
    go_enter Tryd.func22, Tryd.ntmps22
    go_wp2_with fail
    go_loopw [1, 5] (fun q i wr => ∃ k : Nat, k ≤ n ∧ i = .int .i64 k ∧ q = .int .i64 ((k0 + k * 2 : Nat) : Int) ∧ wr.ownsRow lo 84 2 (.slice (some ⟨g, 0, none⟩) n cap) n (shs ((marksH k0 n).take k ++ l.drop k)) ∧ TurnIn lo hi w wr)
      (fun _ i _ => n - (intOf i).toNat)
    case atStart => exact ⟨0, Nat.zero_le _, rfl, by simp, by simpa using hown0, ⟨rfl, rfl, rfl, Nat.le_refl _, fun _ _ _ => rfl⟩⟩
    case round =>
      obtain ⟨k, hk, rfl, rfl, hown, hgr⟩ := hrel
      clear hown0
      by_cases hlt : k < n
      · have hki : (k : Int) < (n : Int) := by omega
        have hlen : ((marksH k0 n).take k ++ l.drop k).length = n := by simp [HN.out]; omega
        obtain ⟨⟨no, s⟩, hks⟩ := at_lt hlen hlt
        obtain ⟨hkl, hke⟩ := List.getElem?_eq_some_iff.1 hks
        have hco : wr.cell? ⟨g, k * 2, none⟩ = some (.int .i64 no) := by
          rw [hown.cellAt (k * 2) (by omega), shs_no _ k hkl, hke]
        have hfr := hown.frozenAt (k * 2)
        have hst := hown.stored (k * 2) (.int .i64 ((k0 + k * 2 : Nat) : Int))
        have hst2 : TurnIn lo hi w _ := turn_trans hgr (TurnIn.of_grown (lo := lo) (hi := hi) hst.2 (fun g' e => by simp [Value.ownBlock] at e; omega)) (by omega)
        have HL : Hid ((((shs ((marksH k0 n).take k ++ l.drop k)).set (k * 2) (.int .i64 ((k0 + k * 2 : Nat) : Int))).set (k * 2 + 1) (.string (str (mtext (k0 + k * 2 + 1))))) = shs ((marksH k0 n).take (k + 1) ++ l.drop (k + 1))) := by
          show _ = _
          rw [shs_set _ k (((k0 + k * 2 : Nat) : Int), mtext (k0 + k * 2 + 1)) hkl, take_set_over _ _ k _ (by rw [List.getElem?_eq_getElem (by simpa using hlt), marksH_get]) (by simp [HN.out])]
        have HD : Hid ((shs ((marksH k0 n).take k ++ l.drop k))[k * 2 + 1]? = some (.string (str s))) := by
          show _ = _
          rw [shs_data _ k hkl, hke]
        have HC1 : Hid (((k0 + k * 2 : Nat) : Int) + 1 = ((k0 + k * 2 + 1 : Nat) : Int)) := (Int.natCast_add _ 1).symm
        generalize shs ((marksH k0 n).take k ++ l.drop k) = XS at *
        obtain ⟨m, hm⟩ : ∃ m, m = k0 + k * 2 := ⟨_, rfl⟩
        rw [← hm] at hst hst2 HL HC1 ⊢
        have hm1 : m + 2 ≤ 1000000000000 := by omega
        have hm0 : 0 < m := by omega
        have HM := Lib.hid hm
        have hst1 := hst.1
        have HB2 := Lib.hid hst2
        have HCT : Hid (∀ W, Calls Tryd.prog 50 #[.int .i64 ((m : Int) + 1)] W (RetStr W (mtext (m + 1)))) := fun W => HC1.out ▸ markText_ret (m + 1) W (by omega) (by omega)
        clear hst hown hke hkl hks hlen hgr hst2 hm
        go_wp2_with fail
        refine (HCT.out _).mono ?_
        rintro e w' ⟨rfl, ht⟩
        have hown' := owns_turn0 hst1 ht
        have hsz := ht.size
        have hgs := HB2.out.size
        have hco2 : w'.cell? ⟨g, k * 2 + 1, none⟩ = some (.string (str s)) := by
          rw [hown'.cellAt (k * 2 + 1) (by omega), List.getElem?_set_ne (by omega)]; exact HD.out
        have hfr2 := hown'.frozenAt (k * 2 + 1)
        have hst3 := hown'.stored (k * 2 + 1) (.string (str (mtext (m + 1))))
        rw [HL.out] at hst3
        have hst4 : TurnIn lo hi w _ := turn_trans (turn_trans HB2.out ht (by omega)) (TurnIn.of_grown (lo := lo) (hi := hi) hst3.2 (fun g' e => by simp [Value.ownBlock] at e; omega)) (by omega)
        have hst5 := hst3.1
        clear hst3 hown' hst1
        go_wp2_with fail
        go_roundw
        case rel => exact ⟨k + 1, by omega, by go_num, by have := HM.out; go_num, hst5, hst4⟩
        case measure => simp [intOf]; omega
      · obtain rfl : k = n := by omega
        go_wp2_with fail
        go_ret
        refine ⟨rfl, ?_, hgr⟩
        rw [List.take_of_length_le (by simp), List.drop_of_length_le (by rw [HN.out]; exact Nat.le_refl _), List.append_nil] at hown
        exact ⟨by simpa using hown, Nat.le_trans htop hgr.size, fun g' e => by simp [Value.ownBlock] at e; omega⟩

end Go.Proofs.YtbfchebnooanjaaDoor

/- Contracts of the laws' helpers on []Shard: equality, marks, marks held. -/
namespace Go.Proofs.YtbfchebnooanjaaDoor
open Go.RowKit G294

theorem infoShard : (Tryd.prog.info? 27).map (fun i => (i.zero, i.size, i.bytes)) = some (some (.agg #[.int .i64 0, .string ⟨#[]⟩]), 2, 24) := by kernel_rfl

end Go.Proofs.YtbfchebnooanjaaDoor

/- Shards as arguments: the laws' copies and sizes, and the program's textsOf. -/
namespace G294
open Go Go.RowKit
def sizH (l : List Sh) : Nat := sizM (l.map (·.2))
theorem sizH_take_succ (l : List Sh) (k : Nat) (h : k < l.length) : sizH (l.take (k + 1)) = sizH (l.take k) + l[k].2.length := by
  unfold sizH
  rw [List.map_take, List.map_take, sizM_take_succ _ k (by simpa using h)]
  simp [List.getD, h]
theorem sizH_take_le (l : List Sh) (k : Nat) : sizH (l.take k) ≤ sizH l := by
  unfold sizH
  rw [List.map_take]; exact sizM_take_le _ _
theorem toList_madeCells_shs (n : Nat) : (madeCells #[.int .i64 0, .string ⟨#[]⟩] (n * 2)).toList = shs (List.replicate n ((0 : Int), ([] : List UInt8))) := by
  apply List.ext_getElem?
  intro j
  by_cases hj : j < n * 2
  · rcases Nat.mod_two_eq_zero_or_one j with h | h
    · have e : j = (j / 2) * 2 := by omega
      rw [e, shs_no _ (j / 2) (by simp; omega)]
      simp [madeCells, show j / 2 * 2 < n * 2 by omega]
    · have e : j = (j / 2) * 2 + 1 := by omega
      have h2 : (j / 2 * 2 + 1) % 2 = 1 := by omega
      rw [e, shs_data _ (j / 2) (by simp; omega)]
      simp [madeCells, show j / 2 * 2 + 1 < n * 2 by omega, h2]
      rfl
  · rw [List.getElem?_eq_none (by simp [madeCells]; omega), List.getElem?_eq_none (by simp; omega)]
end G294
namespace Go.Proofs.YtbfchebnooanjaaDoor
open Go.RowKit G294

set_option maxRecDepth 100000 in
set_option maxHeartbeats 1000000 in
theorem textsOf_own (v : Value) (l : List Sh) (w : World) (hv : SeenH w v l) (hn : l.length ≤ 1048576) : Calls Tryd.prog 71 #[v] w (RetStrs 9 w (l.map (·.2))) := by
  obtain ⟨i0, hi0, hz0, hz1, hz2⟩ := info_parts infoStr
  obtain ⟨A, c, rfl, hlc, hcm, hx⟩ := hv
  unfold maxLen at hcm
  have hlm : (l.map (·.2)).length = l.length := by simp
  generalize hT : l.map (·.2) = T at *
  have HTT := Lib.hid hT
  clear hT
  generalize hnn : l.length = n at *
  have HN := Lib.hid hnn
  have HLM := Lib.hid hlm
  clear hnn hlm
  go_enter Tryd.func71, Tryd.ntmps71
  go_wp2_with (at_make; refine wpList_make_full _ rfl _ _ _ rfl w.heap.size _ i0 _ 1 Tryd.underlying35 hi0 hz0 hz1 _ _ _ _ n rfl rfl rfl rfl ?b2 ?b3 ?b4 ?_)
  case b2 => rw [hz2]; omega
  case b3 => unfold maxLen; omega
  case b4 => exact Nat.le_refl _
  intro w1 hown1 hg1
  have hb1 : Below w.heap.size w w1 := below_of_grown hg1 (Nat.le_refl _) (by simp)
  rw [toList_madeCells_one] at hown1
  have hs1 := (hown1.lt w.heap.size rfl).2
  clear hg1
  go_wp2_with fail
  go_loopw [11] (fun i wr => ∃ k : Nat, k ≤ n ∧ i = .int .i64 k ∧ wr.ownsRow w.heap.size 9 1 (.slice (some ⟨w.heap.size, 0, none⟩) n n) n ((strs T).take k ++ List.replicate (n - k) (.string ⟨#[]⟩)) ∧ Below w.heap.size w wr)
    (fun i _ => n - (intOf i).toNat)
  case atStart => exact ⟨0, Nat.zero_le _, rfl, by simpa using hown1, hb1⟩
  case round =>
    obtain ⟨k, hk, rfl, hown, hb⟩ := hrel
    clear hown1 hb1
    by_cases hlt : k < n
    · obtain ⟨b, off, rfl, hbl, hcell⟩ := hx (by omega)
      obtain ⟨⟨no, s⟩, hks⟩ := at_lt HN.out hlt
      have hc1 := (hb.cell (p := ⟨b, off + k * 2, none⟩) hbl).trans (hcell k _ hks).1
      have hc2 := (hb.cell (p := ⟨b, off + k * 2 + 1, none⟩) hbl).trans (hcell k _ hks).2
      simp only at hc1 hc2
      have hki : (k : Int) < (n : Int) := by omega
      have hTk : (strs T)[k]? = some (.string (str s)) := by
        rw [← HTT.out]; simp [strs, hks]
      have HTK := Lib.hid hTk
      have hwr := (hown.lt w.heap.size rfl).2
      have hown2 := hown.alloc (.cells #[.int .i64 no, .string (str s)] 27)
      have hco : (wr.alloc (.cells #[.int .i64 no, .string (str s)] 27)).cell? ⟨w.heap.size, k, none⟩ = some (.string ⟨#[]⟩) := by
        have ht : ((strs T).take k).length = k := by simp [HLM.out]; omega
        rw [hown2.cellAt k (by omega), List.getElem?_append_right (by omega), ht, Nat.sub_self, List.getElem?_replicate, if_pos (by omega)]
      have hfr := hown2.frozenAt k
      have hst := hown.stored k (.string (str s))
      rw [take_set_next (strs T) _ k _ hTk (by simp [HLM.out]; omega)] at hst
      have hst1 := hst.1.alloc (.cells #[.int .i64 no, .string (str s)] 27)
      have hb2 := (hb.setCell (p := ⟨w.heap.size, k, none⟩) (Nat.le_refl _) (.string (str s))).alloc (by have := hb.size; simp; omega) (.cells #[.int .i64 no, .string (str s)] 27)
      clear hcell hx hown2 hTk
      go_wp2_with fail
      go_roundw
      case rel => exact ⟨k + 1, by omega, by go_num, by simpa [Nat.sub_sub] using hst1, hb2⟩
      case measure => simp [intOf]; omega
    · obtain rfl : k = n := by omega
      have hki : ¬ (k : Int) < (k : Int) := by omega
      go_wp2_with fail
      go_ret
      refine ⟨_, rfl, OwnStrs.of_made ?_, TurnIn.of_below hb⟩
      rw [List.take_of_length_le (by simp [HLM.out]), Nat.sub_self] at hown
      rw [HLM.out]
      simpa using hown

end Go.Proofs.YtbfchebnooanjaaDoor

/- Drops as arguments: the laws' copies and sizes. -/
namespace Go.Proofs.YtbfchebnooanjaaDoor
open Go.RowKit G294

set_option maxRecDepth 100000 in
set_option maxHeartbeats 1000000 in
theorem toDrop_own (n : Int) (s : List UInt8) (w : World) : Calls Tryd.prog 43 #[.agg #[.int .i64 n, .string (str s)]] w fun e w' => e = .returned (.agg #[.int .i64 n, .string (str s)]) ∧ TurnIn 0 0 w w' := by
  have kk : TurnIn 0 0 w (((w.alloc (.cells #[.int .i64 n, .string (str s)] 78)).alloc (.cells #[.int .i64 n, .string (str s)] 84)).alloc (.cells #[.int .i64 n, .string (str s)] 84)) := turn_trans (turn_trans (turn_alloc _ _) (turn_alloc _ _) (by omega)) (turn_alloc _ _) (by omega)
  go_enter Tryd.func43, Tryd.ntmps43
  go_wp2_with fail
  refine bodyPost_ret (v := .agg #[.int .i64 n, .string (str s)]) (by simp [results, Tryd.results43, go_sem]) rfl ?_
  exact ⟨rfl, kk⟩

set_option maxRecDepth 100000 in
set_option maxHeartbeats 2000000 in
theorem toDropS_own (v : Value) (l : List Sh) (w : World) (hv : SeenH w v l) (hn : l.length ≤ 1048576) : Calls Tryd.prog 18 #[v] w (RetShs 84 w l) := by
  obtain ⟨i0, hi0, hz0, hz1, hz2⟩ := info_parts infoDrop
  obtain ⟨A, c, rfl, hlc, hcm, hx⟩ := hv
  unfold maxLen at hcm
  generalize hnn : l.length = n at *
  have HN := Lib.hid hnn
  clear hnn
  go_enter Tryd.func18, Tryd.ntmps18
  go_wp2_with (at_make; refine wpList_make_full _ rfl _ _ _ rfl w.heap.size _ i0 _ 2 Tryd.underlying45 hi0 hz0 hz1 _ _ _ _ n rfl rfl rfl rfl ?b2 ?b3 ?b4 ?_)
  case b2 => rw [hz2]; omega
  case b3 => unfold maxLen; omega
  case b4 => exact Nat.le_refl _
  intro w1 hown1 hg1
  have hb1 : Below w.heap.size w w1 := below_of_grown hg1 (Nat.le_refl _) (by simp)
  rw [toList_madeCells_shs] at hown1
  clear hg1
  go_wp2_with fail
  go_loopw [4] (fun i wr => ∃ k : Nat, k ≤ n ∧ i = .int .i64 k ∧ wr.ownsRow w.heap.size 84 2 (.slice (some ⟨w.heap.size, 0, none⟩) n n) n (shs (l.take k ++ List.replicate (n - k) ((0 : Int), ([] : List UInt8)))) ∧ Below w.heap.size w wr)
    (fun i _ => n - (intOf i).toNat)
  case atStart => exact ⟨0, Nat.zero_le _, rfl, by simpa using hown1, hb1⟩
  case round =>
    obtain ⟨k, hk, rfl, hown, hb⟩ := hrel
    clear hown1 hb1
    by_cases hlt : k < n
    · obtain ⟨b, off, rfl, hbl, hcell⟩ := hx (by omega)
      obtain ⟨⟨no, s⟩, hks⟩ := at_lt HN.out hlt
      have hc1 := (hb.cell (p := ⟨b, off + k * 2, none⟩) hbl).trans (hcell k _ hks).1
      have hc2 := (hb.cell (p := ⟨b, off + k * 2 + 1, none⟩) hbl).trans (hcell k _ hks).2
      simp only at hc1 hc2
      have hki : (k : Int) < (n : Int) := by omega
      have hbs := hb.size
      have HKS := Lib.hid hks
      clear hcell hx hks
      go_wp2_with fail
      refine (toDrop_own no s _).mono ?_
      rintro e w' ⟨rfl, ht⟩
      have hown' := owns_turn0 hown ht
      have hsz := ht.size
      have hlen : (l.take k ++ List.replicate (n - k) ((0 : Int), ([] : List UInt8))).length = n := by simp [HN.out]; omega
      have hkl : k < (l.take k ++ List.replicate (n - k) ((0 : Int), ([] : List UInt8))).length := by omega
      have hd1 : w'.cell? ⟨w.heap.size, k * 2, none⟩ = some (.int .i64 (l.take k ++ List.replicate (n - k) ((0 : Int), ([] : List UInt8)))[k].1) := by rw [hown'.cellAt (k * 2) (by omega), shs_no _ k hkl]
      have hd2 : w'.cell? ⟨w.heap.size, k * 2 + 1, none⟩ = some (.string (str (l.take k ++ List.replicate (n - k) ((0 : Int), ([] : List UInt8)))[k].2)) := by rw [hown'.cellAt (k * 2 + 1) (by omega), shs_data _ k hkl]
      have hf1 := hown'.frozenAt (k * 2)
      have hf2 := hown'.frozenAt (k * 2 + 1)
      have hst := hown'.stored (k * 2) (.int .i64 no)
      have hst2 := hst.1.stored (k * 2 + 1) (.string (str s))
      rw [shs_set _ k (no, s) hkl, take_set_next l _ k (no, s) HKS.out (by simp [HN.out]; omega)] at hst2
      have hb2 := ((ht.base hb (by omega) (by omega)).setCell (p := ⟨w.heap.size, k * 2, none⟩) (Nat.le_refl _) (.int .i64 no)).setCell (p := ⟨w.heap.size, k * 2 + 1, none⟩) (Nat.le_refl _) (.string (str s))
      generalize (l.take k ++ List.replicate (n - k) ((0 : Int), ([] : List UInt8)))[k] = old at hd1 hd2
      clear hown' hlen hkl hst hown
      go_wp2_with fail
      go_roundw
      case rel => exact ⟨k + 1, by omega, by go_num, by simpa [Nat.sub_sub] using hst2.1, hb2⟩
      case measure => simp [intOf]; omega
    · obtain rfl : k = n := by omega
      have hki : ¬ (k : Int) < (k : Int) := by omega
      go_wp2_with fail
      go_ret
      refine ⟨_, rfl, OwnSh.of_made ?_, TurnIn.of_below hb⟩
      rw [List.take_of_length_le (by rw [HN.out]; exact Nat.le_refl _), Nat.sub_self] at hown
      rw [HN.out]
      simpa using hown

set_option maxRecDepth 100000 in
set_option maxHeartbeats 1000000 in
theorem szDrop_any (n : Int) (s : List UInt8) (left : Nat) (w : World) (hl : left ≤ 1048576) (hm : s.length ≤ maxLen) : Calls Tryd.prog 39 #[.agg #[.int .i64 n, .string (str s)], .int .i64 left] w (RetInt w (szV left s.length)) := by
  have kk : TurnIn 0 0 w (w.alloc (.cells #[.int .i64 n, .string (str s)] 78)) := turn_alloc _ _
  have hsz := str_size s
  generalize s.length = z at *
  unfold maxLen at hm
  by_cases h : z ≤ left
  · have HF := Lib.hid (szV_yes h)
    have hneg : ¬ ((left : Int) - (z : Int)) < 0 := by omega
    go_enter Tryd.func39, Tryd.ntmps39
    go_wp2_with fail
    go_ret
    exact ⟨by rw [HF.out]; exact congrArg (fun z => Ending.returned (.int .i64 z)) (by omega), kk⟩
  · have HF := Lib.hid (szV_no (show left < z by omega))
    have hneg : ((left : Int) - (z : Int)) < 0 := by omega
    go_enter Tryd.func39, Tryd.ntmps39
    go_wp2_with fail
    go_ret
    exact ⟨by rw [HF.out]; rfl, kk⟩

set_option maxRecDepth 100000 in
set_option maxHeartbeats 2000000 in
theorem szDropS_any (v : Value) (L : List Sh) (left : Nat) (w : World) (hv : SeenH w v L) (hmx : ∀ s ∈ L, s.2.length ≤ maxLen) (hl : left ≤ 1048576) :
    Calls Tryd.prog 16 #[v, .int .i64 left] w (RetInt w (szV left (L.length + sizH L))) := by
  obtain ⟨A, c, rfl, hlc, hcm, hx⟩ := hv
  unfold maxLen at hcm
  generalize hnn : L.length = n at *
  have HN := Lib.hid hnn
  clear hnn
  by_cases h0 : n ≤ left
  · go_enter Tryd.func16, Tryd.ntmps16
    go_wp2_with fail
    go_loopw [1, 5] (fun q i wr => ∃ k m : Nat, k ≤ n ∧ i = .int .i64 k ∧ q = .int .i64 m ∧ m ≤ left ∧ Hid (m + sizH (L.take k) + n = left) ∧ Below w.heap.size w wr) (fun _ i _ => n - (intOf i).toNat)
    case atStart => exact ⟨0, left - n, Nat.zero_le _, rfl, by go_num, by omega, by show left - n + sizH (L.take 0) + n = left; simp [sizH, sizM]; omega, Below.refl _ _⟩
    case round =>
      obtain ⟨k, m, hk, rfl, rfl, hmd, HM, hb⟩ := hrel
      by_cases hlt : k < n
      · have hki : (k : Int) < (n : Int) := by omega
        obtain ⟨b, off, rfl, hbl, hcell⟩ := hx (by omega)
        obtain ⟨⟨no, s⟩, hks⟩ := at_lt HN.out hlt
        obtain ⟨hkl, hke⟩ := List.getElem?_eq_some_iff.1 hks
        have hc1 := (hb.cell (p := ⟨b, off + k * 2, none⟩) hbl).trans (hcell k _ hks).1
        have hc2 := (hb.cell (p := ⟨b, off + k * 2 + 1, none⟩) hbl).trans (hcell k _ hks).2
        simp only at hc1 hc2
        have hmk : s.length ≤ maxLen := by have := hmx L[k] (List.getElem_mem hkl); rw [hke] at this; exact this
        have HT := Lib.hid (sizH_take_succ L k hkl)
        rw [hke] at HT
        have HTL := Lib.hid (sizH_take_le L (k + 1))
        have HMK := Lib.hid hmk
        have hbs := hb.size
        clear hcell hx hks hke hkl hmk
        go_wp2_with fail
        refine (szDrop_any no s m _ (by omega) HMK.out).mono ?_
        rintro e w' ⟨rfl, ht⟩
        have hb2 := ht.base hb (by omega) (by omega)
        by_cases hle : s.length ≤ m
        · have HM2 : Hid (m - s.length + sizH (L.take (k + 1)) + n = left) := by
            show _ = left
            have h7 : sizH (L.take (k + 1)) = sizH (L.take k) + s.length := HT.out; have := HM.out; omega
          rw [szV_yes hle]
          generalize s.length = z at *
          have hneg : ¬ ((m - z : Nat) : Int) < 0 := by omega
          go_wp2_with fail
          go_roundw
          case rel => exact ⟨k + 1, m - z, by omega, by go_num, rfl, by omega, HM2, hb2⟩
          case measure => simp [intOf]; omega
        · have HF : Hid (szV left (n + sizH L) = -1) := by
            show _ = _
            apply szV_no
            have h7 : sizH (L.take (k + 1)) = sizH (L.take k) + s.length := HT.out; have := HTL.out; have := HM.out; omega
          rw [szV_no (show m < s.length by omega)]
          go_wp2_with fail
          go_ret
          exact ⟨by rw [HF.out]; rfl, TurnIn.of_below hb2⟩
      · obtain rfl : k = n := by omega
        have hki : ¬ (k : Int) < (k : Int) := by omega
        have HF : Hid (szV left (k + sizH L) = (m : Int)) := by
          have e := HM.out
          rw [List.take_of_length_le (by rw [HN.out]; exact Nat.le_refl _)] at e
          show _ = _
          rw [szV_yes (by omega)]; omega
        go_wp2_with fail
        go_ret
        exact ⟨by rw [HF.out]; rfl, TurnIn.of_below hb⟩
  · have HF : Hid (szV left (n + sizH L) = -1) := by show _ = _; exact szV_no (by omega)
    go_enter Tryd.func16, Tryd.ntmps16
    go_wp2_with fail
    go_ret
    exact ⟨by rw [HF.out]; rfl, TurnIn.refl w⟩

theorem szDropS_yes (v : Value) (L : List Sh) (left : Nat) (w : World) (hv : SeenH w v L) (hmx : ∀ s ∈ L, s.2.length ≤ maxLen) (h : L.length + sizH L ≤ left) (hl : left ≤ 1048576) :
    Calls Tryd.prog 16 #[v, .int .i64 left] w (RetInt w ((left - (L.length + sizH L) : Nat) : Int)) :=
  (szDropS_any v L left w hv hmx hl).mono fun e w' he => ⟨by rw [he.1, szV_yes h], he.2⟩

theorem szDropS_no (v : Value) (L : List Sh) (left : Nat) (w : World) (hv : SeenH w v L) (hmx : ∀ s ∈ L, s.2.length ≤ maxLen) (h : left < L.length + sizH L) (hl : left ≤ 1048576) :
    Calls Tryd.prog 16 #[v, .int .i64 left] w (RetInt w (-1)) :=
  (szDropS_any v L left w hv hmx hl).mono fun e w' he => ⟨by rw [he.1, szV_no h], he.2⟩

theorem szDrop_yes (n : Int) (s : List UInt8) (left : Nat) (w : World) (hl : left ≤ 1048576) (hm : s.length ≤ maxLen) (h : s.length ≤ left) : Calls Tryd.prog 39 #[.agg #[.int .i64 n, .string (str s)], .int .i64 left] w (RetInt w ((left - s.length : Nat) : Int)) :=
  (szDrop_any n s left w hl hm).mono fun e w' he => ⟨by rw [he.1, szV_yes h], he.2⟩

theorem szDrop_no (n : Int) (s : List UInt8) (left : Nat) (w : World) (hl : left ≤ 1048576) (hm : s.length ≤ maxLen) (h : left < s.length) : Calls Tryd.prog 39 #[.agg #[.int .i64 n, .string (str s)], .int .i64 left] w (RetInt w (-1)) :=
  (szDrop_any n s left w hl hm).mono fun e w' he => ⟨by rw [he.1, szV_no h], he.2⟩

end Go.Proofs.YtbfchebnooanjaaDoor
