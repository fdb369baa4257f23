/- Joined texts: OpenStrp, OpenShs, PeeMath, OpenDrp, DrpArgs. -/
import Derived.Test.YtjklngheehhggaaDoorBd17
import Derived.Test.YtjklngheehhggaaDoorBd01
import Derived.Test.YtjklngheehhggaaDoorProg
import Derived.Test.YtjklngheehhggaaDoorBd00
import Derived.Test.YtjklngheehhggaaDoorBd02
import Derived.Deep.SlicePairs
import Derived.Test.YtjklngheehhggaaDoorBd09
import Derived.Test.YtjklngheehhggaaDoorBd10
import Derived.Test.YtjklngheehhggaaDoorBd08
import Derived.Deep.Grids
import Derived.Test.YtjklngheehhggaaDoorBd04
import Derived.Test.YtjklngheehhggaaDoorBd12
set_option linter.unusedSimpArgs false
set_option linter.unusedVariables false
/- From the readings of a law's arguments to what its walk asks: a struct of two slices of strings. -/
namespace G294
open Go Go.ChangeShapes Go.WideShapes Go.ChangeAt Go.RowKit Go.Deep Go.Joins
section
variable {H : Type} {enc : TypeId × Value → H} {P : Program} {W : World} {base : Nat} {t e q s : TypeId} {v : Value} {d : DataW H} {p : List MemPlace} {f0 f1 : Field}
theorem seen_strs1 {held : Bool} {fuel : Nat} {x : DataW H × List MemPlace} (ht : P.underlying t = some (.slice e)) (he : P.underlying e = some .string) (hc : P.cellsOf e = 1)
    (h : DataW.trod enc P W 0 (fun _ => true) held fuel t [v] = some x) : ∃ l : List (List UInt8), Seen W v (strs l) ∧ ∀ s ∈ l, s.length ≤ maxLen := by
  rcases open_strings ht he hc h with ⟨hcs, hx⟩ | ⟨a, len, cap, ss, hcs, _, hl, hm, hz, hx, hcell, hwz⟩
  · obtain rfl : v = .slice none 0 0 := by simpa using hcs
    exact ⟨[], Seen.nil W, fun s hs => by simp at hs⟩
  · obtain rfl : v = .slice (some a) len cap := by simpa using hcs
    have hz' : ss.length = cap := by simpa using hz
    have hlen : (ss.take len).length = len := by rw [List.length_take]; omega
    have es : strs ((ss.take len).map fun s => s.data.toList) = (ss.take len).map Value.string := by
      simp only [strs, List.map_map]
      exact List.map_congr_left fun s _ => by simp only [Function.comp]; rw [← str_eq]
    refine ⟨(ss.take len).map fun s => s.data.toList, ⟨some a, cap, by simp [hlen, hl, hz'], by simp [hl, hz'], hm, fun hn => ?_⟩, fun s hs => ?_⟩
    rotate_left
    · obtain ⟨b, hb, rfl⟩ := List.mem_map.1 hs
      have := hwz b (List.mem_of_mem_take hb)
      rw [Array.length_toList]
      exact this
    rw [strs_length, List.length_map, hlen] at hn
    obtain ⟨b, off, spot⟩ := a
    have hspot : spot = none := by simpa [Addr.add] using World.cell?_spot (hcell 0 (by omega))
    subst hspot
    have hc' : ∀ i, i < ss.length → W.cell? ⟨b, off + i, none⟩ = some (.string (ss.getD i ByteArray.empty)) := fun i hi => by
      rw [← Go.WideShapes.add_plain]; exact hcell i hi
    refine ⟨b, off, rfl, World.block_lt_of_cell? W _ (hc' 0 (by omega)), fun i u hu => ?_⟩
    rw [es, List.getElem?_map] at hu
    have hi : i < len := by
      rcases Nat.lt_or_ge i len with h | h
      · exact h
      · rw [List.getElem?_eq_none (by omega)] at hu; simp at hu
    rw [List.getElem?_take, if_pos hi, List.getElem?_eq_getElem (by omega)] at hu
    simp only [Option.map_some, Option.some.injEq] at hu
    rw [hc' i (by omega), ← hu]
    simp [List.getD, show i < ss.length by omega]
theorem seen_strp (hs : P.underlying s = some (.struct #[f0, f1])) (hone : oneCellFields P #[f0, f1] = true) (hC : P.cellsOf s = 2) (h0 : P.underlying f0.type = some (.slice e)) (h1 : P.underlying f1.type = some (.slice e)) (he : P.underlying e = some .string) (hc : P.cellsOf e = 1)
    (hv : Value.okWide P W .any base s v) (h : DataW.Trod enc P W 0 (fun _ => true) true s v d p) : ∃ (x u : Value) (l m : List (List UInt8)), v = .agg #[x, u] ∧ Seen W x (strs l) ∧ Seen W u (strs m) ∧ (∀ s ∈ l, s.length ≤ maxLen) ∧ ∀ s ∈ m, s.length ≤ maxLen := by
  obtain ⟨v0, v1, y0, y1, n, rfl, _, _, g0, g1⟩ := open_agg2 hs hone hC hv h
  obtain ⟨l, hl, ml⟩ := seen_strs1 h0 he hc g0
  obtain ⟨m, hm, mm⟩ := seen_strs1 h1 he hc g1
  exact ⟨v0, v1, l, m, rfl, hl, hm, ml, mm⟩
end
end G294

/- From the readings of a law's arguments to what its walk asks: slices of shards. -/
namespace G294
open Go Go.ChangeShapes Go.WideShapes Go.ChangeAt Go.RowKit Go.Deep
section
variable {H : Type} {enc : TypeId × Value → H} {P : Program} {W : World} {base : Nat} {t e : TypeId} {v : Value} {d : DataW H} {p : List MemPlace} {f0 f1 : Field}
theorem pairs_list (V0 V1 : Nat → Value) (len : Nat) (h : ∀ i, i < len → (∃ z, V0 i = .int .i64 z) ∧ ∃ s : List UInt8, V1 i = .string (str s) ∧ s.length ≤ maxLen) :
    ∃ l : List Sh, l.length = len ∧ (∀ s ∈ l, s.2.length ≤ maxLen) ∧ ∀ (i : Nat) (s : Sh), l[i]? = some s → V0 i = .int .i64 s.1 ∧ V1 i = .string (str s.2) := by
  induction len with
  | zero => exact ⟨[], rfl, fun s hs => by simp at hs, fun i s hs => by simp at hs⟩
  | succ n ih =>
    obtain ⟨l, h1, h2, h3⟩ := ih fun i hi => h i (by omega)
    obtain ⟨⟨z, hz⟩, s, hs, hsl⟩ := h n (by omega)
    refine ⟨l ++ [(z, s)], by simp [h1], fun x hx => ?_, fun i x hx => ?_⟩
    · rcases List.mem_append.1 hx with hx | hx
      · exact h2 x hx
      · simp at hx; subst hx; exact hsl
    · rcases Nat.lt_or_ge i l.length with hi | hi
      · rw [List.getElem?_append_left hi] at hx
        exact h3 i x hx
      · rw [List.getElem?_append_right hi] at hx
        have : i = n := by
          have := (List.getElem?_eq_some_iff.1 hx).1
          simp at this; omega
        subst this
        rw [← h1] at hx
        simp at hx
        subst hx
        exact ⟨hz, hs⟩
/-- a slice of shards that came in -/
theorem seen_shs (ht : P.underlying t = some (.slice e)) (he : P.underlying e = some (.struct #[f0, f1])) (ce : P.cellsOf e = 2) (o0 : f0.offset = 0) (o1 : f1.offset = 1) (c0 : P.cellsOf f0.type = 1) (c1 : P.cellsOf f1.type = 1)
    (u0 : P.underlying f0.type = some (.int .i64)) (u1 : P.underlying f1.type = some .string)
    (hv : Value.okWide P W .any base t v) (h : DataW.Trod enc P W 0 (fun _ => true) true t v d p) (hlt : ∀ x ∈ p, x.block < W.heap.size) : ∃ l : List Sh, SeenH W v l ∧ ∀ s ∈ l, s.2.length ≤ maxLen := by
  obtain ⟨a0, len, cap, rfl⟩ := okWide_slice ht hv
  obtain ⟨fuel, hf⟩ := h
  rcases open_slice_pairs ht he ce o0 o1 c0 c1 hf with ⟨hcs, hx⟩ | ⟨a, len', cap', m, n, V0, V1, D0, D1, P0, P1, hcs, _, hl, hm, hmm, hx, hcell⟩
  · have e1 : a0 = none ∧ len = 0 ∧ cap = 0 := by simpa [Value.cells] using hcs
    obtain ⟨rfl, rfl, rfl⟩ := e1
    exact ⟨[], SeenH.nil W, fun s hs => by simp at hs⟩
  · have e1 : a0 = some a ∧ len = len' ∧ cap = cap' := by simpa [Value.cells] using hcs
    obtain ⟨rfl, rfl, rfl⟩ := e1
    have hml : len ≤ m := by rw [hmm]; simp; exact hl
    obtain ⟨l, h1, h2, h3⟩ := pairs_list V0 V1 len fun i hi => by
      obtain ⟨_, _, t0, t1⟩ := hcell i (by omega)
      obtain ⟨z, hz, _⟩ := DataW.trod_int u0 t0
      obtain ⟨s, hs, _, hsl⟩ := DataW.trod_string u1 t1
      simp only [List.cons.injEq, and_true] at hz hs
      exact ⟨⟨z, hz⟩, s.data.toList, by rw [hs, ← str_eq], by rw [Array.length_toList]; exact hsl⟩
    refine ⟨l, ⟨some a, cap, by rw [h1], by omega, hm, fun hn => ?_⟩, h2⟩
    obtain ⟨b, off, spot⟩ := a
    have hspot : spot = none := by simpa [Addr.add] using World.cell?_spot (hcell 0 (by omega)).1
    subst hspot
    have e0 := (hcell 0 (by omega)).1
    rw [Go.WideShapes.add_plain] at e0
    refine ⟨b, off, rfl, World.block_lt_of_cell? W _ e0, fun i s hs => ?_⟩
    have hi : i < len := by have := (List.getElem?_eq_some_iff.1 hs).1; omega
    obtain ⟨e0, e1, _, _⟩ := hcell i (by omega)
    obtain ⟨g0, g1⟩ := h3 i s hs
    rw [Go.WideShapes.add_plain, g0] at e0
    rw [Go.WideShapes.add_plain, g1] at e1
    exact ⟨e0, by rw [Nat.add_assoc]; exact e1⟩
end
end G294

/- Chapter 9: peeling (mathematics). -/
namespace G294
open Go Go.RowKit
/-- a state of peeling: texts, which are known, how many -/
abbrev Pee := List (List UInt8) × List Bool × Int
def knw (p : Pee) (k : Nat) : Bool := p.2.1.getD k false
def unk (p : Pee) (ks : List Nat) : List Nat := ks.filter fun k => !knw p k
def kno (p : Pee) (ks : List Nat) : List Nat := ks.filter fun k => knw p k
theorem unk_snoc_yes {p : Pee} {ks : List Nat} {k : Nat} (h : knw p k = true) : unk p (ks ++ [k]) = unk p ks ∧ kno p (ks ++ [k]) = kno p ks ++ [k] := by
  constructor
  · unfold unk; rw [List.filter_append]; simp [h]
  · unfold kno; rw [List.filter_append]; simp [h]
theorem unk_snoc_no {p : Pee} {ks : List Nat} {k : Nat} (h : knw p k = false) : unk p (ks ++ [k]) = unk p ks ++ [k] ∧ kno p (ks ++ [k]) = kno p ks := by
  constructor
  · unfold unk; rw [List.filter_append]; simp [h]
  · unfold kno; rw [List.filter_append]; simp [h]
/-- the data of a drop plus its known blocks -/
def pdat (d : Sh) (p : Pee) : List UInt8 := addN p.1 (kno p (blkN d.1.toNat p.1.length)) d.2
def punk (d : Sh) (p : Pee) : List Nat := unk p (blkN d.1.toNat p.1.length)
def putP (p : Pee) (k : Nat) (x : List UInt8) : Pee := (p.1.set k x, p.2.1.set k true, p.2.2 + 1)
def oneStep (d : Sh) (p : Pee) : Option Pee := match punk d p with
  | [k] => some (putP p k (pdat d p))
  | _ => none
def stepP : List Sh → Pee → Option Pee
  | [], _ => none
  | d :: l, p => match oneStep d p with
    | some q => some q
    | none => stepP l p
theorem oneStep_one {d : Sh} {p : Pee} {k : Nat} (h : punk d p = [k]) : oneStep d p = some (putP p k (pdat d p)) := by unfold oneStep; rw [h]
theorem oneStep_not {d : Sh} {p : Pee} (h : (punk d p).length ≠ 1) : oneStep d p = none := by
  unfold oneStep
  split
  · rename_i k e; rw [e] at h; exact absurd rfl h
  · rfl
theorem stepP_skip {l : List Sh} {p : Pee} : ∀ {k : Nat}, (∀ (i : Nat) (d : Sh), i < k → l[i]? = some d → oneStep d p = none) → stepP l p = stepP (l.drop k) p := by
  induction l with
  | nil => intro k _; simp
  | cons d l ih =>
    intro k h
    cases k with
    | zero => rfl
    | succ k =>
      show (match oneStep d p with | some q => some q | none => stepP l p) = stepP (l.drop k) p
      rw [h 0 d (by omega) rfl]
      exact ih fun i d hi hd => h (i + 1) d (by omega) (by simpa using hd)
theorem stepP_at {l : List Sh} {p q : Pee} {k : Nat} {d : Sh} (h : ∀ (i : Nat) (d : Sh), i < k → l[i]? = some d → oneStep d p = none) (hd : l[k]? = some d) (hq : oneStep d p = some q) : stepP l p = some q := by
  rw [stepP_skip h]
  obtain ⟨hk, e⟩ := List.getElem?_eq_some_iff.1 hd
  rw [List.drop_eq_getElem_cons hk, e]
  show (match oneStep d p with | some q => some q | none => _) = _
  rw [hq]
theorem stepP_none {l : List Sh} {p : Pee} (h : ∀ (i : Nat) (d : Sh), i < l.length → l[i]? = some d → oneStep d p = none) : stepP l p = none := by
  rw [stepP_skip h, List.drop_length]; rfl
/-- steps as often as possible -/
def peelN (l : List Sh) : Nat → Pee → Pee
  | 0, p => p
  | n + 1, p => match stepP l p with
    | none => p
    | some q => peelN l n q
theorem peelN_none {l : List Sh} {p : Pee} (h : stepP l p = none) : ∀ n, peelN l n p = p
  | 0 => rfl
  | n + 1 => by show (match stepP l p with | none => p | some q => peelN l n q) = p; rw [h]
theorem peelN_some {l : List Sh} {p q : Pee} (h : stepP l p = some q) (n : Nat) : peelN l (n + 1) p = peelN l n q := by
  show (match stepP l p with | none => p | some q => peelN l n q) = _; rw [h]
/-- how many are not known -/
def left (p : Pee) : Nat := ((List.range p.1.length).filter fun k => !knw p k).length
theorem stepP_cases {l : List Sh} {p q : Pee} (h : stepP l p = some q) : ∃ (d : Sh) (k : Nat), d ∈ l ∧ punk d p = [k] ∧ q = putP p k (pdat d p) := by
  induction l with
  | nil => cases h
  | cons d l ih =>
    have h' : (match oneStep d p with | some q => some q | none => stepP l p) = some q := h
    cases hd : oneStep d p with
    | none =>
      rw [hd] at h'
      obtain ⟨d', k, h1, h2⟩ := ih h'
      exact ⟨d', k, List.mem_cons_of_mem _ h1, h2⟩
    | some q' =>
      rw [hd] at h'
      obtain rfl : q' = q := by simpa using h'
      unfold oneStep at hd
      split at hd
      · rename_i k e
        exact ⟨d, k, List.mem_cons_self, e, (Option.some.inj hd).symm⟩
      · cases hd
theorem punk_mem {d : Sh} {p : Pee} {k : Nat} (h : k ∈ punk d p) : k < p.1.length ∧ inF d.1.toNat p.1.length k = true ∧ knw p k = false := by
  simp only [punk, unk, List.mem_filter, blkN, blkK_mem] at h
  exact ⟨h.1.1, h.1.2, by simpa using h.2⟩
theorem putP_knw {p : Pee} {k i : Nat} {x : List UInt8} (hk : k < p.2.1.length) : knw (putP p k x) i = if i = k then true else knw p i := by
  show (p.2.1.set k true).getD i false = _
  rw [getD_set _ _ _ _ _ hk]
  rfl
theorem filter_drop_one {f g : Nat → Bool} {n k : Nat} (hk : k < n) (hf : f k = true) (hg : ∀ i, g i = if i = k then false else f i) : ((List.range n).filter g).length + 1 = ((List.range n).filter f).length := by
  induction n with
  | zero => omega
  | succ n ih =>
    rw [List.range_succ, List.filter_append, List.filter_append, List.length_append, List.length_append]
    by_cases e : k = n
    · subst e
      have h1 : ∀ m, m ≤ k → (List.range m).filter g = (List.range m).filter f := fun m hm => by
        apply List.filter_congr
        intro i hi
        have := List.mem_range.1 hi
        rw [hg i, if_neg (by omega)]
      rw [h1 k (Nat.le_refl _)]
      have h2 : g k = false := by rw [hg k, if_pos rfl]
      simp [h2, hf]
    · have h3 : g n = f n := by rw [hg n, if_neg (fun h => e h.symm)]
      have := ih (by omega)
      cases hn : f n <;> simp [h3, hn] <;> omega
theorem stepP_left {l : List Sh} {p q : Pee} (h : stepP l p = some q) (hl : p.2.1.length = p.1.length) : left q + 1 = left p ∧ q.1.length = p.1.length ∧ q.2.1.length = p.2.1.length ∧ q.2.2 = p.2.2 + 1 := by
  obtain ⟨d, k, _, hk, rfl⟩ := stepP_cases h
  have hm := punk_mem (p := p) (d := d) (k := k) (by rw [hk]; exact List.mem_singleton.2 rfl)
  refine ⟨?_, by simp [putP], by simp [putP], rfl⟩
  unfold left
  have e : (putP p k (pdat d p)).1.length = p.1.length := by simp [putP]
  rw [e]
  refine filter_drop_one hm.1 (by simp [hm.2.2]) fun i => ?_
  rw [putP_knw (by omega)]
  by_cases h : i = k
  · simp [h]
  · simp [h]
theorem stepP_full {l : List Sh} {p : Pee} (h : left p = 0) : stepP l p = none := by
  cases hs : stepP l p with
  | none => rfl
  | some q =>
    obtain ⟨d, k, _, hk, _⟩ := stepP_cases hs
    have hm := punk_mem (p := p) (d := d) (k := k) (by rw [hk]; exact List.mem_singleton.2 rfl)
    have : k ∈ (List.range p.1.length).filter fun k => !knw p k := by simp [hm.1, hm.2.2]
    rw [List.eq_nil_of_length_eq_zero h] at this
    cases this
/-- valid drops -/
def dropsOk (l : List Sh) : Bool := decide (l.length ≤ 40) && ((l.all fun d => seedOk d.1) && textsOk (l.map (·.2)))
/-- a valid state for drops -/
def peeOk (l : List Sh) (p : Pee) : Bool := bcOk p.1.length && (decide (p.2.1.length = p.1.length) && (decide (p.2.2 = ((List.range p.1.length).filter fun k => knw p k).length) &&
  (List.range p.1.length).all fun k => decide ((p.1.getD k []).length = if knw p k then (l.getD 0 (0, [])).2.length else 0)))
def stpOk (l : List Sh) (p : Pee) : Bool := dropsOk l && (peeOk l p && (stepP l p).isSome)
def stpR (l : List Sh) (p : Pee) : Pee := if stpOk l p = true then (stepP l p).getD ([], [], 0) else ([], [], 0)
def pee0 (b : Nat) : Pee := (List.replicate b [], List.replicate b false, 0)
def pelOk (l : List Sh) (b : Int) : Bool := dropsOk l && bcOk b
def pelR (l : List Sh) (b : Int) : Pee := if pelOk l b = true then peelN l b.toNat (pee0 b.toNat) else ([], [], 0)
theorem left_pee0 (b : Nat) : left (pee0 b) = b := by
  unfold left
  have e : (pee0 b).1.length = b := by simp [pee0]
  rw [e]
  have : (List.range b).filter (fun k => !knw (pee0 b) k) = List.range b := by
    apply List.filter_eq_self.2
    intro k hk
    have := List.mem_range.1 hk
    simp [knw, pee0, List.getD, this]
  rw [this]; simp
end G294
namespace G294
structure PeeP (n : Nat) (p : Pee) : Prop where
  b1 : 1 ≤ p.1.length
  b2 : p.1.length ≤ 12
  kl : p.2.1.length = p.1.length
  many : p.2.2 = ((List.range p.1.length).filter fun k => knw p k).length
  len : ∀ k, k < p.1.length → (p.1.getD k []).length = if knw p k then n else 0
theorem peeOk_iff {l : List Sh} {p : Pee} : peeOk l p = true ↔ PeeP (l.getD 0 (0, [])).2.length p := by
  constructor
  · intro h
    simp only [peeOk, bcOk, Bool.and_eq_true, decide_eq_true_eq, List.all_eq_true, List.mem_range] at h
    obtain ⟨h1, h2, h3, h4⟩ := h
    exact ⟨by omega, by omega, h2, h3, h4⟩
  · intro ⟨h1, h2, h3, h4, h5⟩
    simp only [peeOk, bcOk, Bool.and_eq_true, decide_eq_true_eq, List.all_eq_true, List.mem_range]
    exact ⟨by omega, h3, h4, h5⟩
theorem pdat_len (d : Sh) (p : Pee) : (pdat d p).length = d.2.length := by simp [pdat]
theorem dropsOk_len {l : List Sh} (h : dropsOk l = true) : l.length ≤ 40 ∧ (∀ d ∈ l, 0 ≤ d.1 ∧ d.1 ≤ 100000 ∧ d.2.length = (l.getD 0 (0, [])).2.length ∧ d.2.length ≤ 40) := by
  simp only [dropsOk, Bool.and_eq_true, decide_eq_true_eq, List.all_eq_true] at h
  obtain ⟨h1, h2, h3⟩ := h
  refine ⟨h1, fun d hd => ?_⟩
  have := seedOk_b (h2 d hd)
  have ht := textsOk_all.1 h3 d.2 (List.mem_map_of_mem hd)
  have e : ((l.map (·.2)).getD 0 []).length = (l.getD 0 (0, [])).2.length := by
    cases l with
    | nil => rfl
    | cons s l => rfl
  rw [e] at ht
  exact ⟨this.1, this.2, ht.1, ht.2⟩
theorem stepP_good {l : List Sh} {p q : Pee} (hl : dropsOk l = true) (hp : peeOk l p = true) (h : stepP l p = some q) : peeOk l q = true := by
  obtain ⟨d, k, hd, hk, rfl⟩ := stepP_cases h
  obtain ⟨h1, h2, h3, h4, h5⟩ := peeOk_iff.1 hp
  have hm := punk_mem (p := p) (d := d) (k := k) (by rw [hk]; exact List.mem_singleton.2 rfl)
  have hdl := (dropsOk_len hl).2 d hd
  have e : (putP p k (pdat d p)).1.length = p.1.length := by simp [putP]
  refine peeOk_iff.2 ⟨by rw [e]; exact h1, by rw [e]; exact h2, by rw [e]; simpa [putP] using h3, ?_, fun i hi => ?_⟩
  · rw [e]
    show p.2.2 + 1 = _
    have := filter_drop_one (f := fun i => knw (putP p k (pdat d p)) i) (g := fun i => knw p i) hm.1 (by show knw (putP p k (pdat d p)) k = true; rw [putP_knw (by omega), if_pos rfl]) fun i => by
      show knw p i = if i = k then false else knw (putP p k (pdat d p)) i
      rw [putP_knw (by omega)]
      by_cases hi : i = k
      · subst hi; simp [hm.2.2]
      · simp [hi]
    omega
  · rw [e] at hi
    rw [putP_knw (by omega)]
    show ((p.1.set k (pdat d p)).getD i []).length = _
    rw [getD_set _ _ _ _ _ hm.1]
    by_cases hik : i = k
    · rw [if_pos hik, if_pos hik, pdat_len, hdl.2.2.1]; simp
    · rw [if_neg hik, if_neg hik]; exact h5 i hi
theorem pee0_good (l : List Sh) {b : Nat} (h1 : 1 ≤ b) (h2 : b ≤ 12) : peeOk l (pee0 b) = true := by
  have e : (pee0 b).1.length = b := by simp [pee0]
  have hk : ∀ k, k < b → knw (pee0 b) k = false := fun k hk => by simp [knw, pee0, List.getD, hk]
  refine peeOk_iff.2 ⟨by rw [e]; exact h1, by rw [e]; exact h2, by simp [pee0], ?_, fun k hk' => ?_⟩
  · rw [e]
    have : (List.range b).filter (fun k => knw (pee0 b) k) = [] := by
      apply List.filter_eq_nil_iff.2
      intro k hk'
      have := hk k (List.mem_range.1 hk')
      simp [this]
    rw [this]; rfl
  · rw [e] at hk'
    rw [hk k hk']
    simp [pee0, List.getD, hk']
theorem stpOk_step {l : List Sh} {p q : Pee} (hl : dropsOk l = true) (hp : peeOk l p = true) (h : stepP l p = some q) : stpOk l p = true ∧ stpR l p = q := by
  have : stpOk l p = true := by simp [stpOk, hl, hp, h]
  exact ⟨this, by unfold stpR; rw [if_pos this, h]; rfl⟩
theorem stpOk_none {l : List Sh} {p : Pee} (h : stepP l p = none) : stpOk l p = false ∧ stpR l p = ([], [], 0) := by
  have : stpOk l p = false := by simp [stpOk, h]
  exact ⟨this, by unfold stpR; rw [if_neg (by rw [this]; decide)]⟩
theorem stpOk_bad {l : List Sh} {p : Pee} (h : dropsOk l = false ∨ peeOk l p = false) : stpOk l p = false ∧ stpR l p = ([], [], 0) := by
  have : stpOk l p = false := by rcases h with h | h <;> simp [stpOk, h]
  exact ⟨this, by unfold stpR; rw [if_neg (by rw [this]; decide)]⟩
end G294

/- From the readings of a law's arguments to what its walk asks: a drop, a state of peeling. -/
namespace G294
open Go Go.ChangeShapes Go.WideShapes Go.ChangeAt Go.RowKit Go.Deep Go.Joins
section
variable {H : Type} {enc : TypeId × Value → H} {P : Program} {W : World} {base : Nat} {t e q s : TypeId} {v : Value} {d : DataW H} {p : List MemPlace} {f0 f1 f2 : Field}
theorem open_drop (hs : P.underlying t = some (.struct #[f0, f1])) (hone : oneCellFields P #[f0, f1] = true) (hC : P.cellsOf t = 2) (u0 : P.underlying f0.type = some (.int .i64)) (u1 : P.underlying f1.type = some .string)
    (hv : Value.okWide P W .any base t v) (h : DataW.Trod enc P W 0 (fun _ => true) true t v d p) : ∃ (g : Int) (l : List UInt8), v = .agg #[.int .i64 g, .string (str l)] ∧ l.length ≤ maxLen := by
  obtain ⟨v0, v1, y0, y1, n, rfl, _, _, h0, h1⟩ := open_agg2 hs hone hC hv h
  obtain ⟨g, hg, _⟩ := DataW.trod_int u0 h0
  obtain ⟨s, hs, _, hsl⟩ := DataW.trod_string u1 h1
  simp only [List.cons.injEq, and_true] at hg hs
  exact ⟨g, s.data.toList, by rw [hg, hs, ← str_eq], by rw [Array.length_toList]; exact hsl⟩
theorem seen_bools1 {held : Bool} {fuel : Nat} {x : DataW H × List MemPlace} (ht : P.underlying t = some (.slice e)) (he : P.underlying e = some .bool) (hc : P.cellsOf e = 1)
    (h : DataW.trod enc P W 0 (fun _ => true) held fuel t [v] = some x) : ∃ l : List Bool, Seen W v (bls l) := by
  rcases open_bools ht he hc h with ⟨hcs, hx⟩ | ⟨a, len, cap, B, hcs, _, hl, hm, hx, hcell⟩
  · obtain rfl : v = .slice none 0 0 := by simpa using hcs
    exact ⟨[], Seen.nil W⟩
  · obtain rfl : v = .slice (some a) len cap := by simpa using hcs
    refine ⟨mkB len B, some a, cap, by simp, by simp [hl], hm, fun hn => ?_⟩
    rw [bls_length, mkB_length] at hn
    obtain ⟨b, off, spot⟩ := a
    have hspot : spot = none := by simpa [Addr.add] using World.cell?_spot (hcell 0 (by omega))
    subst hspot
    have hc' : ∀ i, i < cap → W.cell? ⟨b, off + i, none⟩ = some (.bool (B i)) := fun i hi => by
      rw [← Go.WideShapes.add_plain]; exact hcell i hi
    refine ⟨b, off, rfl, World.block_lt_of_cell? W _ (hc' 0 (by omega)), fun i u hu => ?_⟩
    have hi : i < len := by
      rcases Nat.lt_or_ge i len with h | h
      · exact h
      · rw [List.getElem?_eq_none (by simpa using h)] at hu; cases hu
    rw [hc' i (by omega), ← hu]
    simp [bls, mkB, hi]
theorem open_peel (hs : P.underlying s = some (.struct #[f0, f1, f2])) (hone : oneCellFields P #[f0, f1, f2] = true) (hC : P.cellsOf s = 3) (h0 : P.underlying f0.type = some (.slice e)) (h1 : P.underlying f1.type = some (.slice q)) (h2 : P.underlying f2.type = some (.int .i64))
    (he : P.underlying e = some .string) (hc : P.cellsOf e = 1) (hq : P.underlying q = some .bool) (hcq : P.cellsOf q = 1)
    (hv : Value.okWide P W .any base s v) (h : DataW.Trod enc P W 0 (fun _ => true) true s v d p) :
    ∃ (x u : Value) (p : Pee), v = .agg #[x, u, .int .i64 p.2.2] ∧ Seen W x (strs p.1) ∧ Seen W u (bls p.2.1) ∧ (∀ s ∈ p.1, s.length ≤ maxLen) := by
  obtain ⟨v0, v1, v2, y0, y1, y2, n, rfl, _, _, g0, g1, g2⟩ := open_agg3 hs hone hC hv h
  obtain ⟨l, hl, ml⟩ := seen_strs1 h0 he hc g0
  obtain ⟨m, hm⟩ := seen_bools1 h1 hq hcq g1
  obtain ⟨g, hg, _⟩ := DataW.trod_int h2 g2
  simp only [List.cons.injEq, and_true] at hg
  exact ⟨v0, v1, (l, m, g), by rw [hg], hl, hm, ml⟩
end
end G294

/- Drops as arguments: the laws' copies and sizes. -/
namespace Go.Proofs.YtjklngheehhggaaDoor
open Go.RowKit G294

set_option maxRecDepth 100000 in
set_option maxHeartbeats 1000000 in
theorem toDrop_own (n : Int) (s : List UInt8) (w : World) : Calls Tryd.prog 37 #[.agg #[.int .i64 n, .string (str s)]] w fun e w' => e = .returned (.agg #[.int .i64 n, .string (str s)]) ∧ TurnIn 0 0 w w' := by
  have kk : TurnIn 0 0 w (((w.alloc (.cells #[.int .i64 n, .string (str s)] 61)).alloc (.cells #[.int .i64 n, .string (str s)] 27)).alloc (.cells #[.int .i64 n, .string (str s)] 27)) := turn_trans (turn_trans (turn_alloc _ _) (turn_alloc _ _) (by omega)) (turn_alloc _ _) (by omega)
  go_enter Tryd.func37, Tryd.ntmps37
  go_wp2_with fail
  refine bodyPost_ret (v := .agg #[.int .i64 n, .string (str s)]) (by simp [results, Tryd.results37, go_sem]) rfl ?_
  exact ⟨rfl, kk⟩

set_option maxRecDepth 100000 in
set_option maxHeartbeats 2000000 in
theorem toDropS_own (v : Value) (l : List Sh) (w : World) (hv : SeenH w v l) (hn : l.length ≤ 1048576) : Calls Tryd.prog 30 #[v] w (RetShs 27 w l) := by
  obtain ⟨i0, hi0, hz0, hz1, hz2⟩ := info_parts infoDrop
  obtain ⟨A, c, rfl, hlc, hcm, hx⟩ := hv
  unfold maxLen at hcm
  generalize hnn : l.length = n at *
  have HN := Lib.hid hnn
  clear hnn
  go_enter Tryd.func30, Tryd.ntmps30
  go_wp2_with (at_make; refine wpList_make_full _ rfl _ _ _ rfl w.heap.size _ i0 _ 2 Tryd.underlying30 hi0 hz0 hz1 _ _ _ _ n rfl rfl rfl rfl ?b2 ?b3 ?b4 ?_)
  case b2 => rw [hz2]; omega
  case b3 => unfold maxLen; omega
  case b4 => exact Nat.le_refl _
  intro w1 hown1 hg1
  have hb1 : Below w.heap.size w w1 := below_of_grown hg1 (Nat.le_refl _) (by simp)
  rw [toList_madeCells_shs] at hown1
  clear hg1
  go_wp2_with fail
  go_loopw [4] (fun i wr => ∃ k : Nat, k ≤ n ∧ i = .int .i64 k ∧ wr.ownsRow w.heap.size 27 2 (.slice (some ⟨w.heap.size, 0, none⟩) n n) n (shs (l.take k ++ List.replicate (n - k) ((0 : Int), ([] : List UInt8)))) ∧ Below w.heap.size w wr)
    (fun i _ => n - (intOf i).toNat)
  case atStart => exact ⟨0, Nat.zero_le _, rfl, by simpa using hown1, hb1⟩
  case round =>
    obtain ⟨k, hk, rfl, hown, hb⟩ := hrel
    clear hown1 hb1
    by_cases hlt : k < n
    · obtain ⟨b, off, rfl, hbl, hcell⟩ := hx (by omega)
      obtain ⟨⟨no, s⟩, hks⟩ := at_lt HN.out hlt
      have hc1 := (hb.cell (p := ⟨b, off + k * 2, none⟩) hbl).trans (hcell k _ hks).1
      have hc2 := (hb.cell (p := ⟨b, off + k * 2 + 1, none⟩) hbl).trans (hcell k _ hks).2
      simp only at hc1 hc2
      have hki : (k : Int) < (n : Int) := by omega
      have hbs := hb.size
      have HKS := Lib.hid hks
      clear hcell hx hks
      go_wp2_with fail
      refine (toDrop_own no s _).mono ?_
      rintro e w' ⟨rfl, ht⟩
      have hown' := owns_turn0 hown ht
      have hsz := ht.size
      have hlen : (l.take k ++ List.replicate (n - k) ((0 : Int), ([] : List UInt8))).length = n := by simp [HN.out]; omega
      have hkl : k < (l.take k ++ List.replicate (n - k) ((0 : Int), ([] : List UInt8))).length := by omega
      have hd1 : w'.cell? ⟨w.heap.size, k * 2, none⟩ = some (.int .i64 (l.take k ++ List.replicate (n - k) ((0 : Int), ([] : List UInt8)))[k].1) := by rw [hown'.cellAt (k * 2) (by omega), shs_no _ k hkl]
      have hd2 : w'.cell? ⟨w.heap.size, k * 2 + 1, none⟩ = some (.string (str (l.take k ++ List.replicate (n - k) ((0 : Int), ([] : List UInt8)))[k].2)) := by rw [hown'.cellAt (k * 2 + 1) (by omega), shs_data _ k hkl]
      have hf1 := hown'.frozenAt (k * 2)
      have hf2 := hown'.frozenAt (k * 2 + 1)
      have hst := hown'.stored (k * 2) (.int .i64 no)
      have hst2 := hst.1.stored (k * 2 + 1) (.string (str s))
      rw [shs_set _ k (no, s) hkl, take_set_next l _ k (no, s) HKS.out (by simp [HN.out]; omega)] at hst2
      have hb2 := ((ht.base hb (by omega) (by omega)).setCell (p := ⟨w.heap.size, k * 2, none⟩) (Nat.le_refl _) (.int .i64 no)).setCell (p := ⟨w.heap.size, k * 2 + 1, none⟩) (Nat.le_refl _) (.string (str s))
      generalize (l.take k ++ List.replicate (n - k) ((0 : Int), ([] : List UInt8)))[k] = old at hd1 hd2
      clear hown' hlen hkl hst hown
      go_wp2_with fail
      go_roundw
      case rel => exact ⟨k + 1, by omega, by go_num, by simpa [Nat.sub_sub] using hst2.1, hb2⟩
      case measure => simp [intOf]; omega
    · obtain rfl : k = n := by omega
      have hki : ¬ (k : Int) < (k : Int) := by omega
      go_wp2_with fail
      go_ret
      refine ⟨_, rfl, OwnSh.of_made ?_, TurnIn.of_below hb⟩
      rw [List.take_of_length_le (by rw [HN.out]; exact Nat.le_refl _), Nat.sub_self] at hown
      rw [HN.out]
      simpa using hown

set_option maxRecDepth 100000 in
set_option maxHeartbeats 1000000 in
theorem szDrop_any (n : Int) (s : List UInt8) (left : Nat) (w : World) (hl : left ≤ 1048576) (hm : s.length ≤ maxLen) : Calls Tryd.prog 35 #[.agg #[.int .i64 n, .string (str s)], .int .i64 left] w (RetInt w (szV left s.length)) := by
  have kk : TurnIn 0 0 w (w.alloc (.cells #[.int .i64 n, .string (str s)] 61)) := turn_alloc _ _
  have hsz := str_size s
  generalize s.length = z at *
  unfold maxLen at hm
  by_cases h : z ≤ left
  · have HF := Lib.hid (szV_yes h)
    have hneg : ¬ ((left : Int) - (z : Int)) < 0 := by omega
    go_enter Tryd.func35, Tryd.ntmps35
    go_wp2_with fail
    go_ret
    exact ⟨by rw [HF.out]; exact congrArg (fun z => Ending.returned (.int .i64 z)) (by omega), kk⟩
  · have HF := Lib.hid (szV_no (show left < z by omega))
    have hneg : ((left : Int) - (z : Int)) < 0 := by omega
    go_enter Tryd.func35, Tryd.ntmps35
    go_wp2_with fail
    go_ret
    exact ⟨by rw [HF.out]; rfl, kk⟩

set_option maxRecDepth 100000 in
set_option maxHeartbeats 2000000 in
theorem szDropS_any (v : Value) (L : List Sh) (left : Nat) (w : World) (hv : SeenH w v L) (hmx : ∀ s ∈ L, s.2.length ≤ maxLen) (hl : left ≤ 1048576) :
    Calls Tryd.prog 28 #[v, .int .i64 left] w (RetInt w (szV left (L.length + sizH L))) := by
  obtain ⟨A, c, rfl, hlc, hcm, hx⟩ := hv
  unfold maxLen at hcm
  generalize hnn : L.length = n at *
  have HN := Lib.hid hnn
  clear hnn
  by_cases h0 : n ≤ left
  · go_enter Tryd.func28, Tryd.ntmps28
    go_wp2_with fail
    go_loopw [1, 5] (fun q i wr => ∃ k m : Nat, k ≤ n ∧ i = .int .i64 k ∧ q = .int .i64 m ∧ m ≤ left ∧ Hid (m + sizH (L.take k) + n = left) ∧ Below w.heap.size w wr) (fun _ i _ => n - (intOf i).toNat)
    case atStart => exact ⟨0, left - n, Nat.zero_le _, rfl, by go_num, by omega, by show left - n + sizH (L.take 0) + n = left; simp [sizH, sizM]; omega, Below.refl _ _⟩
    case round =>
      obtain ⟨k, m, hk, rfl, rfl, hmd, HM, hb⟩ := hrel
      by_cases hlt : k < n
      · have hki : (k : Int) < (n : Int) := by omega
        obtain ⟨b, off, rfl, hbl, hcell⟩ := hx (by omega)
        obtain ⟨⟨no, s⟩, hks⟩ := at_lt HN.out hlt
        obtain ⟨hkl, hke⟩ := List.getElem?_eq_some_iff.1 hks
        have hc1 := (hb.cell (p := ⟨b, off + k * 2, none⟩) hbl).trans (hcell k _ hks).1
        have hc2 := (hb.cell (p := ⟨b, off + k * 2 + 1, none⟩) hbl).trans (hcell k _ hks).2
        simp only at hc1 hc2
        have hmk : s.length ≤ maxLen := by have := hmx L[k] (List.getElem_mem hkl); rw [hke] at this; exact this
        have HT := Lib.hid (sizH_take_succ L k hkl)
        rw [hke] at HT
        have HTL := Lib.hid (sizH_take_le L (k + 1))
        have HMK := Lib.hid hmk
        have hbs := hb.size
        clear hcell hx hks hke hkl hmk
        go_wp2_with fail
        refine (szDrop_any no s m _ (by omega) HMK.out).mono ?_
        rintro e w' ⟨rfl, ht⟩
        have hb2 := ht.base hb (by omega) (by omega)
        by_cases hle : s.length ≤ m
        · have HM2 : Hid (m - s.length + sizH (L.take (k + 1)) + n = left) := by
            show _ = left
            have h7 : sizH (L.take (k + 1)) = sizH (L.take k) + s.length := HT.out; have := HM.out; omega
          rw [szV_yes hle]
          generalize s.length = z at *
          have hneg : ¬ ((m - z : Nat) : Int) < 0 := by omega
          go_wp2_with fail
          go_roundw
          case rel => exact ⟨k + 1, m - z, by omega, by go_num, rfl, by omega, HM2, hb2⟩
          case measure => simp [intOf]; omega
        · have HF : Hid (szV left (n + sizH L) = -1) := by
            show _ = _
            apply szV_no
            have h7 : sizH (L.take (k + 1)) = sizH (L.take k) + s.length := HT.out; have := HTL.out; have := HM.out; omega
          rw [szV_no (show m < s.length by omega)]
          go_wp2_with fail
          go_ret
          exact ⟨by rw [HF.out]; rfl, TurnIn.of_below hb2⟩
      · obtain rfl : k = n := by omega
        have hki : ¬ (k : Int) < (k : Int) := by omega
        have HF : Hid (szV left (k + sizH L) = (m : Int)) := by
          have e := HM.out
          rw [List.take_of_length_le (by rw [HN.out]; exact Nat.le_refl _)] at e
          show _ = _
          rw [szV_yes (by omega)]; omega
        go_wp2_with fail
        go_ret
        exact ⟨by rw [HF.out]; rfl, TurnIn.of_below hb⟩
  · have HF : Hid (szV left (n + sizH L) = -1) := by show _ = _; exact szV_no (by omega)
    go_enter Tryd.func28, Tryd.ntmps28
    go_wp2_with fail
    go_ret
    exact ⟨by rw [HF.out]; rfl, TurnIn.refl w⟩

theorem szDropS_yes (v : Value) (L : List Sh) (left : Nat) (w : World) (hv : SeenH w v L) (hmx : ∀ s ∈ L, s.2.length ≤ maxLen) (h : L.length + sizH L ≤ left) (hl : left ≤ 1048576) :
    Calls Tryd.prog 28 #[v, .int .i64 left] w (RetInt w ((left - (L.length + sizH L) : Nat) : Int)) :=
  (szDropS_any v L left w hv hmx hl).mono fun e w' he => ⟨by rw [he.1, szV_yes h], he.2⟩

theorem szDropS_no (v : Value) (L : List Sh) (left : Nat) (w : World) (hv : SeenH w v L) (hmx : ∀ s ∈ L, s.2.length ≤ maxLen) (h : left < L.length + sizH L) (hl : left ≤ 1048576) :
    Calls Tryd.prog 28 #[v, .int .i64 left] w (RetInt w (-1)) :=
  (szDropS_any v L left w hv hmx hl).mono fun e w' he => ⟨by rw [he.1, szV_no h], he.2⟩

theorem szDrop_yes (n : Int) (s : List UInt8) (left : Nat) (w : World) (hl : left ≤ 1048576) (hm : s.length ≤ maxLen) (h : s.length ≤ left) : Calls Tryd.prog 35 #[.agg #[.int .i64 n, .string (str s)], .int .i64 left] w (RetInt w ((left - s.length : Nat) : Int)) :=
  (szDrop_any n s left w hl hm).mono fun e w' he => ⟨by rw [he.1, szV_yes h], he.2⟩

theorem szDrop_no (n : Int) (s : List UInt8) (left : Nat) (w : World) (hl : left ≤ 1048576) (hm : s.length ≤ maxLen) (h : left < s.length) : Calls Tryd.prog 35 #[.agg #[.int .i64 n, .string (str s)], .int .i64 left] w (RetInt w (-1)) :=
  (szDrop_any n s left w hl hm).mono fun e w' he => ⟨by rw [he.1, szV_no h], he.2⟩

end Go.Proofs.YtjklngheehhggaaDoor
