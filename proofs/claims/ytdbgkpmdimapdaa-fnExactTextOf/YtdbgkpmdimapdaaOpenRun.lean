/- From the readings of a law's arguments to what its walk asks: slices of runs. -/
import Derived.Test.YtdbgkpmdimapdaaProg
import Derived.Test.YtdbgkpmdimapdaaOpenArgs
import Derived.Test.YtdbgkpmdimapdaaRunMem
import Derived.Deep.SlicePairs
set_option linter.unusedSimpArgs false
set_option linter.unusedVariables false
namespace G294
open Go Go.ChangeShapes Go.WideShapes Go.ChangeAt Go.RowKit Go.Deep
section
variable {H : Type} {enc : TypeId × Value → H} {P : Program} {W : World} {base : Nat} {t e : TypeId} {v : Value} {d : DataW H} {p : List MemPlace} {f0 f1 : Field}
theorem pairs_listRu (V0 V1 : Nat → Value) (len : Nat) (h : ∀ i, i < len → (∃ z : UInt8, V0 i = .int .u8 (z.toNat : Int)) ∧ ∃ s : Int, V1 i = .int .i64 s) :
    ∃ l : List Ru, l.length = len ∧ ∀ (i : Nat) (s : Ru), l[i]? = some s → V0 i = .int .u8 (s.1.toNat : Int) ∧ V1 i = .int .i64 s.2 := by
  induction len with
  | zero => exact ⟨[], rfl, fun i s hs => by simp at hs⟩
  | succ n ih =>
    obtain ⟨l, h1, h3⟩ := ih fun i hi => h i (by omega)
    obtain ⟨⟨z, hz⟩, s, hs⟩ := h n (by omega)
    refine ⟨l ++ [(z, s)], by simp [h1], fun i x hx => ?_⟩
    · rcases Nat.lt_or_ge i l.length with hi | hi
      · rw [List.getElem?_append_left hi] at hx
        exact h3 i x hx
      · rw [List.getElem?_append_right hi] at hx
        have : i = n := by
          have := (List.getElem?_eq_some_iff.1 hx).1
          simp at this; omega
        subst this
        rw [← h1] at hx
        simp at hx
        subst hx
        exact ⟨hz, hs⟩
/-- a slice of shards that came in -/
theorem seen_rus (ht : P.underlying t = some (.slice e)) (he : P.underlying e = some (.struct #[f0, f1])) (ce : P.cellsOf e = 2) (o0 : f0.offset = 0) (o1 : f1.offset = 1) (c0 : P.cellsOf f0.type = 1) (c1 : P.cellsOf f1.type = 1)
    (u0 : P.underlying f0.type = some (.int .u8)) (u1 : P.underlying f1.type = some (.int .i64))
    (hv : Value.okWide P W .any base t v) (h : DataW.Trod enc P W 0 (fun _ => true) true t v d p) (hlt : ∀ x ∈ p, x.block < W.heap.size) : ∃ l : List Ru, SeenRu W v l := by
  obtain ⟨a0, len, cap, rfl⟩ := okWide_slice ht hv
  obtain ⟨fuel, hf⟩ := h
  rcases open_slice_pairs ht he ce o0 o1 c0 c1 hf with ⟨hcs, hx⟩ | ⟨a, len', cap', m, n, V0, V1, D0, D1, P0, P1, hcs, _, hl, hm, hmm, hx, hcell⟩
  · have e1 : a0 = none ∧ len = 0 ∧ cap = 0 := by simpa [Value.cells] using hcs
    obtain ⟨rfl, rfl, rfl⟩ := e1
    exact ⟨[], SeenRu.nil W⟩
  · have e1 : a0 = some a ∧ len = len' ∧ cap = cap' := by simpa [Value.cells] using hcs
    obtain ⟨rfl, rfl, rfl⟩ := e1
    have hml : len ≤ m := by rw [hmm]; simp; exact hl
    obtain ⟨l, h1, h3⟩ := pairs_listRu V0 V1 len fun i hi => by
      obtain ⟨_, _, t0, t1⟩ := hcell i (by omega)
      obtain ⟨z, hz, _, hzw⟩ := DataW.trod_int u0 t0
      obtain ⟨s, hs, _, hsw⟩ := DataW.trod_int u1 t1
      simp only [List.cons.injEq, and_true] at hz hs
      have bz := bounds_u8 hzw
      exact ⟨⟨UInt8.ofNat z.toNat, by rw [hz, UInt8.toNat_ofNat']; congr 1; omega⟩, s, hs⟩
    refine ⟨l, ⟨some a, cap, by rw [h1], by omega, hm, fun hn => ?_⟩⟩
    obtain ⟨b, off, spot⟩ := a
    have hspot : spot = none := by simpa [Addr.add] using World.cell?_spot (hcell 0 (by omega)).1
    subst hspot
    have e0 := (hcell 0 (by omega)).1
    rw [Go.WideShapes.add_plain] at e0
    refine ⟨b, off, rfl, World.block_lt_of_cell? W _ e0, fun i s hs => ?_⟩
    have hi : i < len := by have := (List.getElem?_eq_some_iff.1 hs).1; omega
    obtain ⟨e0, e1, _, _⟩ := hcell i (by omega)
    obtain ⟨g0, g1⟩ := h3 i s hs
    rw [Go.WideShapes.add_plain, g0] at e0
    rw [Go.WideShapes.add_plain, g1] at e1
    exact ⟨e0, by rw [Nat.add_assoc]; exact e1⟩
end
end G294
