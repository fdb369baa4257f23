/- Joined texts: OpenShs, OpenMats, OpenPie, OpenStrs, OpenStrp, PeeMath, OpenDrp. -/
import Derived.Test.YtjklngheehhggaaProg
import Derived.Test.YtjklngheehhggaaBd00
import Derived.Test.YtjklngheehhggaaBd09
import Derived.Deep.SlicePairs
import Derived.Test.YtjklngheehhggaaBd02
import Derived.Deep.Matrix
import Derived.Lib.SmallJoins
import Derived.Test.YtjklngheehhggaaBd01
import Derived.SliceStrings
import Derived.ChangeMaps5
import Derived.Test.YtjklngheehhggaaBd08
import Derived.Deep.Grids
set_option linter.unusedSimpArgs false
set_option linter.unusedVariables false
/- From the readings of a law's arguments to what its walk asks: slices of shards. -/
namespace G294
open Go Go.ChangeShapes Go.WideShapes Go.ChangeAt Go.RowKit Go.Deep
section
variable {H : Type} {enc : TypeId × Value → H} {P : Program} {W : World} {base : Nat} {t e : TypeId} {v : Value} {d : DataW H} {p : List MemPlace} {f0 f1 : Field}
theorem pairs_list (V0 V1 : Nat → Value) (len : Nat) (h : ∀ i, i < len → (∃ z, V0 i = .int .i64 z) ∧ ∃ s : List UInt8, V1 i = .string (str s) ∧ s.length ≤ maxLen) :
    ∃ l : List Sh, l.length = len ∧ (∀ s ∈ l, s.2.length ≤ maxLen) ∧ ∀ (i : Nat) (s : Sh), l[i]? = some s → V0 i = .int .i64 s.1 ∧ V1 i = .string (str s.2) := by
  induction len with
  | zero => exact ⟨[], rfl, fun s hs => by simp at hs, fun i s hs => by simp at hs⟩
  | succ n ih =>
    obtain ⟨l, h1, h2, h3⟩ := ih fun i hi => h i (by omega)
    obtain ⟨⟨z, hz⟩, s, hs, hsl⟩ := h n (by omega)
    refine ⟨l ++ [(z, s)], by simp [h1], fun x hx => ?_, fun i x hx => ?_⟩
    · rcases List.mem_append.1 hx with hx | hx
      · exact h2 x hx
      · simp at hx; subst hx; exact hsl
    · rcases Nat.lt_or_ge i l.length with hi | hi
      · rw [List.getElem?_append_left hi] at hx
        exact h3 i x hx
      · rw [List.getElem?_append_right hi] at hx
        have : i = n := by
          have := (List.getElem?_eq_some_iff.1 hx).1
          simp at this; omega
        subst this
        rw [← h1] at hx
        simp at hx
        subst hx
        exact ⟨hz, hs⟩
/-- a slice of shards that came in -/
theorem seen_shs (ht : P.underlying t = some (.slice e)) (he : P.underlying e = some (.struct #[f0, f1])) (ce : P.cellsOf e = 2) (o0 : f0.offset = 0) (o1 : f1.offset = 1) (c0 : P.cellsOf f0.type = 1) (c1 : P.cellsOf f1.type = 1)
    (u0 : P.underlying f0.type = some (.int .i64)) (u1 : P.underlying f1.type = some .string)
    (hv : Value.okWide P W .any base t v) (h : DataW.Trod enc P W 0 (fun _ => true) true t v d p) (hlt : ∀ x ∈ p, x.block < W.heap.size) : ∃ l : List Sh, SeenH W v l ∧ ∀ s ∈ l, s.2.length ≤ maxLen := by
  obtain ⟨a0, len, cap, rfl⟩ := okWide_slice ht hv
  obtain ⟨fuel, hf⟩ := h
  rcases open_slice_pairs ht he ce o0 o1 c0 c1 hf with ⟨hcs, hx⟩ | ⟨a, len', cap', m, n, V0, V1, D0, D1, P0, P1, hcs, _, hl, hm, hmm, hx, hcell⟩
  · have e1 : a0 = none ∧ len = 0 ∧ cap = 0 := by simpa [Value.cells] using hcs
    obtain ⟨rfl, rfl, rfl⟩ := e1
    exact ⟨[], SeenH.nil W, fun s hs => by simp at hs⟩
  · have e1 : a0 = some a ∧ len = len' ∧ cap = cap' := by simpa [Value.cells] using hcs
    obtain ⟨rfl, rfl, rfl⟩ := e1
    have hml : len ≤ m := by rw [hmm]; simp; exact hl
    obtain ⟨l, h1, h2, h3⟩ := pairs_list V0 V1 len fun i hi => by
      obtain ⟨_, _, t0, t1⟩ := hcell i (by omega)
      obtain ⟨z, hz, _⟩ := DataW.trod_int u0 t0
      obtain ⟨s, hs, _, hsl⟩ := DataW.trod_string u1 t1
      simp only [List.cons.injEq, and_true] at hz hs
      exact ⟨⟨z, hz⟩, s.data.toList, by rw [hs, ← str_eq], by rw [Array.length_toList]; exact hsl⟩
    refine ⟨l, ⟨some a, cap, by rw [h1], by omega, hm, fun hn => ?_⟩, h2⟩
    obtain ⟨b, off, spot⟩ := a
    have hspot : spot = none := by simpa [Addr.add] using World.cell?_spot (hcell 0 (by omega)).1
    subst hspot
    have e0 := (hcell 0 (by omega)).1
    rw [Go.WideShapes.add_plain] at e0
    refine ⟨b, off, rfl, World.block_lt_of_cell? W _ e0, fun i s hs => ?_⟩
    have hi : i < len := by have := (List.getElem?_eq_some_iff.1 hs).1; omega
    obtain ⟨e0, e1, _, _⟩ := hcell i (by omega)
    obtain ⟨g0, g1⟩ := h3 i s hs
    rw [Go.WideShapes.add_plain, g0] at e0
    rw [Go.WideShapes.add_plain, g1] at e1
    exact ⟨e0, by rw [Nat.add_assoc]; exact e1⟩
end
end G294

/- From the readings of a law's arguments to what its walk asks: slices of ints, slices of slices of bytes, a struct of one such field. -/
namespace G294
open Go Go.ChangeShapes Go.WideShapes Go.ChangeAt Go.RowKit Go.Deep

def bytesOf (zs : List Int) : List UInt8 := zs.map fun z => UInt8.ofNat z.toNat
theorem bytesOf_length (zs : List Int) : (bytesOf zs).length = zs.length := by simp [bytesOf]
theorem bys_bytesOf {zs : List Int} (h : ∀ z ∈ zs, (Lit.int .u8 z).wf = true) : bys (bytesOf zs) = zs.map fun z => Value.int .u8 z := by
  simp only [bys, bytesOf, List.map_map]
  refine List.map_congr_left fun z hz => ?_
  have hb := bounds_u8 (h z hz)
  simp only [Function.comp, UInt8.toNat_ofNat']
  congr 1
  omega

section
variable {H : Type} {enc : TypeId × Value → H} {P : Program} {W : World} {base : Nat} {t e q : TypeId} {v : Value} {d : DataW H} {p : List MemPlace}
/-- a slice of ints that came in -/
theorem seen_ints (ht : P.underlying t = some (.slice e)) (he : P.underlying e = some (.int .i64)) (hc : P.cellsOf e = 1)
    (hv : Value.okWide P W .any base t v) (h : DataW.Trod enc P W 0 (fun _ => true) true t v d p) (hlt : ∀ x ∈ p, x.block < W.heap.size) : ∃ l : List Int, Seen W v (ints l) := by
  obtain ⟨a0, len, cap, rfl⟩ := okWide_slice ht hv
  obtain ⟨fuel, hf⟩ := h
  rcases open_ints ht he hc hf with ⟨hcs, hx⟩ | ⟨a, len', cap', zs, hcs, _, hl, hm, hz, hx, hcell, hwz⟩
  · have e1 : a0 = none ∧ len = 0 ∧ cap = 0 := by simpa [Value.cells] using hcs
    obtain ⟨rfl, rfl, rfl⟩ := e1
    exact ⟨[], Seen.nil W⟩
  · have e1 : a0 = some a ∧ len = len' ∧ cap = cap' := by simpa [Value.cells] using hcs
    obtain ⟨rfl, rfl, rfl⟩ := e1
    have hz' : zs.length = cap := by simpa using hz
    have hlen : (zs.take len).length = len := by rw [List.length_take]; omega
    refine ⟨zs.take len, some a, cap, by simp [hlen, hl, hz'], by simp [hl, hz'], hm, fun hn => ?_⟩
    rw [ints_length, hlen] at hn
    obtain ⟨b, off, rfl, hc'⟩ := ints_at hcell (by omega)
    refine ⟨b, off, rfl, World.block_lt_of_cell? W _ (hc' 0 (by omega)), fun i u hu => ?_⟩
    have hi : i < (zs.take len).length := by
      have := (List.getElem?_eq_some_iff.1 hu).1
      simpa using this
    rw [ints_get _ i hi] at hu
    rw [hlen] at hi
    rw [hc' i (by omega), ← Option.some.inj hu]
    simp [List.getD, show i < zs.length by omega]

/-- the cells of a slice of slices of bytes -/
theorem seen_rows {held : Bool} {fuel : Nat} {x : DataW H × List MemPlace} (ht : P.underlying t = some (.slice e)) (he : P.underlying e = some (.slice q)) (hq : P.underlying q = some (.int .u8)) (ce : P.cellsOf e = 1) (cq : P.cellsOf q = 1)
    (h : DataW.trod enc P W 0 (fun _ => true) held fuel t [v] = some x) : ∃ L : Mat, SeenM W v L := by
  rcases open_int_rows ht he hq ce cq h with ⟨hcs, _⟩ | ⟨a, len, cap, A, L, C, Z, hcs, _, hl, hm, _, hrow⟩
  · obtain rfl : v = .slice none 0 0 := by simpa using hcs
    exact ⟨[], [], rfl, Seen.nil W, fun i u hu => by simp at hu⟩
  · obtain rfl : v = .slice (some a) len cap := by simpa using hcs
    refine ⟨(List.range len).map fun r => bytesOf ((Z r).take (L r)), (List.range len).map fun r => .slice (A r) (L r) (C r), by simp, ?_, ?_⟩
    · refine ⟨some a, cap, by simp, by simp [hl], hm, fun hn => ?_⟩
      have hn' : 0 < len := by simpa using hn
      obtain ⟨b, off, spot⟩ := a
      have hspot : spot = none := by simpa [Addr.add] using World.cell?_spot (hrow 0 (by omega)).1
      subst hspot
      have hc' : ∀ i, i < len → W.cell? ⟨b, off + i, none⟩ = some (.slice (A i) (L i) (C i)) := fun i hi => by
        rw [← Go.WideShapes.add_plain]; exact (hrow i (by omega)).1
      refine ⟨b, off, rfl, World.block_lt_of_cell? W _ (hc' 0 hn'), fun i u hu => ?_⟩
      have hi : i < len := by have := (List.getElem?_eq_some_iff.1 hu).1; simpa using this
      rw [hc' i hi]
      rw [List.getElem?_map, List.getElem?_range hi] at hu
      simpa using hu
    · intro i u hu
      have hi : i < len := by have := (List.getElem?_eq_some_iff.1 hu).1; simpa using this
      rw [List.getElem?_map, List.getElem?_range hi] at hu
      have hu' : Value.slice (A i) (L i) (C i) = u := by simpa using hu
      subst hu'
      obtain ⟨r1, r2, r3, r4, r5, r6, r7⟩ := hrow i (by omega)
      have eg : ((List.range len).map fun r => bytesOf ((Z r).take (L r))).getD i [] = bytesOf ((Z i).take (L i)) := by simp [List.getD, hi]
      have hlen : (bytesOf ((Z i).take (L i))).length = L i := by rw [bytesOf_length, List.length_take]; omega
      rw [eg]
      refine ⟨A i, C i, by rw [bys_length, hlen], by rw [bys_length, hlen]; exact r2, r3, fun hn => ?_⟩
      rw [bys_length, hlen] at hn
      obtain ⟨a', ha'⟩ : ∃ a', A i = some a' := by
        cases hA : A i with
        | none => have := r6 hA; omega
        | some a' => exact ⟨a', rfl⟩
      obtain ⟨b', off', spot'⟩ := a'
      obtain ⟨_, hcc⟩ := r7 _ ha'
      have hspot : spot' = none := by simpa [Addr.add] using World.cell?_spot (hcc 0 (by omega))
      subst hspot
      have hc' : ∀ j, j < C i → W.cell? ⟨b', off' + j, none⟩ = some (.int .u8 ((Z i).getD j 0)) := fun j hj => by
        rw [← Go.WideShapes.add_plain]; exact hcc j hj
      refine ⟨b', off', ha', World.block_lt_of_cell? W _ (hc' 0 (by omega)), fun j u hu => ?_⟩
      have hj : j < L i := by have := (List.getElem?_eq_some_iff.1 hu).1; simpa [hlen] using this
      rw [bys_bytesOf (fun z hz => r5 z (List.mem_of_mem_take hz)), List.getElem?_map, List.getElem?_take, if_pos hj, List.getElem?_eq_getElem (by omega)] at hu
      simp only [Option.map_some, Option.some.injEq] at hu
      rw [hc' j (by omega), ← hu]
      simp [List.getD, show j < (Z i).length by omega]

/-- a struct of one field, a slice of slices of bytes, that came in -/
theorem seen_mat1 {s : TypeId} {f0 : Field} (hs : P.underlying s = some (.struct #[f0])) (ho : f0.offset = 0) (hf : f0.type = t) (cs1 : P.cellsOf s = 1) (ct : P.cellsOf t = 1)
    (ht : P.underlying t = some (.slice e)) (he : P.underlying e = some (.slice q)) (hq : P.underlying q = some (.int .u8)) (ce : P.cellsOf e = 1) (cq : P.cellsOf q = 1)
    (hv : Value.okWide P W .any base s v) (h : DataW.Trod enc P W 0 (fun _ => true) true s v d p) (hlt : ∀ x ∈ p, x.block < W.heap.size) : ∃ (y : Value) (L : Mat), v = .agg #[y] ∧ SeenM W y L := by
  obtain ⟨cs, rfl, hcs⟩ := okWide_struct hs hv
  rw [cs1] at hcs
  obtain ⟨y, rfl⟩ : ∃ y, cs = #[y] := by
    match cs, hcs with
    | ⟨[y]⟩, _ => exact ⟨y, rfl⟩
  obtain ⟨fuel, hfu⟩ := h
  obtain ⟨y0, n, _, _, hy⟩ := trod_struct1 hs hfu
  rw [ho, hf, ct] at hy
  have hy' : DataW.trod enc P W 0 (fun _ => true) true n t [y] = some y0 := by simpa [Value.cells] using hy
  obtain ⟨L, hL⟩ := seen_rows ht he hq ce cq hy'
  exact ⟨y, L, rfl, hL⟩
end
end G294
namespace Go.Proofs.Ytjklngheehhggaa
open Go Go.ChangeShapes Go.WideShapes Go.ChangeAt Go.RowKit G294

end Go.Proofs.Ytjklngheehhggaa

/- From the readings of a law's arguments to what its walk asks: a struct of an int and a slice of bytes. -/
namespace G294
open Go Go.ChangeShapes Go.WideShapes Go.ChangeAt Go.RowKit Go.Deep Go.Joins
section
variable {H : Type} {enc : TypeId × Value → H} {P : Program} {W : World} {base : Nat} {t e q s : TypeId} {v : Value} {d : DataW H} {p : List MemPlace} {f0 f1 : Field}
theorem seen_bytes1 {held : Bool} {fuel : Nat} {x : DataW H × List MemPlace} (ht : P.underlying t = some (.slice e)) (he : P.underlying e = some (.int .u8)) (hc : P.cellsOf e = 1)
    (h : DataW.trod enc P W 0 (fun _ => true) held fuel t [v] = some x) : ∃ l : List UInt8, Seen W v (bys l) := by
  rcases open_ints ht he hc h with ⟨hcs, hx⟩ | ⟨a, len, cap, zs, hcs, _, hl, hm, hz, hx, hcell, hwz⟩
  · obtain rfl : v = .slice none 0 0 := by simpa using hcs
    exact ⟨[], Seen.nil W⟩
  · obtain rfl : v = .slice (some a) len cap := by simpa using hcs
    have hz' : zs.length = cap := by simpa using hz
    obtain ⟨l, hbl, hll⟩ := bytes_of_wf (zs := zs.take len) (fun y hy => hwz y (List.mem_of_mem_take hy))
    have hlen : l.length = len := by rw [hll, List.length_take]; omega
    refine ⟨l, some a, cap, by simp [hlen], by simp [hlen, hl], hm, fun hn => ?_⟩
    rw [bys_length, hlen] at hn
    obtain ⟨b, off, rfl, hc'⟩ := ints_at hcell (by omega)
    refine ⟨b, off, rfl, World.block_lt_of_cell? W _ (hc' 0 (by omega)), fun i u hu => ?_⟩
    rw [← hbl] at hu
    simp only [List.getElem?_map, List.getElem?_take] at hu
    split at hu
    · rename_i hi
      rw [hc' i (by omega)]
      rw [List.getElem?_eq_getElem (by omega)] at hu
      simp only [Option.map_some, Option.some.injEq] at hu
      rw [← hu]
      simp [List.getD, show i < zs.length by omega]
    · simp at hu
theorem seen_piece (hs : P.underlying s = some (.struct #[f0, f1])) (hone : oneCellFields P #[f0, f1] = true) (hC : P.cellsOf s = 2) (u0 : P.underlying f0.type = some (.int .i64)) (ht : P.underlying f1.type = some (.slice e)) (he : P.underlying e = some (.int .u8)) (hc : P.cellsOf e = 1)
    (hv : Value.okWide P W .any base s v) (h : DataW.Trod enc P W 0 (fun _ => true) true s v d p) : ∃ (a : Int) (u : Value) (l : List UInt8), v = .agg #[.int .i64 a, u] ∧ Seen W u (bys l) := by
  obtain ⟨v0, v1, y0, y1, n, rfl, _, _, h0, h1⟩ := open_agg2 hs hone hC hv h
  obtain ⟨g, hg, _⟩ := DataW.trod_int u0 h0
  obtain ⟨l, hl⟩ := seen_bytes1 ht he hc h1
  simp only [List.cons.injEq, and_true] at hg
  exact ⟨g, v1, l, by rw [hg], hl⟩
end
end G294

/- From the readings of a law's arguments to what its walk asks: strings and slices of strings. -/
namespace G294
open Go Go.ChangeShapes Go.WideShapes Go.ChangeAt Go.RowKit
section
variable {H : Type} {enc : TypeId × Value → H} {P : Program} {W : World} {base : Nat} {t e q : TypeId} {v : Value} {d : DataW H} {p : List MemPlace}
/-- a slice of strings that came in -/
theorem seen_strs (ht : P.underlying t = some (.slice e)) (he : P.underlying e = some .string) (hc : P.cellsOf e = 1)
    (hv : Value.okWide P W .any base t v) (h : DataW.Trod enc P W 0 (fun _ => true) true t v d p) (hlt : ∀ x ∈ p, x.block < W.heap.size) : ∃ l : List (List UInt8), Seen W v (strs l) ∧ ∀ s ∈ l, s.length ≤ maxLen := by
  obtain ⟨a0, len, cap, rfl⟩ := okWide_slice ht hv
  obtain ⟨fuel, hf⟩ := h
  rcases open_strings ht he hc hf with ⟨hcs, hx⟩ | ⟨a, len', cap', ss, hcs, _, hl, hm, hz, hx, hcell, hwz⟩
  · have e1 : a0 = none ∧ len = 0 ∧ cap = 0 := by simpa [Value.cells] using hcs
    obtain ⟨rfl, rfl, rfl⟩ := e1
    exact ⟨[], Seen.nil W, fun s hs => by simp at hs⟩
  · have e1 : a0 = some a ∧ len = len' ∧ cap = cap' := by simpa [Value.cells] using hcs
    obtain ⟨rfl, rfl, rfl⟩ := e1
    have hz' : ss.length = cap := by simpa using hz
    have hlen : (ss.take len).length = len := by rw [List.length_take]; omega
    have es : strs ((ss.take len).map fun s => s.data.toList) = (ss.take len).map Value.string := by
      simp only [strs, List.map_map]
      exact List.map_congr_left fun s _ => by simp only [Function.comp]; rw [← str_eq]
    refine ⟨(ss.take len).map fun s => s.data.toList, ⟨some a, cap, by simp [hlen, hl, hz'], by simp [hl, hz'], hm, fun hn => ?_⟩, fun s hs => ?_⟩
    rotate_left
    · obtain ⟨b, hb, rfl⟩ := List.mem_map.1 hs
      have := hwz b (List.mem_of_mem_take hb)
      rw [Array.length_toList]
      exact this
    rw [strs_length, List.length_map, hlen] at hn
    obtain ⟨b, off, spot⟩ := a
    have hspot : spot = none := by simpa [Addr.add] using World.cell?_spot (hcell 0 (by omega))
    subst hspot
    have hc' : ∀ i, i < ss.length → W.cell? ⟨b, off + i, none⟩ = some (.string (ss.getD i ByteArray.empty)) := fun i hi => by
      rw [← Go.WideShapes.add_plain]; exact hcell i hi
    refine ⟨b, off, rfl, World.block_lt_of_cell? W _ (hc' 0 (by omega)), fun i u hu => ?_⟩
    rw [es, List.getElem?_map] at hu
    have hi : i < len := by
      rcases Nat.lt_or_ge i len with h | h
      · exact h
      · rw [List.getElem?_eq_none (by omega)] at hu; simp at hu
    rw [List.getElem?_take, if_pos hi, List.getElem?_eq_getElem (by omega)] at hu
    simp only [Option.map_some, Option.some.injEq] at hu
    rw [hc' i (by omega), ← hu]
    simp [List.getD, show i < ss.length by omega]
theorem open_text (ht : P.underlying t = some .string) (hv : Value.okWide P W .any base t v) (h : DataW.Trod enc P W 0 (fun _ => true) true t v d p) : ∃ l : List UInt8, v = .string (str l) := by
  obtain ⟨s, rfl, _⟩ := Go.ChangeMaps.open_string ht hv h
  exact ⟨s.data.toList, by rw [← str_eq]⟩
end
end G294

/- From the readings of a law's arguments to what its walk asks: a struct of two slices of strings. -/
namespace G294
open Go Go.ChangeShapes Go.WideShapes Go.ChangeAt Go.RowKit Go.Deep Go.Joins
section
variable {H : Type} {enc : TypeId × Value → H} {P : Program} {W : World} {base : Nat} {t e q s : TypeId} {v : Value} {d : DataW H} {p : List MemPlace} {f0 f1 : Field}
theorem seen_strs1 {held : Bool} {fuel : Nat} {x : DataW H × List MemPlace} (ht : P.underlying t = some (.slice e)) (he : P.underlying e = some .string) (hc : P.cellsOf e = 1)
    (h : DataW.trod enc P W 0 (fun _ => true) held fuel t [v] = some x) : ∃ l : List (List UInt8), Seen W v (strs l) ∧ ∀ s ∈ l, s.length ≤ maxLen := by
  rcases open_strings ht he hc h with ⟨hcs, hx⟩ | ⟨a, len, cap, ss, hcs, _, hl, hm, hz, hx, hcell, hwz⟩
  · obtain rfl : v = .slice none 0 0 := by simpa using hcs
    exact ⟨[], Seen.nil W, fun s hs => by simp at hs⟩
  · obtain rfl : v = .slice (some a) len cap := by simpa using hcs
    have hz' : ss.length = cap := by simpa using hz
    have hlen : (ss.take len).length = len := by rw [List.length_take]; omega
    have es : strs ((ss.take len).map fun s => s.data.toList) = (ss.take len).map Value.string := by
      simp only [strs, List.map_map]
      exact List.map_congr_left fun s _ => by simp only [Function.comp]; rw [← str_eq]
    refine ⟨(ss.take len).map fun s => s.data.toList, ⟨some a, cap, by simp [hlen, hl, hz'], by simp [hl, hz'], hm, fun hn => ?_⟩, fun s hs => ?_⟩
    rotate_left
    · obtain ⟨b, hb, rfl⟩ := List.mem_map.1 hs
      have := hwz b (List.mem_of_mem_take hb)
      rw [Array.length_toList]
      exact this
    rw [strs_length, List.length_map, hlen] at hn
    obtain ⟨b, off, spot⟩ := a
    have hspot : spot = none := by simpa [Addr.add] using World.cell?_spot (hcell 0 (by omega))
    subst hspot
    have hc' : ∀ i, i < ss.length → W.cell? ⟨b, off + i, none⟩ = some (.string (ss.getD i ByteArray.empty)) := fun i hi => by
      rw [← Go.WideShapes.add_plain]; exact hcell i hi
    refine ⟨b, off, rfl, World.block_lt_of_cell? W _ (hc' 0 (by omega)), fun i u hu => ?_⟩
    rw [es, List.getElem?_map] at hu
    have hi : i < len := by
      rcases Nat.lt_or_ge i len with h | h
      · exact h
      · rw [List.getElem?_eq_none (by omega)] at hu; simp at hu
    rw [List.getElem?_take, if_pos hi, List.getElem?_eq_getElem (by omega)] at hu
    simp only [Option.map_some, Option.some.injEq] at hu
    rw [hc' i (by omega), ← hu]
    simp [List.getD, show i < ss.length by omega]
theorem seen_strp (hs : P.underlying s = some (.struct #[f0, f1])) (hone : oneCellFields P #[f0, f1] = true) (hC : P.cellsOf s = 2) (h0 : P.underlying f0.type = some (.slice e)) (h1 : P.underlying f1.type = some (.slice e)) (he : P.underlying e = some .string) (hc : P.cellsOf e = 1)
    (hv : Value.okWide P W .any base s v) (h : DataW.Trod enc P W 0 (fun _ => true) true s v d p) : ∃ (x u : Value) (l m : List (List UInt8)), v = .agg #[x, u] ∧ Seen W x (strs l) ∧ Seen W u (strs m) ∧ (∀ s ∈ l, s.length ≤ maxLen) ∧ ∀ s ∈ m, s.length ≤ maxLen := by
  obtain ⟨v0, v1, y0, y1, n, rfl, _, _, g0, g1⟩ := open_agg2 hs hone hC hv h
  obtain ⟨l, hl, ml⟩ := seen_strs1 h0 he hc g0
  obtain ⟨m, hm, mm⟩ := seen_strs1 h1 he hc g1
  exact ⟨v0, v1, l, m, rfl, hl, hm, ml, mm⟩
end
end G294

/- Chapter 9: peeling (mathematics). -/
namespace G294
open Go Go.RowKit
/-- a state of peeling: texts, which are known, how many -/
abbrev Pee := List (List UInt8) × List Bool × Int
def knw (p : Pee) (k : Nat) : Bool := p.2.1.getD k false
def unk (p : Pee) (ks : List Nat) : List Nat := ks.filter fun k => !knw p k
def kno (p : Pee) (ks : List Nat) : List Nat := ks.filter fun k => knw p k
theorem unk_snoc_yes {p : Pee} {ks : List Nat} {k : Nat} (h : knw p k = true) : unk p (ks ++ [k]) = unk p ks ∧ kno p (ks ++ [k]) = kno p ks ++ [k] := by
  constructor
  · unfold unk; rw [List.filter_append]; simp [h]
  · unfold kno; rw [List.filter_append]; simp [h]
theorem unk_snoc_no {p : Pee} {ks : List Nat} {k : Nat} (h : knw p k = false) : unk p (ks ++ [k]) = unk p ks ++ [k] ∧ kno p (ks ++ [k]) = kno p ks := by
  constructor
  · unfold unk; rw [List.filter_append]; simp [h]
  · unfold kno; rw [List.filter_append]; simp [h]
/-- the data of a drop plus its known blocks -/
def pdat (d : Sh) (p : Pee) : List UInt8 := addN p.1 (kno p (blkN d.1.toNat p.1.length)) d.2
def punk (d : Sh) (p : Pee) : List Nat := unk p (blkN d.1.toNat p.1.length)
def putP (p : Pee) (k : Nat) (x : List UInt8) : Pee := (p.1.set k x, p.2.1.set k true, p.2.2 + 1)
def oneStep (d : Sh) (p : Pee) : Option Pee := match punk d p with
  | [k] => some (putP p k (pdat d p))
  | _ => none
def stepP : List Sh → Pee → Option Pee
  | [], _ => none
  | d :: l, p => match oneStep d p with
    | some q => some q
    | none => stepP l p
theorem oneStep_one {d : Sh} {p : Pee} {k : Nat} (h : punk d p = [k]) : oneStep d p = some (putP p k (pdat d p)) := by unfold oneStep; rw [h]
theorem oneStep_not {d : Sh} {p : Pee} (h : (punk d p).length ≠ 1) : oneStep d p = none := by
  unfold oneStep
  split
  · rename_i k e; rw [e] at h; exact absurd rfl h
  · rfl
theorem stepP_skip {l : List Sh} {p : Pee} : ∀ {k : Nat}, (∀ (i : Nat) (d : Sh), i < k → l[i]? = some d → oneStep d p = none) → stepP l p = stepP (l.drop k) p := by
  induction l with
  | nil => intro k _; simp
  | cons d l ih =>
    intro k h
    cases k with
    | zero => rfl
    | succ k =>
      show (match oneStep d p with | some q => some q | none => stepP l p) = stepP (l.drop k) p
      rw [h 0 d (by omega) rfl]
      exact ih fun i d hi hd => h (i + 1) d (by omega) (by simpa using hd)
theorem stepP_at {l : List Sh} {p q : Pee} {k : Nat} {d : Sh} (h : ∀ (i : Nat) (d : Sh), i < k → l[i]? = some d → oneStep d p = none) (hd : l[k]? = some d) (hq : oneStep d p = some q) : stepP l p = some q := by
  rw [stepP_skip h]
  obtain ⟨hk, e⟩ := List.getElem?_eq_some_iff.1 hd
  rw [List.drop_eq_getElem_cons hk, e]
  show (match oneStep d p with | some q => some q | none => _) = _
  rw [hq]
theorem stepP_none {l : List Sh} {p : Pee} (h : ∀ (i : Nat) (d : Sh), i < l.length → l[i]? = some d → oneStep d p = none) : stepP l p = none := by
  rw [stepP_skip h, List.drop_length]; rfl
/-- steps as often as possible -/
def peelN (l : List Sh) : Nat → Pee → Pee
  | 0, p => p
  | n + 1, p => match stepP l p with
    | none => p
    | some q => peelN l n q
theorem peelN_none {l : List Sh} {p : Pee} (h : stepP l p = none) : ∀ n, peelN l n p = p
  | 0 => rfl
  | n + 1 => by show (match stepP l p with | none => p | some q => peelN l n q) = p; rw [h]
theorem peelN_some {l : List Sh} {p q : Pee} (h : stepP l p = some q) (n : Nat) : peelN l (n + 1) p = peelN l n q := by
  show (match stepP l p with | none => p | some q => peelN l n q) = _; rw [h]
/-- how many are not known -/
def left (p : Pee) : Nat := ((List.range p.1.length).filter fun k => !knw p k).length
theorem stepP_cases {l : List Sh} {p q : Pee} (h : stepP l p = some q) : ∃ (d : Sh) (k : Nat), d ∈ l ∧ punk d p = [k] ∧ q = putP p k (pdat d p) := by
  induction l with
  | nil => cases h
  | cons d l ih =>
    have h' : (match oneStep d p with | some q => some q | none => stepP l p) = some q := h
    cases hd : oneStep d p with
    | none =>
      rw [hd] at h'
      obtain ⟨d', k, h1, h2⟩ := ih h'
      exact ⟨d', k, List.mem_cons_of_mem _ h1, h2⟩
    | some q' =>
      rw [hd] at h'
      obtain rfl : q' = q := by simpa using h'
      unfold oneStep at hd
      split at hd
      · rename_i k e
        exact ⟨d, k, List.mem_cons_self, e, (Option.some.inj hd).symm⟩
      · cases hd
theorem punk_mem {d : Sh} {p : Pee} {k : Nat} (h : k ∈ punk d p) : k < p.1.length ∧ inF d.1.toNat p.1.length k = true ∧ knw p k = false := by
  simp only [punk, unk, List.mem_filter, blkN, blkK_mem] at h
  exact ⟨h.1.1, h.1.2, by simpa using h.2⟩
theorem putP_knw {p : Pee} {k i : Nat} {x : List UInt8} (hk : k < p.2.1.length) : knw (putP p k x) i = if i = k then true else knw p i := by
  show (p.2.1.set k true).getD i false = _
  rw [getD_set _ _ _ _ _ hk]
  rfl
theorem filter_drop_one {f g : Nat → Bool} {n k : Nat} (hk : k < n) (hf : f k = true) (hg : ∀ i, g i = if i = k then false else f i) : ((List.range n).filter g).length + 1 = ((List.range n).filter f).length := by
  induction n with
  | zero => omega
  | succ n ih =>
    rw [List.range_succ, List.filter_append, List.filter_append, List.length_append, List.length_append]
    by_cases e : k = n
    · subst e
      have h1 : ∀ m, m ≤ k → (List.range m).filter g = (List.range m).filter f := fun m hm => by
        apply List.filter_congr
        intro i hi
        have := List.mem_range.1 hi
        rw [hg i, if_neg (by omega)]
      rw [h1 k (Nat.le_refl _)]
      have h2 : g k = false := by rw [hg k, if_pos rfl]
      simp [h2, hf]
    · have h3 : g n = f n := by rw [hg n, if_neg (fun h => e h.symm)]
      have := ih (by omega)
      cases hn : f n <;> simp [h3, hn] <;> omega
theorem stepP_left {l : List Sh} {p q : Pee} (h : stepP l p = some q) (hl : p.2.1.length = p.1.length) : left q + 1 = left p ∧ q.1.length = p.1.length ∧ q.2.1.length = p.2.1.length ∧ q.2.2 = p.2.2 + 1 := by
  obtain ⟨d, k, _, hk, rfl⟩ := stepP_cases h
  have hm := punk_mem (p := p) (d := d) (k := k) (by rw [hk]; exact List.mem_singleton.2 rfl)
  refine ⟨?_, by simp [putP], by simp [putP], rfl⟩
  unfold left
  have e : (putP p k (pdat d p)).1.length = p.1.length := by simp [putP]
  rw [e]
  refine filter_drop_one hm.1 (by simp [hm.2.2]) fun i => ?_
  rw [putP_knw (by omega)]
  by_cases h : i = k
  · simp [h]
  · simp [h]
theorem stepP_full {l : List Sh} {p : Pee} (h : left p = 0) : stepP l p = none := by
  cases hs : stepP l p with
  | none => rfl
  | some q =>
    obtain ⟨d, k, _, hk, _⟩ := stepP_cases hs
    have hm := punk_mem (p := p) (d := d) (k := k) (by rw [hk]; exact List.mem_singleton.2 rfl)
    have : k ∈ (List.range p.1.length).filter fun k => !knw p k := by simp [hm.1, hm.2.2]
    rw [List.eq_nil_of_length_eq_zero h] at this
    cases this
/-- valid drops -/
def dropsOk (l : List Sh) : Bool := decide (l.length ≤ 40) && ((l.all fun d => seedOk d.1) && textsOk (l.map (·.2)))
/-- a valid state for drops -/
def peeOk (l : List Sh) (p : Pee) : Bool := bcOk p.1.length && (decide (p.2.1.length = p.1.length) && (decide (p.2.2 = ((List.range p.1.length).filter fun k => knw p k).length) &&
  (List.range p.1.length).all fun k => decide ((p.1.getD k []).length = if knw p k then (l.getD 0 (0, [])).2.length else 0)))
def stpOk (l : List Sh) (p : Pee) : Bool := dropsOk l && (peeOk l p && (stepP l p).isSome)
def stpR (l : List Sh) (p : Pee) : Pee := if stpOk l p = true then (stepP l p).getD ([], [], 0) else ([], [], 0)
def pee0 (b : Nat) : Pee := (List.replicate b [], List.replicate b false, 0)
def pelOk (l : List Sh) (b : Int) : Bool := dropsOk l && bcOk b
def pelR (l : List Sh) (b : Int) : Pee := if pelOk l b = true then peelN l b.toNat (pee0 b.toNat) else ([], [], 0)
theorem left_pee0 (b : Nat) : left (pee0 b) = b := by
  unfold left
  have e : (pee0 b).1.length = b := by simp [pee0]
  rw [e]
  have : (List.range b).filter (fun k => !knw (pee0 b) k) = List.range b := by
    apply List.filter_eq_self.2
    intro k hk
    have := List.mem_range.1 hk
    simp [knw, pee0, List.getD, this]
  rw [this]; simp
end G294
namespace G294
structure PeeP (n : Nat) (p : Pee) : Prop where
  b1 : 1 ≤ p.1.length
  b2 : p.1.length ≤ 12
  kl : p.2.1.length = p.1.length
  many : p.2.2 = ((List.range p.1.length).filter fun k => knw p k).length
  len : ∀ k, k < p.1.length → (p.1.getD k []).length = if knw p k then n else 0
theorem peeOk_iff {l : List Sh} {p : Pee} : peeOk l p = true ↔ PeeP (l.getD 0 (0, [])).2.length p := by
  constructor
  · intro h
    simp only [peeOk, bcOk, Bool.and_eq_true, decide_eq_true_eq, List.all_eq_true, List.mem_range] at h
    obtain ⟨h1, h2, h3, h4⟩ := h
    exact ⟨by omega, by omega, h2, h3, h4⟩
  · intro ⟨h1, h2, h3, h4, h5⟩
    simp only [peeOk, bcOk, Bool.and_eq_true, decide_eq_true_eq, List.all_eq_true, List.mem_range]
    exact ⟨by omega, h3, h4, h5⟩
theorem pdat_len (d : Sh) (p : Pee) : (pdat d p).length = d.2.length := by simp [pdat]
theorem dropsOk_len {l : List Sh} (h : dropsOk l = true) : l.length ≤ 40 ∧ (∀ d ∈ l, 0 ≤ d.1 ∧ d.1 ≤ 100000 ∧ d.2.length = (l.getD 0 (0, [])).2.length ∧ d.2.length ≤ 40) := by
  simp only [dropsOk, Bool.and_eq_true, decide_eq_true_eq, List.all_eq_true] at h
  obtain ⟨h1, h2, h3⟩ := h
  refine ⟨h1, fun d hd => ?_⟩
  have := seedOk_b (h2 d hd)
  have ht := textsOk_all.1 h3 d.2 (List.mem_map_of_mem hd)
  have e : ((l.map (·.2)).getD 0 []).length = (l.getD 0 (0, [])).2.length := by
    cases l with
    | nil => rfl
    | cons s l => rfl
  rw [e] at ht
  exact ⟨this.1, this.2, ht.1, ht.2⟩
theorem stepP_good {l : List Sh} {p q : Pee} (hl : dropsOk l = true) (hp : peeOk l p = true) (h : stepP l p = some q) : peeOk l q = true := by
  obtain ⟨d, k, hd, hk, rfl⟩ := stepP_cases h
  obtain ⟨h1, h2, h3, h4, h5⟩ := peeOk_iff.1 hp
  have hm := punk_mem (p := p) (d := d) (k := k) (by rw [hk]; exact List.mem_singleton.2 rfl)
  have hdl := (dropsOk_len hl).2 d hd
  have e : (putP p k (pdat d p)).1.length = p.1.length := by simp [putP]
  refine peeOk_iff.2 ⟨by rw [e]; exact h1, by rw [e]; exact h2, by rw [e]; simpa [putP] using h3, ?_, fun i hi => ?_⟩
  · rw [e]
    show p.2.2 + 1 = _
    have := filter_drop_one (f := fun i => knw (putP p k (pdat d p)) i) (g := fun i => knw p i) hm.1 (by show knw (putP p k (pdat d p)) k = true; rw [putP_knw (by omega), if_pos rfl]) fun i => by
      show knw p i = if i = k then false else knw (putP p k (pdat d p)) i
      rw [putP_knw (by omega)]
      by_cases hi : i = k
      · subst hi; simp [hm.2.2]
      · simp [hi]
    omega
  · rw [e] at hi
    rw [putP_knw (by omega)]
    show ((p.1.set k (pdat d p)).getD i []).length = _
    rw [getD_set _ _ _ _ _ hm.1]
    by_cases hik : i = k
    · rw [if_pos hik, if_pos hik, pdat_len, hdl.2.2.1]; simp
    · rw [if_neg hik, if_neg hik]; exact h5 i hi
theorem pee0_good (l : List Sh) {b : Nat} (h1 : 1 ≤ b) (h2 : b ≤ 12) : peeOk l (pee0 b) = true := by
  have e : (pee0 b).1.length = b := by simp [pee0]
  have hk : ∀ k, k < b → knw (pee0 b) k = false := fun k hk => by simp [knw, pee0, List.getD, hk]
  refine peeOk_iff.2 ⟨by rw [e]; exact h1, by rw [e]; exact h2, by simp [pee0], ?_, fun k hk' => ?_⟩
  · rw [e]
    have : (List.range b).filter (fun k => knw (pee0 b) k) = [] := by
      apply List.filter_eq_nil_iff.2
      intro k hk'
      have := hk k (List.mem_range.1 hk')
      simp [this]
    rw [this]; rfl
  · rw [e] at hk'
    rw [hk k hk']
    simp [pee0, List.getD, hk']
theorem stpOk_step {l : List Sh} {p q : Pee} (hl : dropsOk l = true) (hp : peeOk l p = true) (h : stepP l p = some q) : stpOk l p = true ∧ stpR l p = q := by
  have : stpOk l p = true := by simp [stpOk, hl, hp, h]
  exact ⟨this, by unfold stpR; rw [if_pos this, h]; rfl⟩
theorem stpOk_none {l : List Sh} {p : Pee} (h : stepP l p = none) : stpOk l p = false ∧ stpR l p = ([], [], 0) := by
  have : stpOk l p = false := by simp [stpOk, h]
  exact ⟨this, by unfold stpR; rw [if_neg (by rw [this]; decide)]⟩
theorem stpOk_bad {l : List Sh} {p : Pee} (h : dropsOk l = false ∨ peeOk l p = false) : stpOk l p = false ∧ stpR l p = ([], [], 0) := by
  have : stpOk l p = false := by rcases h with h | h <;> simp [stpOk, h]
  exact ⟨this, by unfold stpR; rw [if_neg (by rw [this]; decide)]⟩
end G294

/- From the readings of a law's arguments to what its walk asks: a drop, a state of peeling. -/
namespace G294
open Go Go.ChangeShapes Go.WideShapes Go.ChangeAt Go.RowKit Go.Deep Go.Joins
section
variable {H : Type} {enc : TypeId × Value → H} {P : Program} {W : World} {base : Nat} {t e q s : TypeId} {v : Value} {d : DataW H} {p : List MemPlace} {f0 f1 f2 : Field}
theorem open_drop (hs : P.underlying t = some (.struct #[f0, f1])) (hone : oneCellFields P #[f0, f1] = true) (hC : P.cellsOf t = 2) (u0 : P.underlying f0.type = some (.int .i64)) (u1 : P.underlying f1.type = some .string)
    (hv : Value.okWide P W .any base t v) (h : DataW.Trod enc P W 0 (fun _ => true) true t v d p) : ∃ (g : Int) (l : List UInt8), v = .agg #[.int .i64 g, .string (str l)] ∧ l.length ≤ maxLen := by
  obtain ⟨v0, v1, y0, y1, n, rfl, _, _, h0, h1⟩ := open_agg2 hs hone hC hv h
  obtain ⟨g, hg, _⟩ := DataW.trod_int u0 h0
  obtain ⟨s, hs, _, hsl⟩ := DataW.trod_string u1 h1
  simp only [List.cons.injEq, and_true] at hg hs
  exact ⟨g, s.data.toList, by rw [hg, hs, ← str_eq], by rw [Array.length_toList]; exact hsl⟩
theorem seen_bools1 {held : Bool} {fuel : Nat} {x : DataW H × List MemPlace} (ht : P.underlying t = some (.slice e)) (he : P.underlying e = some .bool) (hc : P.cellsOf e = 1)
    (h : DataW.trod enc P W 0 (fun _ => true) held fuel t [v] = some x) : ∃ l : List Bool, Seen W v (bls l) := by
  rcases open_bools ht he hc h with ⟨hcs, hx⟩ | ⟨a, len, cap, B, hcs, _, hl, hm, hx, hcell⟩
  · obtain rfl : v = .slice none 0 0 := by simpa using hcs
    exact ⟨[], Seen.nil W⟩
  · obtain rfl : v = .slice (some a) len cap := by simpa using hcs
    refine ⟨mkB len B, some a, cap, by simp, by simp [hl], hm, fun hn => ?_⟩
    rw [bls_length, mkB_length] at hn
    obtain ⟨b, off, spot⟩ := a
    have hspot : spot = none := by simpa [Addr.add] using World.cell?_spot (hcell 0 (by omega))
    subst hspot
    have hc' : ∀ i, i < cap → W.cell? ⟨b, off + i, none⟩ = some (.bool (B i)) := fun i hi => by
      rw [← Go.WideShapes.add_plain]; exact hcell i hi
    refine ⟨b, off, rfl, World.block_lt_of_cell? W _ (hc' 0 (by omega)), fun i u hu => ?_⟩
    have hi : i < len := by
      rcases Nat.lt_or_ge i len with h | h
      · exact h
      · rw [List.getElem?_eq_none (by simpa using h)] at hu; cases hu
    rw [hc' i (by omega), ← hu]
    simp [bls, mkB, hi]
theorem open_peel (hs : P.underlying s = some (.struct #[f0, f1, f2])) (hone : oneCellFields P #[f0, f1, f2] = true) (hC : P.cellsOf s = 3) (h0 : P.underlying f0.type = some (.slice e)) (h1 : P.underlying f1.type = some (.slice q)) (h2 : P.underlying f2.type = some (.int .i64))
    (he : P.underlying e = some .string) (hc : P.cellsOf e = 1) (hq : P.underlying q = some .bool) (hcq : P.cellsOf q = 1)
    (hv : Value.okWide P W .any base s v) (h : DataW.Trod enc P W 0 (fun _ => true) true s v d p) :
    ∃ (x u : Value) (p : Pee), v = .agg #[x, u, .int .i64 p.2.2] ∧ Seen W x (strs p.1) ∧ Seen W u (bls p.2.1) ∧ (∀ s ∈ p.1, s.length ≤ maxLen) := by
  obtain ⟨v0, v1, v2, y0, y1, y2, n, rfl, _, _, g0, g1, g2⟩ := open_agg3 hs hone hC hv h
  obtain ⟨l, hl, ml⟩ := seen_strs1 h0 he hc g0
  obtain ⟨m, hm⟩ := seen_bools1 h1 hq hcq g1
  obtain ⟨g, hg, _⟩ := DataW.trod_int h2 g2
  simp only [List.cons.injEq, and_true] at hg
  exact ⟨v0, v1, (l, m, g), by rw [hg], hl, hm, ml⟩
end
end G294
