/- From the readings of a law's arguments to what its walk asks: slices of ints, slices of slices of bytes, a struct of one such field. -/
import Derived.Test.YtjgmegfbfjmnfaaProg
import Derived.Test.YtjgmegfbfjmnfaaOpenArgs
import Derived.Test.YtjgmegfbfjmnfaaMatMem
import Derived.Test.YtjgmegfbfjmnfaaTurns
import Derived.Deep.Matrix
set_option linter.unusedSimpArgs false
set_option linter.unusedVariables false
namespace G294
open Go Go.ChangeShapes Go.WideShapes Go.ChangeAt Go.RowKit Go.Deep

def bytesOf (zs : List Int) : List UInt8 := zs.map fun z => UInt8.ofNat z.toNat
theorem bytesOf_length (zs : List Int) : (bytesOf zs).length = zs.length := by simp [bytesOf]
theorem bys_bytesOf {zs : List Int} (h : ∀ z ∈ zs, (Lit.int .u8 z).wf = true) : bys (bytesOf zs) = zs.map fun z => Value.int .u8 z := by
  simp only [bys, bytesOf, List.map_map]
  refine List.map_congr_left fun z hz => ?_
  have hb := bounds_u8 (h z hz)
  simp only [Function.comp, UInt8.toNat_ofNat']
  congr 1
  omega

section
variable {H : Type} {enc : TypeId × Value → H} {P : Program} {W : World} {base : Nat} {t e q : TypeId} {v : Value} {d : DataW H} {p : List MemPlace}
/-- a slice of ints that came in -/
theorem seen_ints (ht : P.underlying t = some (.slice e)) (he : P.underlying e = some (.int .i64)) (hc : P.cellsOf e = 1)
    (hv : Value.okWide P W .any base t v) (h : DataW.Trod enc P W 0 (fun _ => true) true t v d p) (hlt : ∀ x ∈ p, x.block < W.heap.size) : ∃ l : List Int, Seen W v (ints l) := by
  obtain ⟨a0, len, cap, rfl⟩ := okWide_slice ht hv
  obtain ⟨fuel, hf⟩ := h
  rcases open_ints ht he hc hf with ⟨hcs, hx⟩ | ⟨a, len', cap', zs, hcs, _, hl, hm, hz, hx, hcell, hwz⟩
  · have e1 : a0 = none ∧ len = 0 ∧ cap = 0 := by simpa [Value.cells] using hcs
    obtain ⟨rfl, rfl, rfl⟩ := e1
    exact ⟨[], Seen.nil W⟩
  · have e1 : a0 = some a ∧ len = len' ∧ cap = cap' := by simpa [Value.cells] using hcs
    obtain ⟨rfl, rfl, rfl⟩ := e1
    have hz' : zs.length = cap := by simpa using hz
    have hlen : (zs.take len).length = len := by rw [List.length_take]; omega
    refine ⟨zs.take len, some a, cap, by simp [hlen, hl, hz'], by simp [hl, hz'], hm, fun hn => ?_⟩
    rw [ints_length, hlen] at hn
    obtain ⟨b, off, rfl, hc'⟩ := ints_at hcell (by omega)
    refine ⟨b, off, rfl, World.block_lt_of_cell? W _ (hc' 0 (by omega)), fun i u hu => ?_⟩
    have hi : i < (zs.take len).length := by
      have := (List.getElem?_eq_some_iff.1 hu).1
      simpa using this
    rw [ints_get _ i hi] at hu
    rw [hlen] at hi
    rw [hc' i (by omega), ← Option.some.inj hu]
    simp [List.getD, show i < zs.length by omega]

/-- the cells of a slice of slices of bytes -/
theorem seen_rows {held : Bool} {fuel : Nat} {x : DataW H × List MemPlace} (ht : P.underlying t = some (.slice e)) (he : P.underlying e = some (.slice q)) (hq : P.underlying q = some (.int .u8)) (ce : P.cellsOf e = 1) (cq : P.cellsOf q = 1)
    (h : DataW.trod enc P W 0 (fun _ => true) held fuel t [v] = some x) : ∃ L : Mat, SeenM W v L := by
  rcases open_int_rows ht he hq ce cq h with ⟨hcs, _⟩ | ⟨a, len, cap, A, L, C, Z, hcs, _, hl, hm, _, hrow⟩
  · obtain rfl : v = .slice none 0 0 := by simpa using hcs
    exact ⟨[], [], rfl, Seen.nil W, fun i u hu => by simp at hu⟩
  · obtain rfl : v = .slice (some a) len cap := by simpa using hcs
    refine ⟨(List.range len).map fun r => bytesOf ((Z r).take (L r)), (List.range len).map fun r => .slice (A r) (L r) (C r), by simp, ?_, ?_⟩
    · refine ⟨some a, cap, by simp, by simp [hl], hm, fun hn => ?_⟩
      have hn' : 0 < len := by simpa using hn
      obtain ⟨b, off, spot⟩ := a
      have hspot : spot = none := by simpa [Addr.add] using World.cell?_spot (hrow 0 (by omega)).1
      subst hspot
      have hc' : ∀ i, i < len → W.cell? ⟨b, off + i, none⟩ = some (.slice (A i) (L i) (C i)) := fun i hi => by
        rw [← Go.WideShapes.add_plain]; exact (hrow i (by omega)).1
      refine ⟨b, off, rfl, World.block_lt_of_cell? W _ (hc' 0 hn'), fun i u hu => ?_⟩
      have hi : i < len := by have := (List.getElem?_eq_some_iff.1 hu).1; simpa using this
      rw [hc' i hi]
      rw [List.getElem?_map, List.getElem?_range hi] at hu
      simpa using hu
    · intro i u hu
      have hi : i < len := by have := (List.getElem?_eq_some_iff.1 hu).1; simpa using this
      rw [List.getElem?_map, List.getElem?_range hi] at hu
      have hu' : Value.slice (A i) (L i) (C i) = u := by simpa using hu
      subst hu'
      obtain ⟨r1, r2, r3, r4, r5, r6, r7⟩ := hrow i (by omega)
      have eg : ((List.range len).map fun r => bytesOf ((Z r).take (L r))).getD i [] = bytesOf ((Z i).take (L i)) := by simp [List.getD, hi]
      have hlen : (bytesOf ((Z i).take (L i))).length = L i := by rw [bytesOf_length, List.length_take]; omega
      rw [eg]
      refine ⟨A i, C i, by rw [bys_length, hlen], by rw [bys_length, hlen]; exact r2, r3, fun hn => ?_⟩
      rw [bys_length, hlen] at hn
      obtain ⟨a', ha'⟩ : ∃ a', A i = some a' := by
        cases hA : A i with
        | none => have := r6 hA; omega
        | some a' => exact ⟨a', rfl⟩
      obtain ⟨b', off', spot'⟩ := a'
      obtain ⟨_, hcc⟩ := r7 _ ha'
      have hspot : spot' = none := by simpa [Addr.add] using World.cell?_spot (hcc 0 (by omega))
      subst hspot
      have hc' : ∀ j, j < C i → W.cell? ⟨b', off' + j, none⟩ = some (.int .u8 ((Z i).getD j 0)) := fun j hj => by
        rw [← Go.WideShapes.add_plain]; exact hcc j hj
      refine ⟨b', off', ha', World.block_lt_of_cell? W _ (hc' 0 (by omega)), fun j u hu => ?_⟩
      have hj : j < L i := by have := (List.getElem?_eq_some_iff.1 hu).1; simpa [hlen] using this
      rw [bys_bytesOf (fun z hz => r5 z (List.mem_of_mem_take hz)), List.getElem?_map, List.getElem?_take, if_pos hj, List.getElem?_eq_getElem (by omega)] at hu
      simp only [Option.map_some, Option.some.injEq] at hu
      rw [hc' j (by omega), ← hu]
      simp [List.getD, show j < (Z i).length by omega]

/-- a struct of one field, a slice of slices of bytes, that came in -/
theorem seen_mat1 {s : TypeId} {f0 : Field} (hs : P.underlying s = some (.struct #[f0])) (ho : f0.offset = 0) (hf : f0.type = t) (cs1 : P.cellsOf s = 1) (ct : P.cellsOf t = 1)
    (ht : P.underlying t = some (.slice e)) (he : P.underlying e = some (.slice q)) (hq : P.underlying q = some (.int .u8)) (ce : P.cellsOf e = 1) (cq : P.cellsOf q = 1)
    (hv : Value.okWide P W .any base s v) (h : DataW.Trod enc P W 0 (fun _ => true) true s v d p) (hlt : ∀ x ∈ p, x.block < W.heap.size) : ∃ (y : Value) (L : Mat), v = .agg #[y] ∧ SeenM W y L := by
  obtain ⟨cs, rfl, hcs⟩ := okWide_struct hs hv
  rw [cs1] at hcs
  obtain ⟨y, rfl⟩ : ∃ y, cs = #[y] := by
    match cs, hcs with
    | ⟨[y]⟩, _ => exact ⟨y, rfl⟩
  obtain ⟨fuel, hfu⟩ := h
  obtain ⟨y0, n, _, _, hy⟩ := trod_struct1 hs hfu
  rw [ho, hf, ct] at hy
  have hy' : DataW.trod enc P W 0 (fun _ => true) true n t [y] = some y0 := by simpa [Value.cells] using hy
  obtain ⟨L, hL⟩ := seen_rows ht he hq ce cq hy'
  exact ⟨y, L, rfl, hL⟩
end
end G294
namespace Go.Proofs.Ytjgmegfbfjmnfaa
open Go Go.ChangeShapes Go.WideShapes Go.ChangeAt Go.RowKit G294

end Go.Proofs.Ytjgmegfbfjmnfaa
