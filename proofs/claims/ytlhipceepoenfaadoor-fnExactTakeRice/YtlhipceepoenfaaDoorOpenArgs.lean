/- From the readings of a law's arguments to what its walk asks: bytes, ints, slices of bytes. -/
import Derived.Test.YtlhipceepoenfaaDoorFrame
import Derived.Test.YtlhipceepoenfaaDoorMem
set_option linter.unusedSimpArgs false
set_option linter.unusedVariables false
namespace G294
open Go Go.ChangeShapes Go.WideShapes Go.ChangeAt Go.RowKit

theorem byte_of_wf {x : Int} (h : (Lit.int .u8 x).wf = true) : ∃ n : UInt8, x = (n.toNat : Int) := by
  have hb := bounds_u8 h
  refine ⟨UInt8.ofNat x.toNat, ?_⟩
  rw [UInt8.toNat_ofNat']
  omega

theorem bytes_of_wf : ∀ {zs : List Int}, (∀ z ∈ zs, (Lit.int .u8 z).wf = true) → ∃ l : List UInt8, zs.map (fun z => Value.int .u8 z) = bys l ∧ l.length = zs.length
  | [], _ => ⟨[], rfl, rfl⟩
  | z :: zs, h => by
    obtain ⟨l, hl, hn⟩ := bytes_of_wf (zs := zs) (fun y hy => h y (List.mem_cons_of_mem _ hy))
    obtain ⟨x, rfl⟩ := byte_of_wf (h z (List.mem_cons_self))
    exact ⟨x :: l, by simp [bys] at hl ⊢; exact hl, by simp [hn]⟩

section
variable {H : Type} {enc : TypeId × Value → H} {P : Program} {W : World} {base : Nat} {t e : TypeId} {v : Value} {d : DataW H} {p : List MemPlace}
/-- a slice of bytes that came in -/
theorem seen_bytes (ht : P.underlying t = some (.slice e)) (he : P.underlying e = some (.int .u8)) (hc : P.cellsOf e = 1)
    (hv : Value.okWide P W .any base t v) (h : DataW.Trod enc P W 0 (fun _ => true) true t v d p) (hlt : ∀ x ∈ p, x.block < W.heap.size) : ∃ l : List UInt8, Seen W v (bys l) := by
  obtain ⟨a0, len, cap, rfl⟩ := okWide_slice ht hv
  obtain ⟨fuel, hf⟩ := h
  rcases open_ints ht he hc hf with ⟨hcs, hx⟩ | ⟨a, len', cap', zs, hcs, _, hl, hm, hz, hx, hcell, hwz⟩
  · have e1 : a0 = none ∧ len = 0 ∧ cap = 0 := by simpa [Value.cells] using hcs
    obtain ⟨rfl, rfl, rfl⟩ := e1
    exact ⟨[], Seen.nil W⟩
  · have e1 : a0 = some a ∧ len = len' ∧ cap = cap' := by simpa [Value.cells] using hcs
    obtain ⟨rfl, rfl, rfl⟩ := e1
    have hz' : zs.length = cap := by simpa using hz
    obtain ⟨l, hbl, hll⟩ := bytes_of_wf (zs := zs.take len) (fun y hy => hwz y (List.mem_of_mem_take hy))
    have hlen : l.length = len := by rw [hll, List.length_take]; omega
    refine ⟨l, some a, cap, by simp [hlen], by simp [hlen, hl], hm, fun hn => ?_⟩
    rw [bys_length, hlen] at hn
    obtain ⟨b, off, rfl, hc'⟩ := ints_at hcell (by omega)
    have hpl : MemPlace.cell b off ∈ p := by
      have : p = MemPlace.row ⟨b, off, none⟩ zs.length := by simpa using congrArg Prod.snd hx
      rw [this, MemPlace.row]
      exact List.mem_map.2 ⟨0, by simp; omega, rfl⟩
    refine ⟨b, off, rfl, hlt _ hpl, fun i u hu => ?_⟩
    rw [← hbl] at hu
    simp only [List.getElem?_map, List.getElem?_take] at hu
    split at hu
    · rename_i hi
      rw [hc' i (by omega)]
      rw [List.getElem?_eq_getElem (by omega)] at hu
      simp only [Option.map_some, Option.some.injEq] at hu
      rw [← hu]
      simp [List.getD, show i < zs.length by omega]
    · simp at hu
end
end G294
