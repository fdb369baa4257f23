/- Contracts of the laws' own helpers: sameBytes, numberOf. -/
import Derived.Test.YtlhipceepoenfaaDoorProg
import Derived.Laws.BytesArg
import Derived.Test.YtlhipceepoenfaaDoorOwn
set_option linter.unusedSimpArgs false
set_option linter.unusedVariables false
namespace G294
open Go Go.RowKit
/-- bytes as a string's bytes -/
def str (l : List UInt8) : ByteArray := ⟨l.toArray⟩
theorem run_string_seen {P : Program} {w : World} {v : Value} {l : List UInt8} (src e dst : TypeId) (hs : P.underlying src = some (.slice e)) (he : P.underlying e = some (.int .u8)) (hd : P.underlying dst = some .string)
    (hv : Seen w v (bys l)) : (convert src dst v).run P w = .ok (.string (str l)) w := by
  obtain ⟨A, c, rfl, hlc, hcm, hx⟩ := hv
  rw [bys_length] at hx ⊢
  cases hl : l with
  | nil =>
    simp only [List.length_nil]
    cases A with
    | none => exact run_convert_bytes_nil w src e hs he 0 c dst hd
    | some a =>
      rw [run_convert_bytes_string w src dst e _ 0 c hs he hd, run_bytesToString w a 0 c [] (by simp [loadCells, loadCellsFrom])]
      rfl
  | cons x r =>
    rw [← hl]
    obtain ⟨b, off, rfl, hb, hc⟩ := hx (by rw [hl]; simp)
    have h := run_convert_bytes_arg (P := P) w src e hs he b off l.length c (l.map fun x => (x.toNat : Int)) (by simp) (fun i hi => by
      rw [hc i _ (bys_get l i hi)]; simp [List.getD, hi]) dst hd
    rw [h]
    congr 2
    simp [strOfNums, str]
    apply List.ext_getElem
    · simp
    · intro i h1 h2
      simp
theorem str_toList (l : List UInt8) : (str l).toList = l := ByteArray.toList_mk l
end G294
namespace Go.Proofs.YtlhipceepoenfaaDoor
open Go.RowKit G294

end Go.Proofs.YtlhipceepoenfaaDoor
