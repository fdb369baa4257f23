/- Contracts of the laws' own helpers: sameBytes, numberOf. -/
import Derived.Test.YtlhipceepoenfaaProg
import Derived.Laws.BytesArg
import Derived.Test.YtlhipceepoenfaaOwn
set_option linter.unusedSimpArgs false
set_option linter.unusedVariables false
namespace G294
open Go Go.RowKit
/-- bytes as a string's bytes -/
def str (l : List UInt8) : ByteArray := ⟨l.toArray⟩
theorem run_string_seen {P : Program} {w : World} {v : Value} {l : List UInt8} (src e dst : TypeId) (hs : P.underlying src = some (.slice e)) (he : P.underlying e = some (.int .u8)) (hd : P.underlying dst = some .string)
    (hv : Seen w v (bys l)) : (convert src dst v).run P w = .ok (.string (str l)) w := by
  obtain ⟨A, c, rfl, hlc, hcm, hx⟩ := hv
  rw [bys_length] at hx ⊢
  cases hl : l with
  | nil =>
    simp only [List.length_nil]
    cases A with
    | none => exact run_convert_bytes_nil w src e hs he 0 c dst hd
    | some a =>
      rw [run_convert_bytes_string w src dst e _ 0 c hs he hd, run_bytesToString w a 0 c [] (by simp [loadCells, loadCellsFrom])]
      rfl
  | cons x r =>
    rw [← hl]
    obtain ⟨b, off, rfl, hb, hc⟩ := hx (by rw [hl]; simp)
    have h := run_convert_bytes_arg (P := P) w src e hs he b off l.length c (l.map fun x => (x.toNat : Int)) (by simp) (fun i hi => by
      rw [hc i _ (bys_get l i hi)]; simp [List.getD, hi]) dst hd
    rw [h]
    congr 2
    simp [strOfNums, str]
    apply List.ext_getElem
    · simp
    · intro i h1 h2
      simp
theorem str_toList (l : List UInt8) : (str l).toList = l := ByteArray.toList_mk l
end G294
namespace Go.Proofs.Ytlhipceepoenfaa
open Go.RowKit G294

set_option maxHeartbeats 400000 in
theorem numberOf_any (v : Value) (l : List UInt8) (w : World) (hv : Seen w v (bys l)) :
    Calls Try.prog 41 #[v] w fun e w' => ∃ n : Nat, n < 1000003 ∧ e = .returned (.int .i64 n) ∧ w = w' := by
  obtain ⟨A, c, rfl, hlc, hcm, hx⟩ := hv
  rw [bys_length] at hlc hx
  simp only [bys_length]
  unfold maxLen at hcm
  generalize hnn : l.length = n at *
  have HN := Lib.hid hnn
  clear hnn
  go_enter Try.func41, Try.ntmps41
  go_wp2_with fail
  go_loop [3, 8] (fun o i => ∃ k q : Nat, k ≤ n ∧ q < 1000003 ∧ i = .int .i64 k ∧ o = .int .i64 q) (fun _ i => n - (intOf i).toNat)
  case atStart => exact ⟨0, 0, Nat.zero_le _, by omega, rfl, rfl⟩
  case round =>
    obtain ⟨k, q, hk, hq, rfl, rfl⟩ := hrel
    by_cases hlt : k < n
    · obtain ⟨b, off, rfl, hbl, hcell⟩ := hx (by omega)
      have hkl : k < l.length := by rw [HN.out]; exact hlt
      have hcx := hcell k _ (bys_get l k hkl)
      have hub := l[k].toNat_lt
      generalize l[k].toNat = x at *
      clear hcell hx
      have hki : (k : Int) < (n : Int) := by omega
      have hxi : (x : Int) < 256 := by omega
      go_wp2_with fail
      go_round
      case rel => exact ⟨k + 1, (31 * q + x) % 1000003, by omega, by omega, by go_num, by go_num⟩
      case measure => simp [intOf]; omega
    · obtain rfl : k = n := by omega
      have hki : ¬ (k : Int) < (k : Int) := by omega
      go_wp2_with fail
      go_ret
      exact ⟨q, hq, rfl, rfl⟩

end Go.Proofs.Ytlhipceepoenfaa
