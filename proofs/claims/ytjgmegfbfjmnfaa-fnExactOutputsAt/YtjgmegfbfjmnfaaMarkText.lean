/- markText. -/
import Derived.Test.YtjgmegfbfjmnfaaStrMem
import Derived.Laws.Concat
set_option linter.unusedSimpArgs false
set_option linter.unusedVariables false
namespace Go.Proofs.Ytjgmegfbfjmnfaa
open Go.RowKit G294

set_option maxRecDepth 100000 in
set_option maxHeartbeats 1000000 in
theorem markText_ret (k : Nat) (w : World) (hk0 : 0 < k) (hk1 : k ≤ 1000000000000) : Calls Try.prog 65 #[.int .i64 k] w (RetStr w (mtext k)) := by
  have h0 : ¬ (k : Int) ≤ 0 := by omega
  go_enter Try.func65, Try.ntmps65
  go_wp2_with fail
  go_loopw [0, 3] (fun q o wr => ∃ (j : Nat) (acc : List UInt8), q = .int .i64 j ∧ o = .string (str acc) ∧ Hid (mdig j acc = mdig k []) ∧ acc.length + j ≤ k ∧ Below w.heap.size w wr)
    (fun q _ _ => (intOf q).toNat)
  case atStart => exact ⟨k, [], rfl, rfl, Eq.refl (mdig k []), by simp, Below.refl _ _⟩
  case round =>
    obtain ⟨j, acc, rfl, rfl, HE, hl, hb⟩ := hrel
    by_cases hj : 0 < j
    · have hji : (0 : Int) < (j : Int) := by omega
      have hsz : (str acc).size ≤ 1000000000000 := by rw [str_size]; omega
      obtain ⟨d, hd⟩ : ∃ d : UInt8, d = UInt8.ofNat (48 + j % 10) := ⟨_, rfl⟩
      have hdi : (48 + (j : Int) % 10) = (d.toNat : Int) := by
        rw [hd, UInt8.toNat_ofNat']; omega
      have hseen : Seen (wr.alloc (.cells #[.int .u8 (48 + (j : Int) % 10)] 5)) (.slice (some ⟨wr.heap.size, 0, none⟩) 1 1) (bys [d]) := by
        refine ⟨_, 1, rfl, by simp, by unfold maxLen; omega, fun _ => ⟨wr.heap.size, 0, rfl, by simp, fun i u hu => ?_⟩⟩
        match i, hu with
        | 0, hu =>
          simp only [bys, List.map_cons, List.getElem?_cons_zero, Option.some.injEq] at hu
          rw [← hu, hdi]; simp
      have hconv := run_string_seen (P := Try.prog) 22 5 9 Try.underlying22 Try.underlying5 Try.underlying9 hseen
      have hs2 : ¬ 9223372036854775807 < (str [d]).size + (str acc).size := by rw [str_size]; simp; omega
      have HD := Lib.hid hd
      have hb2 := hb.alloc (by have := hb.size; omega) (.cells #[.int .u8 (48 + (j : Int) % 10)] 5)
      clear hd hdi hseen
      go_wp2_with fail
      go_roundw
      case rel => exact ⟨j / 10, d :: acc, by go_num, by rw [str_append]; rfl, by rw [HD.out, ← mdig_pos hj]; exact HE.out, by simp; omega, hb2⟩
      case measure => simp [intOf]; omega
    · obtain rfl : j = 0 := by omega
      rw [mdig_zero] at HE
      have hsz : (str acc).size ≤ 1000000000000 := by rw [str_size]; omega
      have hs2 : ¬ 9223372036854775807 < 1 + (str acc).size := by omega
      go_wp2_with fail
      go_ret
      exact ⟨by rw [mtext, ← HE.out]; exact congrArg (fun z => Ending.returned (.string z)) (str_append [109] acc), TurnIn.of_below hb⟩

end Go.Proofs.Ytjgmegfbfjmnfaa
