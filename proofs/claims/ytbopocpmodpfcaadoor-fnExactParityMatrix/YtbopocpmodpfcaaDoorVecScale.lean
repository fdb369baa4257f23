/- Contracts of ScaleVector, the program's and the model's. -/
import Derived.Test.YtbopocpmodpfcaaDoorFieldBytes
import Derived.Test.YtbopocpmodpfcaaDoorBytesOwn
import Derived.Test.YtbopocpmodpfcaaDoorVecPair
set_option linter.unusedSimpArgs false
set_option linter.unusedVariables false
namespace Go.Proofs.YtbopocpmodpfcaaDoor
open Go.RowKit G294

set_option maxHeartbeats 400000 in
theorem l1Scale_any (a : UInt8) (v : Value) (l : List UInt8) (w : World) (hv : Seen w v (bys l)) (hn : l.length ≤ 1048576) :
    Calls Tryd.prog 123 #[.int .u8 (a.toNat : Int), v] w (Made w 5 (bys (scaleL a l))) := by
  obtain ⟨A, c, rfl, hlc, hcm, hx⟩ := hv
  rw [bys_length] at hlc hx
  simp only [bys_length]
  unfold maxLen at hcm
  generalize hnn : l.length = n at *
  have HN := Lib.hid hnn
  clear hnn
  go_enter Tryd.func123, Tryd.ntmps123
  go_wp2_with fail
  go_loopw [5, 10] (fun o i wr => ∃ k : Nat, k ≤ n ∧ i = .int .i64 k ∧ wr.ownsRow w.heap.size 5 1 o k (bys ((scaleL a l).take k)) ∧ Below w.heap.size w wr)
    (fun _ i _ => n - (intOf i).toNat)
  case atStart => exact ⟨0, Nat.zero_le _, rfl, World.ownsRow_nil _ _ _ _, Below.refl _ _⟩
  case round =>
    obtain ⟨k, hk, rfl, hown, hb⟩ := hrel
    by_cases hlt : k < n
    · obtain ⟨b, off, rfl, hbl, hcell⟩ := hx (by omega)
      have hkl : k < l.length := by rw [HN.out]; exact hlt
      have hcx : wr.cell? ⟨b, off + k, none⟩ = some (.int .u8 ((l[k]).toNat : Int)) := (hb.cell (p := ⟨b, off + k, none⟩) hbl).trans (hcell k _ (bys_get l k hkl))
      clear hcell hx
      have hki : (k : Int) < (n : Int) := by omega
      go_wp2_with fail
      refine (l1Times_u8 a l[k] _).mono ?_
      rintro e w' ⟨rfl, rfl⟩
      go_wp2_with (at_builtin; refine wpList_append1 rfl _ _ _ rfl w.heap.size 5 _ _ Tryd.underlying22 infoByte rfl _ k _ rfl (hown.alloc _) wr.heap.size (.int .u8 ((gmul a l[k]).toNat : Int)) rfl ?c1 rfl ?c2 ?c3 ?c4 ?_)
      case c1 => simp
      case c2 => omega
      case c3 => omega
      case c4 => have := hb.size; simp; omega
      intro v' w' hown' hg' _
      have hb' : Below w.heap.size w w' := below_append (hb.alloc hb.size _) (hown.alloc _) hg' (Nat.le_refl _) (by have := hb.size; simp; omega)
      have hown2 : w'.ownsRow w.heap.size 5 1 v' (k + 1) (bys ((scaleL a l).take (k + 1))) := by
        have e : (scaleL a l).take (k + 1) = (scaleL a l).take k ++ [gmul a l[k]] := by
          rw [List.take_succ_eq_append_getElem (by simp [scaleL, hkl])]; simp [scaleL]
        rw [e, bys_append]; exact hown'
      clear hown' hg'
      go_wp2_with fail
      go_roundw
      case rel => exact ⟨k + 1, by omega, by go_num, hown2, hb'⟩
      case measure => simp [intOf]; omega
    · obtain rfl : k = n := by omega
      have hki : ¬ (k : Int) < (k : Int) := by omega
      go_wp2_with fail
      go_ret
      refine ⟨_, rfl, ?_, hb⟩
      rw [List.take_of_length_le (by simp [scaleL, HN.out])] at hown
      simpa [HN.out, scaleL] using hown

theorem scaleR_len (a : UInt8) (l : List UInt8) : (scaleR a l).length ≤ 80 := by
  unfold scaleR; split
  · simpa [scaleL]
  · simp

end Go.Proofs.YtbopocpmodpfcaaDoor
