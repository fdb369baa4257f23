/- parityRow, the program's: the row of a group's parity. -/
import Derived.Test.YtlkoafnlklhaeaaDoorHelpers4
import Derived.Test.YtlkoafnlklhaeaaDoorBytesOwn
import Derived.Test.YtlkoafnlklhaeaaDoorMatMath
set_option linter.unusedSimpArgs false
set_option linter.unusedVariables false
namespace G294
open Go Go.RowKit
/-- ones where a list has the place's number -/
def parF (l : List Int) (j : Nat) : UInt8 := if (j : Int) ∈ l then 1 else 0
theorem parF_next (l : List Int) (k : Nat) (hk : k < l.length) (c : Nat) : mkRow c (parF (l.take (k + 1))) = mkRow c (fun j => if (j : Int) = l[k] then 1 else parF (l.take k) j) := by
  refine mkRow_congr fun j hj => ?_
  have hmem : (j : Int) ∈ l.take (k + 1) ↔ (j : Int) ∈ l.take k ∨ (j : Int) = l[k] := by rw [List.take_succ_eq_append_getElem hk, List.mem_append, List.mem_singleton]
  unfold parF
  by_cases h : (j : Int) = l[k]
  · rw [if_pos h, if_pos (hmem.2 (.inr h))]
  · rw [if_neg h]
    by_cases h2 : (j : Int) ∈ l.take k
    · rw [if_pos h2, if_pos (hmem.2 (.inl h2))]
    · rw [if_neg h2, if_neg (fun h3 => (hmem.1 h3).elim h2 h)]
theorem bys_set1 (l : List UInt8) (k : Nat) (x : UInt8) : (bys l).set k (.int .u8 (x.toNat : Int)) = bys (l.set k x) := by simp [bys, List.map_set]
end G294
namespace Go.Proofs.YtlkoafnlklhaeaaDoor
open Go.RowKit G294

set_option maxRecDepth 100000 in
set_option maxHeartbeats 1000000 in
theorem parityRow_own (v : Value) (l : List Int) (c : Nat) (w : World) (hv : Seen w v (ints l)) (hpos : ∀ x ∈ l, 0 ≤ x) (hc : 1 ≤ c ∧ c ≤ 1000) : Calls Tryd.prog 108 #[v, .int .i64 c] w (RetBytes 5 w (mkRow c (parF l))) := by
  obtain ⟨i0, hi0, hz0, hz1, hz2⟩ := info_parts infoByte
  obtain ⟨A, cp, rfl, hlc, hcm, hx⟩ := hv
  rw [ints_length] at hlc hx
  simp only [ints_length]
  unfold maxLen at hcm
  generalize hnn : l.length = n at *
  have HN := Lib.hid hnn
  have HX := Lib.hid hx
  have HP := Lib.hid hpos
  clear hnn hx hpos
  obtain ⟨hc1, hc2⟩ := hc
  generalize hrow : mkRow c (parF l) = row
  have HROW := Lib.hid hrow
  clear hrow
  go_enter Tryd.func108, Tryd.ntmps108
  go_wp2_with (at_make; refine wpList_make_full _ rfl _ _ _ rfl w.heap.size _ i0 _ 1 Tryd.underlying24 hi0 hz0 hz1 _ _ _ _ c rfl rfl rfl rfl ?b2 ?b3 ?b4 ?_)
  case b2 => rw [hz2]; omega
  case b3 => unfold maxLen; omega
  case b4 => exact Nat.le_refl _
  intro w1 hown1 hg1
  have hb1 : Below w.heap.size w w1 := below_of_grown hg1 (Nat.le_refl _) (by simp)
  rw [toList_madeCells_one] at hown1
  have HO1 : Hid (w1.ownsRow w.heap.size 5 1 (.slice (some ⟨w.heap.size, 0, none⟩) c c) c (bys (mkRow c (parF (l.take 0))))) := by
    have e1 : bys (mkRow c (parF (l.take 0))) = List.replicate c (.int .u8 0) := by
      refine List.ext_getElem (by simp [bys]) fun i h1 h2 => ?_
      simp [bys, mkRow, parF]
    show w1.ownsRow _ _ _ _ _ _
    rw [e1]; exact hown1
  clear hg1 hown1
  go_wp2_with fail
  go_loopw [12] (fun i wr => ∃ k : Nat, k ≤ n ∧ i = .int .i64 k ∧ wr.ownsRow w.heap.size 5 1 (.slice (some ⟨w.heap.size, 0, none⟩) c c) c (bys (mkRow c (parF (l.take k)))) ∧ Below w.heap.size w wr)
    (fun i _ => n - (intOf i).toNat)
  case atStart => exact ⟨0, Nat.zero_le _, rfl, HO1.out, hb1⟩
  case round =>
    obtain ⟨k, hk, rfl, hown, hb⟩ := hrel
    clear hb1
    by_cases hlt : k < n
    · have hki : (k : Int) < (n : Int) := by omega
      have hkl : k < l.length := by rw [HN.out]; exact hlt
      obtain ⟨b, off, rfl, hbl, hcell⟩ := HX.out (by omega)
      have hcx := (hb.cell (p := ⟨b, off + k, none⟩) hbl).trans (hcell k _ (ints_get l k hkl))
      have HNX := Lib.hid (parF_next l k hkl c)
      have hp0 : 0 ≤ l[k] := HP.out _ (List.getElem_mem hkl)
      obtain ⟨m, hm⟩ := Int.eq_ofNat_of_zero_le hp0
      rw [hm] at hcx HNX
      clear hcell hm hp0
      by_cases hmc : m < c
      · have hmi : (m : Int) < (c : Int) := by omega
        have hmd : decide ((m : Int) < (c : Int)) = true := by simpa using hmi
        obtain ⟨old, hold⟩ : ∃ y, (bys (mkRow c (parF (l.take k))))[m]? = some y := ⟨_, List.getElem?_eq_getElem (by simp [bys]; exact hmc)⟩
        have hco : wr.cell? ⟨w.heap.size, m, none⟩ = some old := by rw [hown.cellAt m (by omega)]; exact hold
        have hfr := hown.frozenAt m
        have hst := (hown.stored m (.int .u8 ((1 : UInt8).toNat : Int))).1
        rw [bys_set1, mkRow_set] at hst
        have HST : Hid ((wr.setCell ⟨w.heap.size, m, none⟩ (.int .u8 1)).ownsRow w.heap.size 5 1 (.slice (some ⟨w.heap.size, 0, none⟩) c c) c (bys (mkRow c (parF (l.take (k + 1)))))) := by
          show World.ownsRow _ _ _ _ _ _ _
          rw [HNX.out]
          have e2 : mkRow c (fun j => if (j : Int) = (m : Int) then 1 else parF (l.take k) j) = mkRow c (fun j => if j = m then 1 else parF (l.take k) j) := mkRow_congr fun j _ => by
            by_cases h : j = m
            · rw [if_pos (by omega), if_pos h]
            · rw [if_neg (by omega), if_neg h]
          rw [e2]; exact hst
        clear hst hold
        go_wp2_with fail
        go_roundw
        case rel => exact ⟨k + 1, by omega, by go_num, HST.out, hb.setCell (Nat.le_refl _) _⟩
        case measure => simp [intOf]; omega
      · have hmi : ¬ (m : Int) < (c : Int) := by omega
        have hmd : decide ((m : Int) < (c : Int)) = false := by simpa using hmi
        have HST : Hid (wr.ownsRow w.heap.size 5 1 (.slice (some ⟨w.heap.size, 0, none⟩) c c) c (bys (mkRow c (parF (l.take (k + 1)))))) := by
          show World.ownsRow _ _ _ _ _ _ _
          rw [HNX.out]
          have e2 : mkRow c (fun j => if (j : Int) = (m : Int) then 1 else parF (l.take k) j) = mkRow c (parF (l.take k)) := mkRow_congr fun j hj => by
            rw [if_neg (by omega)]
          rw [e2]; exact hown
        go_wp2_with fail
        go_roundw
        case rel => exact ⟨k + 1, by omega, by go_num, HST.out, hb⟩
        case measure => simp [intOf]; omega
    · obtain rfl : k = n := by omega
      have hki : ¬ (k : Int) < (k : Int) := by omega
      go_wp2_with fail
      go_ret
      refine ⟨_, rfl, OwnBytes.of_made ?_, TurnIn.of_below hb⟩
      rw [List.take_of_length_le (by rw [HN.out]; exact Nat.le_refl _), HROW.out] at hown
      have e3 : row.length = c := by rw [← HROW.out]; simp
      rw [e3]; exact hown

end Go.Proofs.YtlkoafnlklhaeaaDoor
