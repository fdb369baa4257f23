/- Contracts of DotVectors, the program's and the model's. -/
import Derived.Test.YtlkoafnlklhaeaaDoorFieldBytes
import Derived.Test.YtlkoafnlklhaeaaDoorBytesOwn
import Derived.Test.YtlkoafnlklhaeaaDoorVecPair
set_option linter.unusedSimpArgs false
set_option linter.unusedVariables false
namespace Go.Proofs.YtlkoafnlklhaeaaDoor
open Go.RowKit G294

set_option maxHeartbeats 1000000 in
theorem l1Dot_own (v u : Value) (l m : List UInt8) (w : World) (hv : Seen w v (bys l)) (hu : Seen w u (bys m)) (hlen : l.length = m.length) :
    Calls Tryd.prog 76 #[v, u] w (RetByte w (dotL l m)) := by
  obtain ⟨A, c, rfl, hlc, hcm, hx⟩ := hv
  obtain ⟨A', c', rfl, hlc', hcm', hx'⟩ := hu
  rw [bys_length] at hlc hx hlc' hx'
  simp only [bys_length]
  unfold maxLen at hcm hcm'
  have HD : Hid (dotL l m = dotK l m l.length) := rfl
  generalize hnn : l.length = n at *
  generalize hmm : m.length = n' at *
  obtain rfl : n = n' := by omega
  have HN := Lib.hid hnn
  have HM := Lib.hid hmm
  clear hnn hmm
  go_enter Tryd.func76, Tryd.ntmps76
  go_wp2_with fail
  go_loopw [5, 9] (fun o i wr => ∃ k : Nat, k ≤ n ∧ i = .int .i64 k ∧ o = .int .u8 ((dotK l m k).toNat : Int) ∧ Below w.heap.size w wr)
    (fun _ i _ => n - (intOf i).toNat)
  case atStart => exact ⟨0, Nat.zero_le _, rfl, rfl, Below.refl _ _⟩
  case round =>
    obtain ⟨k, hk, rfl, rfl, hb⟩ := hrel
    by_cases hlt : k < n
    · obtain ⟨b, off, rfl, hbl, hcell⟩ := hx (by omega)
      obtain ⟨b', off', rfl, hbl', hcell'⟩ := hx' (by omega)
      have hkl : k < l.length := by rw [HN.out]; exact hlt
      have hkm : k < m.length := by rw [HM.out]; exact hlt
      have hcx : wr.cell? ⟨b, off + k, none⟩ = some (.int .u8 ((l[k]).toNat : Int)) := (hb.cell (p := ⟨b, off + k, none⟩) hbl).trans (hcell k _ (bys_get l k hkl))
      have hcy : wr.cell? ⟨b', off' + k, none⟩ = some (.int .u8 ((m[k]).toNat : Int)) := (hb.cell (p := ⟨b', off' + k, none⟩) hbl').trans (hcell' k _ (bys_get m k hkm))
      have HX := Lib.hid (xor_u8 (dotK l m k) (gmul l[k] m[k]))
      have HS := Lib.hid (dotK_succ l m k hkl hkm)
      clear hcell hcell' hx hx'
      have hki : (k : Int) < (n : Int) := by omega
      go_wp2_with fail
      go_quiet ((go_at_call 141; exact quietly (l1Times_u8 _ _ _)))
      go_wp2_with fail
      go_roundw
      case rel => exact ⟨k + 1, by omega, by go_num, by rw [HX.out, HS.out], below_drewN hb _⟩
      case measure => simp [intOf]; omega
    · obtain rfl : k = n := by omega
      have hki : ¬ (k : Int) < (k : Int) := by omega
      go_wp2_with fail
      go_ret
      exact ⟨by rw [HD.out]; rfl, TurnIn.of_below hb⟩

set_option maxHeartbeats 1000000 in
theorem dot_own (v u : Value) (l m : List UInt8) (w : World) (hv : Seen w v (bys l)) (hu : Seen w u (bys m)) (ht : Tab w) :
    Calls Tryd.prog 79 #[v, u] w (RetByteOk w (dotR l m) (pairOk l m)) := by
  have hv0 := hv
  have hu0 := hu
  obtain ⟨A, c, rfl, hlc, hcm, hx⟩ := hv
  obtain ⟨A', c', rfl, hlc', hcm', hx'⟩ := hu
  rw [bys_length] at hlc hlc' hv0 hu0 hx hx'
  simp only [bys_length]
  unfold maxLen at hcm hcm'
  by_cases hp : l.length ≤ 80 ∧ l.length = m.length
  · have HR : Hid (dotR l m = dotK l m l.length) := if_pos hp
    have HO : Hid (pairOk l m = true) := by show pairOk l m = true; simpa [pairOk] using hp
    obtain ⟨hle, heq⟩ := hp
    generalize hnn : l.length = n at *
    generalize hmm : m.length = n' at *
    obtain rfl : n = n' := by omega
    have HN := Lib.hid hnn
    have HM := Lib.hid hmm
    clear hnn hmm
    go_enter Tryd.func79, Tryd.ntmps79
    go_wp2_with fail
    refine (goodPair_any _ _ l m _ hv0 hu0).mono ?_
    rintro e w' ⟨rfl, rfl⟩
    rw [HO.out]
    go_wp2_with fail
    go_loop [6, 15] (fun o i => ∃ k : Nat, k ≤ n ∧ i = .int .i64 k ∧ o = .int .u8 ((dotK l m k).toNat : Int)) (fun _ i => n - (intOf i).toNat)
    case atStart => exact ⟨0, Nat.zero_le _, rfl, rfl⟩
    case round =>
      obtain ⟨k, hk, rfl, rfl⟩ := hrel
      by_cases hlt : k < n
      · obtain ⟨b, off, rfl, hbl, hcell⟩ := hx (by omega)
        obtain ⟨b', off', rfl, hbl', hcell'⟩ := hx' (by omega)
        have hkl : k < l.length := by rw [HN.out]; exact hlt
        have hkm : k < m.length := by rw [HM.out]; exact hlt
        have hcx := hcell k _ (bys_get l k hkl)
        have hcy := hcell' k _ (bys_get m k hkm)
        have HX := Lib.hid (xor_u8 (dotK l m k) (gmul l[k] m[k]))
        have HS := Lib.hid (dotK_succ l m k hkl hkm)
        clear hcell hcell' hx hx'
        have hki : (k : Int) < (n : Int) := by omega
        go_wp2_with fail
        refine (times_u8 l[k] m[k] _ ht).mono ?_
        rintro e w' ⟨rfl, rfl⟩
        go_wp2_with fail
        go_round
        case rel => exact ⟨k + 1, by omega, by go_num, by rw [HX.out, HS.out]⟩
        case measure => simp [intOf]; omega
      · obtain rfl : k = n := by omega
        have hki : ¬ (k : Int) < (k : Int) := by omega
        go_wp2_with fail
        go_ret2
        exact ⟨by rw [HR.out, HO.out]; rfl, TurnIn.refl _⟩
  · have HR : Hid (dotR l m = 0) := if_neg hp
    have HO : Hid (pairOk l m = false) := by show pairOk l m = false; simpa [pairOk] using hp
    clear hp hx hx'
    generalize l.length = n at *
    generalize m.length = n' at *
    go_enter Tryd.func79, Tryd.ntmps79
    go_wp2_with fail
    refine (goodPair_any _ _ l m _ hv0 hu0).mono ?_
    rintro e w' ⟨rfl, rfl⟩
    rw [HO.out]
    go_wp2_with fail
    go_ret2
    exact ⟨by rw [HR.out, HO.out]; rfl, TurnIn.refl _⟩

end Go.Proofs.YtlkoafnlklhaeaaDoor
