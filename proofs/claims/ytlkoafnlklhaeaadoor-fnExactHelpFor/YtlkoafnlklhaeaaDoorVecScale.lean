/- Contracts of ScaleVector, the program's and the model's. -/
import Derived.Test.YtlkoafnlklhaeaaDoorFieldBytes
import Derived.Test.YtlkoafnlklhaeaaDoorBytesOwn
import Derived.Test.YtlkoafnlklhaeaaDoorVecPair
set_option linter.unusedSimpArgs false
set_option linter.unusedVariables false
namespace Go.Proofs.YtlkoafnlklhaeaaDoor
open Go.RowKit G294

set_option maxHeartbeats 400000 in
theorem l1Scale_any (a : UInt8) (v : Value) (l : List UInt8) (w : World) (hv : Seen w v (bys l)) (hn : l.length ≤ 1048576) :
    Calls Tryd.prog 92 #[.int .u8 (a.toNat : Int), v] w (Made w 5 (bys (scaleL a l))) := by
  obtain ⟨A, c, rfl, hlc, hcm, hx⟩ := hv
  rw [bys_length] at hlc hx
  simp only [bys_length]
  unfold maxLen at hcm
  generalize hnn : l.length = n at *
  have HN := Lib.hid hnn
  clear hnn
  go_enter Tryd.func92, Tryd.ntmps92
  go_wp2_with fail
  go_loopw [5, 10] (fun o i wr => ∃ k : Nat, k ≤ n ∧ i = .int .i64 k ∧ wr.ownsRow w.heap.size 5 1 o k (bys ((scaleL a l).take k)) ∧ Below w.heap.size w wr)
    (fun _ i _ => n - (intOf i).toNat)
  case atStart => exact ⟨0, Nat.zero_le _, rfl, World.ownsRow_nil _ _ _ _, Below.refl _ _⟩
  case round =>
    obtain ⟨k, hk, rfl, hown, hb⟩ := hrel
    by_cases hlt : k < n
    · obtain ⟨b, off, rfl, hbl, hcell⟩ := hx (by omega)
      have hkl : k < l.length := by rw [HN.out]; exact hlt
      have hcx : wr.cell? ⟨b, off + k, none⟩ = some (.int .u8 ((l[k]).toNat : Int)) := (hb.cell (p := ⟨b, off + k, none⟩) hbl).trans (hcell k _ (bys_get l k hkl))
      clear hcell hx
      have hki : (k : Int) < (n : Int) := by omega
      go_wp2_with fail
      refine (l1Times_u8 a l[k] _).mono ?_
      rintro e w' ⟨rfl, rfl⟩
      go_wp2_with (at_builtin; refine wpList_append1 rfl _ _ _ rfl w.heap.size 5 _ _ Tryd.underlying24 infoByte rfl _ k _ rfl (hown.alloc _) wr.heap.size (.int .u8 ((gmul a l[k]).toNat : Int)) rfl ?c1 rfl ?c2 ?c3 ?c4 ?_)
      case c1 => simp
      case c2 => omega
      case c3 => omega
      case c4 => have := hb.size; simp; omega
      intro v' w' hown' hg' _
      have hb' : Below w.heap.size w w' := below_append (hb.alloc hb.size _) (hown.alloc _) hg' (Nat.le_refl _) (by have := hb.size; simp; omega)
      have hown2 : w'.ownsRow w.heap.size 5 1 v' (k + 1) (bys ((scaleL a l).take (k + 1))) := by
        have e : (scaleL a l).take (k + 1) = (scaleL a l).take k ++ [gmul a l[k]] := by
          rw [List.take_succ_eq_append_getElem (by simp [scaleL, hkl])]; simp [scaleL]
        rw [e, bys_append]; exact hown'
      clear hown' hg'
      go_wp2_with fail
      go_roundw
      case rel => exact ⟨k + 1, by omega, by go_num, hown2, hb'⟩
      case measure => simp [intOf]; omega
    · obtain rfl : k = n := by omega
      have hki : ¬ (k : Int) < (k : Int) := by omega
      go_wp2_with fail
      go_ret
      refine ⟨_, rfl, ?_, hb⟩
      rw [List.take_of_length_le (by simp [scaleL, HN.out])] at hown
      simpa [HN.out, scaleL] using hown

set_option maxHeartbeats 400000 in
theorem scale_any (a : UInt8) (v : Value) (l : List UInt8) (w : World) (hv : Seen w v (bys l)) (ht : Tab w) (h0 : 1 < w.heap.size) :
    Calls Tryd.prog 99 #[.int .u8 (a.toNat : Int), v] w (MadeOk w 5 (bys (scaleR a l)) (scaleOk l)) := by
  have hv0 := hv
  obtain ⟨A, c, rfl, hlc, hcm, hx⟩ := hv
  rw [bys_length] at hlc hv0 hx
  simp only [bys_length]
  unfold maxLen at hcm
  obtain ⟨i0, hi0, hz0, hz1, hz2⟩ := info_parts infoByte
  by_cases hle : l.length ≤ 80
  · have HR : Hid (scaleR a l = scaleL a l) := if_pos hle
    have HO : Hid (scaleOk l = true) := by show scaleOk l = true; simpa [scaleOk] using hle
    generalize hnn : l.length = n at *
    have HN := Lib.hid hnn
    clear hnn
    go_enter Tryd.func99, Tryd.ntmps99
    go_wp2_with fail
    refine (goodVector_any _ l _ hv0).mono ?_
    rintro e w' ⟨rfl, rfl⟩
    rw [HO.out]
    go_wp2_with (at_make; refine wpList_make_full _ rfl _ _ _ rfl w.heap.size _ i0 _ 1 Tryd.underlying24 hi0 hz0 hz1 _ _ _ _ n rfl rfl rfl rfl ?b2 ?b3 ?b4 ?_)
    case b2 => rw [hz2]; omega
    case b3 => unfold maxLen; omega
    case b4 => exact Nat.le_refl _
    intro w1 hown1 hg1
    have hb1 : Below w.heap.size w w1 := below_of_grown hg1 (Nat.le_refl _) (by simp)
    rw [toList_madeCells_one] at hown1
    clear hg1
    go_wp2_with fail
    go_loopw [17] (fun i wr => ∃ k : Nat, k ≤ n ∧ i = .int .i64 k ∧ wr.ownsRow w.heap.size 5 1 (.slice (some ⟨w.heap.size, 0, none⟩) n n) n ((bys (scaleL a l)).take k ++ List.replicate (n - k) (.int .u8 0)) ∧ Below w.heap.size w wr)
      (fun i _ => n - (intOf i).toNat)
    case atStart => exact ⟨0, Nat.zero_le _, rfl, by simpa using hown1, hb1⟩
    case round =>
      obtain ⟨k, hk, rfl, hown, hb⟩ := hrel
      clear hown1 hb1
      by_cases hlt : k < n
      · obtain ⟨b, off, rfl, hbl, hcell⟩ := hx (by omega)
        have hkl : k < l.length := by rw [HN.out]; exact hlt
        have hks : k < (scaleL a l).length := by simp [scaleL, hkl]
        have hsl : (scaleL a l).length = n := by simp [scaleL, HN.out]
        have hse : (scaleL a l)[k] = gmul a l[k] := by simp [scaleL]
        have HS := Lib.hid hse
        have HSL := Lib.hid hsl
        clear hsl hse
        have hcx : wr.cell? ⟨b, off + k, none⟩ = some (.int .u8 ((l[k]).toNat : Int)) := (hb.cell (p := ⟨b, off + k, none⟩) hbl).trans (hcell k _ (bys_get l k hkl))
        have hco : wr.cell? ⟨w.heap.size, k, none⟩ = some (.int .u8 0) := by
          have htk : ((bys (scaleL a l)).take k).length = k := by simp [HSL.out]; omega
          rw [hown.cellAt k (by omega), List.getElem?_append_right (by omega), htk, Nat.sub_self, List.getElem?_replicate, if_pos (by omega)]
        have hfr := hown.frozenAt k
        have hst := (hown.stored k (.int .u8 ((gmul a l[k]).toNat : Int))).1
        rw [take_set_next (bys (scaleL a l)) _ k _ (by rw [bys_get _ k hks, HS.out]) (by simp [HSL.out]; omega)] at hst
        have htr : Tab wr := ht.below hb h0
        clear hcell hx
        have hki : (k : Int) < (n : Int) := by omega
        go_wp2_with fail
        refine (times_u8 a l[k] _ htr).mono ?_
        rintro e w' ⟨rfl, rfl⟩
        go_wp2_with fail
        go_roundw
        case rel => exact ⟨k + 1, by omega, by go_num, by simpa [Nat.sub_sub] using hst, hb.setCell (Nat.le_refl _) _⟩
        case measure => simp [intOf]; omega
      · obtain rfl : k = n := by omega
        have hki : ¬ (k : Int) < (k : Int) := by omega
        go_wp2_with fail
        go_ret2
        refine ⟨_, by rw [HO.out]; rfl, ?_, hb⟩
        rw [List.take_of_length_le (by simp [scaleL, HN.out]), Nat.sub_self] at hown
        rw [HR.out]
        simpa [HN.out, scaleL] using hown
  · have HR : Hid (scaleR a l = []) := if_neg hle
    have HO : Hid (scaleOk l = false) := by show scaleOk l = false; simpa [scaleOk] using hle
    generalize l.length = n at *
    go_enter Tryd.func99, Tryd.ntmps99
    go_wp2_with fail
    refine (goodVector_any _ l _ hv0).mono ?_
    rintro e w' ⟨rfl, rfl⟩
    rw [HO.out]
    go_wp2_with fail
    go_ret2
    exact ⟨.slice none 0 0, by rw [HO.out]; rfl, by rw [HR.out]; exact World.ownsRow_nil _ _ _ _, Below.refl _ _⟩

theorem scaleR_len (a : UInt8) (l : List UInt8) : (scaleR a l).length ≤ 80 := by
  unfold scaleR; split
  · simpa [scaleL]
  · simp

theorem scale_own (a : UInt8) (v : Value) (l : List UInt8) (w : World) (hv : Seen w v (bys l)) (ht : Tab w) (h0 : 1 < w.heap.size) :
    Calls Tryd.prog 99 #[.int .u8 (a.toNat : Int), v] w (RetBytesOk 5 w (scaleR a l) (scaleOk l)) := (scale_any a v l w hv ht h0).mono fun _ _ h => retBytesOk_of h

end Go.Proofs.YtlkoafnlklhaeaaDoor
