/- Joined texts: VecAdd, FieldBytes, VecScale, FieldOps, Elim, Elim2. -/
import Derived.Test.YtlkoafnlklhaeaaDoorBd07
import Derived.Test.YtlkoafnlklhaeaaDoorBd06
import Derived.Deep.RegionHeld3
import Derived.Test.YtlkoafnlklhaeaaDoorBd00
import Derived.Test.YtlkoafnlklhaeaaDoorBd01
import Derived.Test.YtlkoafnlklhaeaaDoorBd03
import Derived.BigRegion
import Derived.StillTailTactics
set_option linter.unusedSimpArgs false
set_option linter.unusedVariables false
/- Contracts of AddVectors, the program's and the model's. -/
namespace G294
theorem addL_len (l m : List UInt8) (h : l.length = m.length) : (addL l m).length = l.length := by simp [addL, h]
theorem addL_get (l m : List UInt8) (k : Nat) (h1 : k < l.length) (h2 : k < m.length) (h3 : k < (addL l m).length) : (addL l m)[k] = l[k] ^^^ m[k] := by simp [addL]
theorem addR_len (l m : List UInt8) : (addR l m).length ≤ 80 := by
  unfold addR; split
  · rename_i h; rw [addL_len l m h.2]; exact h.1
  · simp
end G294
namespace Go.Proofs.YtlkoafnlklhaeaaDoor
open Go.RowKit G294

set_option maxHeartbeats 1000000 in
theorem l1Add_own (v u : Value) (l m : List UInt8) (w : World) (hv : Seen w v (bys l)) (hu : Seen w u (bys m)) (hlen : l.length = m.length) (hn : l.length ≤ 1048576) :
    Calls Tryd.prog 91 #[v, u] w (RetBytes 5 w (addL l m)) := by
  obtain ⟨A, c, rfl, hlc, hcm, hx⟩ := hv
  obtain ⟨A', c', rfl, hlc', hcm', hx'⟩ := hu
  rw [bys_length] at hlc hx hlc' hx'
  simp only [bys_length]
  unfold maxLen at hcm hcm'
  have HAL := Lib.hid (addL_len l m hlen)
  generalize hnn : l.length = n at *
  generalize hmm : m.length = n' at *
  obtain rfl : n = n' := by omega
  have HN := Lib.hid hnn
  have HM := Lib.hid hmm
  clear hnn hmm
  go_enter Tryd.func91, Tryd.ntmps91
  go_wp2_with fail
  go_loopw [5, 9] (fun o i wr => ∃ k : Nat, k ≤ n ∧ i = .int .i64 k ∧ wr.ownsRow w.heap.size 5 1 o k (bys ((addL l m).take k)) ∧ Below w.heap.size w wr)
    (fun _ i _ => n - (intOf i).toNat)
  case atStart => exact ⟨0, Nat.zero_le _, rfl, World.ownsRow_nil _ _ _ _, Below.refl _ _⟩
  case round =>
    obtain ⟨k, hk, rfl, hown, hb⟩ := hrel
    by_cases hlt : k < n
    · obtain ⟨b, off, rfl, hbl, hcell⟩ := hx (by omega)
      obtain ⟨b', off', rfl, hbl', hcell'⟩ := hx' (by omega)
      have hkl : k < l.length := by rw [HN.out]; exact hlt
      have hkm : k < m.length := by rw [HM.out]; exact hlt
      have hka : k < (addL l m).length := by rw [HAL.out]; exact hlt
      have hcx : wr.cell? ⟨b, off + k, none⟩ = some (.int .u8 ((l[k]).toNat : Int)) := (hb.cell (p := ⟨b, off + k, none⟩) hbl).trans (hcell k _ (bys_get l k hkl))
      have hcy : wr.cell? ⟨b', off' + k, none⟩ = some (.int .u8 ((m[k]).toNat : Int)) := (hb.cell (p := ⟨b', off' + k, none⟩) hbl').trans (hcell' k _ (bys_get m k hkm))
      have HX := Lib.hid (xor_u8 l[k] m[k])
      have HG := Lib.hid (addL_get l m k hkl hkm hka)
      have hbs := hb.size
      have hob : u5.ownBlock ≠ some b := fun e => by have := (hown.lt b e).1; omega
      have hob' : u5.ownBlock ≠ some b' := fun e => by have := (hown.lt b' e).1; omega
      have hk0 : (0 : Int) ≤ (k : Int) := Int.natCast_nonneg _
      clear hcell hcell' hx hx'
      have hki : (k : Int) < (n : Int) := by omega
      go_wp2_with fail
      go_region_held3 (fun w' => w'.cell? ⟨b, off + k, none⟩ = some (.int .u8 ((l[k]).toNat : Int)) ∧ w'.cell? ⟨b', off' + k, none⟩ = some (.int .u8 ((m[k]).toNat : Int)))
        (first
          | go_keep
          | (go_split_ands
             refine ⟨?_, ?_⟩
             · (rw [hg'.cell_far _ (by simp; omega) (Ne.symm hob)]; assumption)
             · (rw [hg'.cell_far _ (by simp; omega) (Ne.symm hob')]; assumption)))
        ((refine step_append1 (by rfl) _ _ _ (by rfl) w.heap.size 5 _ _ Tryd.underlying24 infoByte rfl _ k _ (by rfl) ((hown.alloc _).drew) wr.heap.size (.int .u8 (bits BinOp.xor IntKind.u8 ((l[k]).toNat : Int) ((m[k]).toNat : Int))) (by rfl) (by simp) (by rfl) (by omega) (by omega) (by have := hb.size; simp; omega) ?_; intro v' w1 hown1 hg' _))
      have hb' : Below w.heap.size w w1 := below_append ((hb.alloc hb.size _).drew) ((hown.alloc _).drew) hg' (Nat.le_refl _) (by simp; omega)
      have hown2 : w1.ownsRow w.heap.size 5 1 v' (k + 1) (bys ((addL l m).take (k + 1))) := by
        have e : (addL l m).take (k + 1) = (addL l m).take k ++ [l[k] ^^^ m[k]] := by
          rw [List.take_succ_eq_append_getElem hka, HG.out]
        rw [HX.out] at hown1
        rw [e, bys_append]; exact hown1
      clear hown1 hg' hown
      go_wp2_with fail
      go_roundw
      case rel => exact ⟨k + 1, by omega, by go_num, hown2, hb'⟩
      case measure => simp [intOf]; omega
    · obtain rfl : k = n := by omega
      have hki : ¬ (k : Int) < (k : Int) := by omega
      go_wp2_with fail
      go_ret
      refine ⟨_, rfl, OwnBytes.of_made ?_, TurnIn.of_below hb⟩
      rw [List.take_of_length_le (by rw [HAL.out]; exact Nat.le_refl _)] at hown
      simpa [HAL.out] using hown

set_option maxHeartbeats 1000000 in
theorem add_own (v u : Value) (l m : List UInt8) (w : World) (hv : Seen w v (bys l)) (hu : Seen w u (bys m)) :
    Calls Tryd.prog 100 #[v, u] w (RetBytesOk 5 w (addR l m) (pairOk l m)) := by
  have hv0 := hv
  have hu0 := hu
  obtain ⟨A, c, rfl, hlc, hcm, hx⟩ := hv
  obtain ⟨A', c', rfl, hlc', hcm', hx'⟩ := hu
  rw [bys_length] at hlc hlc' hv0 hu0 hx hx'
  simp only [bys_length]
  unfold maxLen at hcm hcm'
  obtain ⟨i0, hi0, hz0, hz1, hz2⟩ := info_parts infoByte
  by_cases hp : l.length ≤ 80 ∧ l.length = m.length
  · have HR : Hid (addR l m = addL l m) := if_pos hp
    have HO : Hid (pairOk l m = true) := by show pairOk l m = true; simpa [pairOk] using hp
    obtain ⟨hle, heq⟩ := hp
    have HAL := Lib.hid (addL_len l m heq)
    generalize hnn : l.length = n at *
    generalize hmm : m.length = n' at *
    obtain rfl : n = n' := by omega
    have HN := Lib.hid hnn
    have HM := Lib.hid hmm
    clear hnn hmm heq
    go_enter Tryd.func100, Tryd.ntmps100
    go_wp2_with fail
    refine (goodPair_any _ _ l m _ hv0 hu0).mono ?_
    rintro e w' ⟨rfl, rfl⟩
    rw [HO.out]
    go_wp2_with (at_make; refine wpList_make_full _ rfl _ _ _ rfl w.heap.size _ i0 _ 1 Tryd.underlying24 hi0 hz0 hz1 _ _ _ _ n rfl rfl rfl rfl ?b2 ?b3 ?b4 ?_)
    case b2 => rw [hz2]; omega
    case b3 => unfold maxLen; omega
    case b4 => exact Nat.le_refl _
    intro w1 hown1 hg1
    have hb1 : Below w.heap.size w w1 := below_of_grown hg1 (Nat.le_refl _) (by simp)
    rw [toList_madeCells_one] at hown1
    clear hg1
    go_wp2_with fail
    go_loopw [18] (fun i wr => ∃ k : Nat, k ≤ n ∧ i = .int .i64 k ∧ wr.ownsRow w.heap.size 5 1 (.slice (some ⟨w.heap.size, 0, none⟩) n n) n ((bys (addL l m)).take k ++ List.replicate (n - k) (.int .u8 0)) ∧ Below w.heap.size w wr)
      (fun i _ => n - (intOf i).toNat)
    case atStart => exact ⟨0, Nat.zero_le _, rfl, by simpa using hown1, hb1⟩
    case round =>
      obtain ⟨k, hk, rfl, hown, hb⟩ := hrel
      clear hown1 hb1
      by_cases hlt : k < n
      · obtain ⟨b, off, rfl, hbl, hcell⟩ := hx (by omega)
        obtain ⟨b', off', rfl, hbl', hcell'⟩ := hx' (by omega)
        have hkl : k < l.length := by rw [HN.out]; exact hlt
        have hkm : k < m.length := by rw [HM.out]; exact hlt
        have hka : k < (addL l m).length := by rw [HAL.out]; exact hlt
        have hcx : wr.cell? ⟨b, off + k, none⟩ = some (.int .u8 ((l[k]).toNat : Int)) := (hb.cell (p := ⟨b, off + k, none⟩) hbl).trans (hcell k _ (bys_get l k hkl))
        have hcy : wr.cell? ⟨b', off' + k, none⟩ = some (.int .u8 ((m[k]).toNat : Int)) := (hb.cell (p := ⟨b', off' + k, none⟩) hbl').trans (hcell' k _ (bys_get m k hkm))
        have HX := Lib.hid (xor_u8 l[k] m[k])
        have HG := Lib.hid (addL_get l m k hkl hkm hka)
        have hco : wr.cell? ⟨w.heap.size, k, none⟩ = some (.int .u8 0) := by
          have htk : ((bys (addL l m)).take k).length = k := by simp [HAL.out]; omega
          rw [hown.cellAt k (by omega), List.getElem?_append_right (by omega), htk, Nat.sub_self, List.getElem?_replicate, if_pos (by omega)]
        have hfr := hown.frozenAt k
        have hst := (hown.stored k (.int .u8 ((l[k] ^^^ m[k]).toNat : Int))).1
        rw [take_set_next (bys (addL l m)) _ k _ (by rw [bys_get _ k hka, HG.out]) (by simp [HAL.out]; omega), ← HX.out] at hst
        clear hcell hx hcell' hx'
        have hki : (k : Int) < (n : Int) := by omega
        go_wp2_with fail
        go_roundw
        case rel => exact ⟨k + 1, by omega, by go_num, by simpa [Nat.sub_sub] using hst, hb.setCell (Nat.le_refl _) _⟩
        case measure => simp [intOf]; omega
      · obtain rfl : k = n := by omega
        have hki : ¬ (k : Int) < (k : Int) := by omega
        go_wp2_with fail
        go_ret2
        refine ⟨_, by rw [HO.out]; rfl, OwnBytes.of_made ?_, TurnIn.of_below hb⟩
        rw [List.take_of_length_le (by simp [HAL.out]), Nat.sub_self] at hown
        rw [HR.out]
        simpa [HAL.out] using hown
  · have HR : Hid (addR l m = []) := if_neg hp
    have HO : Hid (pairOk l m = false) := by show pairOk l m = false; simpa [pairOk] using hp
    clear hp hx hx'
    generalize l.length = n at *
    generalize m.length = n' at *
    go_enter Tryd.func100, Tryd.ntmps100
    go_wp2_with fail
    refine (goodPair_any _ _ l m _ hv0 hu0).mono ?_
    rintro e w' ⟨rfl, rfl⟩
    rw [HO.out]
    go_wp2_with fail
    go_ret2
    exact ⟨_, by rw [HO.out]; rfl, by rw [HR.out]; exact OwnBytes.nil _ _ _, TurnIn.refl _⟩

end Go.Proofs.YtlkoafnlklhaeaaDoor

/- The contracts of the products, on bytes. -/
namespace Go.Proofs.YtlkoafnlklhaeaaDoor
open Go.RowKit G294

theorem times_u8 (a b : UInt8) (w : World) (ht : Tab w) :
    Calls Tryd.prog 139 #[.int .u8 (a.toNat : Int), .int .u8 (b.toNat : Int)] w fun e w' => e = .returned (.int .u8 ((gmul a b).toNat : Int)) ∧ w = w' := by
  rw [gmul_toNat]; exact times_any _ _ a.toNat_lt b.toNat_lt w ht

theorem l1Times_u8 (a b : UInt8) (w : World) :
    Calls Tryd.prog 141 #[.int .u8 (a.toNat : Int), .int .u8 (b.toNat : Int)] w fun e w' => e = .returned (.int .u8 ((gmul a b).toNat : Int)) ∧ w = w' := by
  rw [gmul_toNat]; exact l1Times_any _ _ a.toNat_lt b.toNat_lt w

end Go.Proofs.YtlkoafnlklhaeaaDoor

/- Contracts of ScaleVector, the program's and the model's. -/
namespace Go.Proofs.YtlkoafnlklhaeaaDoor
open Go.RowKit G294

set_option maxHeartbeats 400000 in
theorem l1Scale_any (a : UInt8) (v : Value) (l : List UInt8) (w : World) (hv : Seen w v (bys l)) (hn : l.length ≤ 1048576) :
    Calls Tryd.prog 92 #[.int .u8 (a.toNat : Int), v] w (Made w 5 (bys (scaleL a l))) := by
  obtain ⟨A, c, rfl, hlc, hcm, hx⟩ := hv
  rw [bys_length] at hlc hx
  simp only [bys_length]
  unfold maxLen at hcm
  generalize hnn : l.length = n at *
  have HN := Lib.hid hnn
  clear hnn
  go_enter Tryd.func92, Tryd.ntmps92
  go_wp2_with fail
  go_loopw [5, 10] (fun o i wr => ∃ k : Nat, k ≤ n ∧ i = .int .i64 k ∧ wr.ownsRow w.heap.size 5 1 o k (bys ((scaleL a l).take k)) ∧ Below w.heap.size w wr)
    (fun _ i _ => n - (intOf i).toNat)
  case atStart => exact ⟨0, Nat.zero_le _, rfl, World.ownsRow_nil _ _ _ _, Below.refl _ _⟩
  case round =>
    obtain ⟨k, hk, rfl, hown, hb⟩ := hrel
    by_cases hlt : k < n
    · obtain ⟨b, off, rfl, hbl, hcell⟩ := hx (by omega)
      have hkl : k < l.length := by rw [HN.out]; exact hlt
      have hcx : wr.cell? ⟨b, off + k, none⟩ = some (.int .u8 ((l[k]).toNat : Int)) := (hb.cell (p := ⟨b, off + k, none⟩) hbl).trans (hcell k _ (bys_get l k hkl))
      clear hcell hx
      have hki : (k : Int) < (n : Int) := by omega
      go_wp2_with fail
      refine (l1Times_u8 a l[k] _).mono ?_
      rintro e w' ⟨rfl, rfl⟩
      go_wp2_with (at_builtin; refine wpList_append1 rfl _ _ _ rfl w.heap.size 5 _ _ Tryd.underlying24 infoByte rfl _ k _ rfl (hown.alloc _) wr.heap.size (.int .u8 ((gmul a l[k]).toNat : Int)) rfl ?c1 rfl ?c2 ?c3 ?c4 ?_)
      case c1 => simp
      case c2 => omega
      case c3 => omega
      case c4 => have := hb.size; simp; omega
      intro v' w' hown' hg' _
      have hb' : Below w.heap.size w w' := below_append (hb.alloc hb.size _) (hown.alloc _) hg' (Nat.le_refl _) (by have := hb.size; simp; omega)
      have hown2 : w'.ownsRow w.heap.size 5 1 v' (k + 1) (bys ((scaleL a l).take (k + 1))) := by
        have e : (scaleL a l).take (k + 1) = (scaleL a l).take k ++ [gmul a l[k]] := by
          rw [List.take_succ_eq_append_getElem (by simp [scaleL, hkl])]; simp [scaleL]
        rw [e, bys_append]; exact hown'
      clear hown' hg'
      go_wp2_with fail
      go_roundw
      case rel => exact ⟨k + 1, by omega, by go_num, hown2, hb'⟩
      case measure => simp [intOf]; omega
    · obtain rfl : k = n := by omega
      have hki : ¬ (k : Int) < (k : Int) := by omega
      go_wp2_with fail
      go_ret
      refine ⟨_, rfl, ?_, hb⟩
      rw [List.take_of_length_le (by simp [scaleL, HN.out])] at hown
      simpa [HN.out, scaleL] using hown

set_option maxHeartbeats 400000 in
theorem scale_any (a : UInt8) (v : Value) (l : List UInt8) (w : World) (hv : Seen w v (bys l)) (ht : Tab w) (h0 : 1 < w.heap.size) :
    Calls Tryd.prog 99 #[.int .u8 (a.toNat : Int), v] w (MadeOk w 5 (bys (scaleR a l)) (scaleOk l)) := by
  have hv0 := hv
  obtain ⟨A, c, rfl, hlc, hcm, hx⟩ := hv
  rw [bys_length] at hlc hv0 hx
  simp only [bys_length]
  unfold maxLen at hcm
  obtain ⟨i0, hi0, hz0, hz1, hz2⟩ := info_parts infoByte
  by_cases hle : l.length ≤ 80
  · have HR : Hid (scaleR a l = scaleL a l) := if_pos hle
    have HO : Hid (scaleOk l = true) := by show scaleOk l = true; simpa [scaleOk] using hle
    generalize hnn : l.length = n at *
    have HN := Lib.hid hnn
    clear hnn
    go_enter Tryd.func99, Tryd.ntmps99
    go_wp2_with fail
    refine (goodVector_any _ l _ hv0).mono ?_
    rintro e w' ⟨rfl, rfl⟩
    rw [HO.out]
    go_wp2_with (at_make; refine wpList_make_full _ rfl _ _ _ rfl w.heap.size _ i0 _ 1 Tryd.underlying24 hi0 hz0 hz1 _ _ _ _ n rfl rfl rfl rfl ?b2 ?b3 ?b4 ?_)
    case b2 => rw [hz2]; omega
    case b3 => unfold maxLen; omega
    case b4 => exact Nat.le_refl _
    intro w1 hown1 hg1
    have hb1 : Below w.heap.size w w1 := below_of_grown hg1 (Nat.le_refl _) (by simp)
    rw [toList_madeCells_one] at hown1
    clear hg1
    go_wp2_with fail
    go_loopw [17] (fun i wr => ∃ k : Nat, k ≤ n ∧ i = .int .i64 k ∧ wr.ownsRow w.heap.size 5 1 (.slice (some ⟨w.heap.size, 0, none⟩) n n) n ((bys (scaleL a l)).take k ++ List.replicate (n - k) (.int .u8 0)) ∧ Below w.heap.size w wr)
      (fun i _ => n - (intOf i).toNat)
    case atStart => exact ⟨0, Nat.zero_le _, rfl, by simpa using hown1, hb1⟩
    case round =>
      obtain ⟨k, hk, rfl, hown, hb⟩ := hrel
      clear hown1 hb1
      by_cases hlt : k < n
      · obtain ⟨b, off, rfl, hbl, hcell⟩ := hx (by omega)
        have hkl : k < l.length := by rw [HN.out]; exact hlt
        have hks : k < (scaleL a l).length := by simp [scaleL, hkl]
        have hsl : (scaleL a l).length = n := by simp [scaleL, HN.out]
        have hse : (scaleL a l)[k] = gmul a l[k] := by simp [scaleL]
        have HS := Lib.hid hse
        have HSL := Lib.hid hsl
        clear hsl hse
        have hcx : wr.cell? ⟨b, off + k, none⟩ = some (.int .u8 ((l[k]).toNat : Int)) := (hb.cell (p := ⟨b, off + k, none⟩) hbl).trans (hcell k _ (bys_get l k hkl))
        have hco : wr.cell? ⟨w.heap.size, k, none⟩ = some (.int .u8 0) := by
          have htk : ((bys (scaleL a l)).take k).length = k := by simp [HSL.out]; omega
          rw [hown.cellAt k (by omega), List.getElem?_append_right (by omega), htk, Nat.sub_self, List.getElem?_replicate, if_pos (by omega)]
        have hfr := hown.frozenAt k
        have hst := (hown.stored k (.int .u8 ((gmul a l[k]).toNat : Int))).1
        rw [take_set_next (bys (scaleL a l)) _ k _ (by rw [bys_get _ k hks, HS.out]) (by simp [HSL.out]; omega)] at hst
        have htr : Tab wr := ht.below hb h0
        clear hcell hx
        have hki : (k : Int) < (n : Int) := by omega
        go_wp2_with fail
        refine (times_u8 a l[k] _ htr).mono ?_
        rintro e w' ⟨rfl, rfl⟩
        go_wp2_with fail
        go_roundw
        case rel => exact ⟨k + 1, by omega, by go_num, by simpa [Nat.sub_sub] using hst, hb.setCell (Nat.le_refl _) _⟩
        case measure => simp [intOf]; omega
      · obtain rfl : k = n := by omega
        have hki : ¬ (k : Int) < (k : Int) := by omega
        go_wp2_with fail
        go_ret2
        refine ⟨_, by rw [HO.out]; rfl, ?_, hb⟩
        rw [List.take_of_length_le (by simp [scaleL, HN.out]), Nat.sub_self] at hown
        rw [HR.out]
        simpa [HN.out, scaleL] using hown
  · have HR : Hid (scaleR a l = []) := if_neg hle
    have HO : Hid (scaleOk l = false) := by show scaleOk l = false; simpa [scaleOk] using hle
    generalize l.length = n at *
    go_enter Tryd.func99, Tryd.ntmps99
    go_wp2_with fail
    refine (goodVector_any _ l _ hv0).mono ?_
    rintro e w' ⟨rfl, rfl⟩
    rw [HO.out]
    go_wp2_with fail
    go_ret2
    exact ⟨.slice none 0 0, by rw [HO.out]; rfl, by rw [HR.out]; exact World.ownsRow_nil _ _ _ _, Below.refl _ _⟩

theorem scaleR_len (a : UInt8) (l : List UInt8) : (scaleR a l).length ≤ 80 := by
  unfold scaleR; split
  · simpa [scaleL]
  · simp

theorem scale_own (a : UInt8) (v : Value) (l : List UInt8) (w : World) (hv : Seen w v (bys l)) (ht : Tab w) (h0 : 1 < w.heap.size) :
    Calls Tryd.prog 99 #[.int .u8 (a.toNat : Int), v] w (RetBytesOk 5 w (scaleR a l) (scaleOk l)) := (scale_any a v l w hv ht h0).mono fun _ _ h => retBytesOk_of h

end Go.Proofs.YtlkoafnlklhaeaaDoor

/- The methods of field bytes. -/
namespace Go.Proofs.YtlkoafnlklhaeaaDoor
open Go.RowKit G294

set_option maxHeartbeats 400000 in
theorem fbTimes_any (a b : UInt8) (w : World) (ht : Tab w) :
    Calls Tryd.prog 243 #[.int .u8 (a.toNat : Int), .int .u8 (b.toNat : Int)] w fun e w' => e = .returned (.int .u8 ((gmul a b).toNat : Int)) ∧ w = w' := by
  go_enter Tryd.func243, Tryd.ntmps243
  go_wp2_with fail
  refine (times_u8 a b _ ht).mono ?_
  rintro e w' ⟨rfl, rfl⟩
  go_wp2_with fail
  go_ret
  exact ⟨rfl, rfl⟩

set_option maxHeartbeats 400000 in
theorem fbPlus_any (a b : UInt8) (w : World) :
    Calls Tryd.prog 242 #[.int .u8 (a.toNat : Int), .int .u8 (b.toNat : Int)] w fun e w' => e = .returned (.int .u8 ((a ^^^ b).toNat : Int)) ∧ w = w' := by
  have HX := Lib.hid (xor_u8 a b)
  go_enter Tryd.func242, Tryd.ntmps242
  go_wp2_with fail
  go_ret
  exact ⟨by rw [← HX.out]; rfl, rfl⟩

set_option maxHeartbeats 400000 in
theorem fbInverse_any (a : UInt8) (w : World) (ht : Tab w) :
    Calls Tryd.prog 241 #[.int .u8 (a.toNat : Int)] w fun e w' => e = .returned (.int .u8 ((ginv a).toNat : Int)) ∧ w = w' := by
  have HI := Lib.hid (ginv_toNat a)
  go_enter Tryd.func241, Tryd.ntmps241
  go_wp2_with fail
  refine (inverse_any a.toNat a.toNat_lt _ ht).mono ?_
  rintro e w' ⟨rfl, rfl⟩
  go_wp2_with fail
  go_ret
  exact ⟨by rw [HI.out]; rfl, rfl⟩

theorem methTimes (x : Int) (w : World) : (method 369 183 (.int .u8 x) "loop.example/g00294/impl.times").run Tryd.prog w = .ok (243, .int .u8 x) w := by kernel_rfl

theorem methPlus (x : Int) (w : World) : (method 369 183 (.int .u8 x) "loop.example/g00294/impl.plus").run Tryd.prog w = .ok (242, .int .u8 x) w := by kernel_rfl

theorem methInverse (x : Int) (w : World) : (method 369 183 (.int .u8 x) "loop.example/g00294/impl.inverse").run Tryd.prog w = .ok (241, .int .u8 x) w := by kernel_rfl

set_option maxRecDepth 100000 in
set_option maxHeartbeats 1000000 in
theorem multipliedAt (r n c Ba Bb : Nat) (A B : Ents) (va vb : Value) (w : World) (hBa : Ba < w.heap.size) (hBb : Bb < w.heap.size) (hva : w.cell? ⟨Ba, 0, none⟩ = some va) (hvb : w.cell? ⟨Bb, 0, none⟩ = some vb)
    (hsa : SeenM w va (mkM r n A)) (hsb : SeenM w vb (mkM n c B)) (ht : Tab w) (h0 : 1 < w.heap.size) :
    GivesAt Tryd.prog 203 #[.pointer (some ⟨Ba, 0, none⟩), .pointer (some ⟨Bb, 0, none⟩)] r c (prodF n A B) w := by
  intro W i j hb hi hj
  have hva' := (hb.cell (p := ⟨Ba, 0, none⟩) hBa).trans hva
  have hvb' := (hb.cell (p := ⟨Bb, 0, none⟩) hBb).trans hvb
  have htW : Tab W := ht.below hb h0
  obtain ⟨bb, off, cp, RA, rc, rfl, hl1, h1, h2, hl2, hsr⟩ := (hsa.below hb).rowF i hi
  have HSB := Lib.hid (hsb.below hb)
  unfold maxLen at hl1 hl2
  have hi' : (i : Int) < (r : Int) := by omega
  have hj' : (j : Int) < (c : Int) := by omega
  have hm1 := methTimes
  have hm2 := methPlus
  clear hva hvb hsa hsb ht
  go_enter Tryd.func203, Tryd.ntmps203
  go_wp2_with fail
  go_loop [7, 15] (fun s k => ∃ (m : Nat) (x : UInt8), m ≤ n ∧ k = .int .i64 m ∧ s = .int .u8 (x.toNat : Int) ∧ Hid (x = sumK m fun k => gmul (A i k) (B k j))) (fun _ k => n - (intOf k).toNat)
  case atStart => exact ⟨0, 0, Nat.zero_le _, rfl, rfl, rfl⟩
  case round =>
    obtain ⟨m, x, hm, rfl, rfl, HX⟩ := hrel
    by_cases hlt : m < n
    · have hmi : (m : Int) < (n : Int) := by omega
      obtain ⟨A0, c0, hs1, hs2, hs3, hs4⟩ := hsr
      simp only [bys_length, mkRow_length] at hs1 hs4
      cases hs1
      obtain ⟨b1, o1, rfl, hb1, hc1⟩ := hs4 (by omega)
      have hcx := hc1 m _ (bys_get _ m (by rw [mkRow_length]; exact hlt))
      rw [mkRow_get] at hcx
      obtain ⟨bb2, off2, cp2, b', off', c', rfl, hl3, h5, h6, h7, hl4, h8⟩ := HSB.out.cellF m j hlt hj
      unfold maxLen at hl3 hl4
      clear hc1 hs4 hs2 hs3
      go_wp2_with fail
      refine (fbTimes_any (A i m) (B m j) _ htW).mono ?_
      rintro e w' ⟨rfl, rfl⟩
      go_wp2_with fail
      refine (fbPlus_any x (gmul (A i m) (B m j)) _).mono ?_
      rintro e w' ⟨rfl, rfl⟩
      go_wp2_with fail
      go_round
      case rel => exact ⟨m + 1, x ^^^ gmul (A i m) (B m j), by omega, by go_num, rfl, by show _ = sumK (m + 1) _; rw [sumK, ← HX.out]⟩
      case measure => simp [intOf]; omega
    · obtain rfl : m = n := by omega
      have hmi : ¬ (m : Int) < (m : Int) := by omega
      go_wp2_with fail
      go_ret
      exact ⟨by rw [HX.out]; rfl, 0, rfl⟩
end Go.Proofs.YtlkoafnlklhaeaaDoor

/- Elimination in place: pivotBelow, scaleRow, clearColumn, eliminate. -/
namespace Go.Proofs.YtlkoafnlklhaeaaDoor
open Go.RowKit G294

def pivV (o : Option Nat) : Value := match o with
  | none => .tuple #[.int .i64 0, .bool false]
  | some k => .tuple #[.int .i64 k, .bool true]

set_option maxRecDepth 100000 in
set_option maxHeartbeats 1000000 in
theorem pivotBelow_any (r c a j : Nat) (F : Ents) (v : Value) (w : World) (hs : SeenM w v (mkM r c F)) (hr1 : 1 ≤ r) (hr : r ≤ 1000) (hc : c ≤ 1000) (ha : a ≤ r) (hj : j < c) :
    Calls Tryd.prog 200 #[v, .int .i64 a, .int .i64 j] w fun e w' => e = .returned (pivV (piv F r a j)) ∧ w = w' := by
  have HS := Lib.hid hs
  obtain ⟨A, cp, hvv, _, _⟩ := hs.len
  rw [mkM_length] at hvv
  subst hvv
  clear hs
  go_enter Tryd.func200, Tryd.ntmps200
  go_wp2_with fail
  go_loop [9] (fun i => ∃ k : Nat, a ≤ k ∧ k ≤ r ∧ i = .int .i64 k ∧ Hid (∀ i, a ≤ i → i < k → F i j = 0)) (fun i => r - (intOf i).toNat)
  case atStart => exact ⟨a, Nat.le_refl _, ha, rfl, fun i h1 h2 => by omega⟩
  case round =>
    obtain ⟨k, hak, hk, rfl, HK⟩ := hrel
    by_cases hlt : k < r
    · have hki : (k : Int) < (r : Int) := by omega
      have hji : (j : Int) < (c : Int) := by omega
      obtain ⟨bb, off, cp5, b', off', c', e6, hl5, h5, h6, h7, hl6, h8⟩ := HS.out.cellF k j hlt hj
      simp only [Value.slice.injEq] at e6
      obtain ⟨rfl, z9, rfl⟩ := e6
      clear z9
      unfold maxLen at hl5 hl6
      by_cases h0 : F k j = 0
      · have hb : (((F k j).toNat : Int) != 0) = false := by rw [h0]; rfl
        have HK2 : Hid (∀ i, a ≤ i → i < k + 1 → F i j = 0) := fun i h1 h2 => by
          by_cases e : i = k
          · rw [e]; exact h0
          · exact HK.out i h1 (by omega)
        clear h0
        go_wp2_with fail
        go_round
        case rel => exact ⟨k + 1, by omega, by omega, by go_num, HK2⟩
        case measure => simp [intOf]; omega
      · have hb : (((F k j).toNat : Int) != 0) = true := by
          rw [bne_iff_ne]; intro e
          exact h0 (u8_ext (by simpa using e))
        have HP := Lib.hid (piv_some hak hlt h0 HK.out)
        clear h0
        go_wp2_with fail
        go_ret2
        exact ⟨by rw [HP.out]; rfl, rfl⟩
    · obtain rfl : k = r := by omega
      have hki : ¬ (k : Int) < (k : Int) := by omega
      have HP := Lib.hid (piv_none HK.out)
      go_wp2_with fail
      go_ret2
      exact ⟨by rw [HP.out]; rfl, rfl⟩

/-- row k turns in place -/
def RowTurn (E EE : TypeId) (w : World) (lo hi : Nat) (v : Value) (L : Mat) (vs : List Value) (e : Ending) (w' : World) : Prop := e = .returned (.tuple #[]) ∧ OwnM E EE w' lo hi v L vs ∧ TurnIn lo hi w w'

set_option maxRecDepth 100000 in
set_option maxHeartbeats 1000000 in
theorem scaleRow_any (r c k lo hi : Nat) (F : Ents) (s : UInt8) (v u : Value) (vs : List Value) (w : World) (hM : OwnM 183 214 w lo hi v (mkM r c F) vs) (hk : k < r) (hu : vs[k]? = some u) (hc1 : 1 ≤ c) (hc : c ≤ 1000) (ht : Tab w) (h0 : 1 < lo) :
    Calls Tryd.prog 201 #[u, .int .u8 (s.toNat : Int)] w (RowTurn 183 214 w lo hi v (mkM r c (scF k s F)) vs) := by
  obtain ⟨bb, cp, hu2, e1, e2, e3, e4, e5, hfz, hcell⟩ := hM.rowF k hk hc1
  obtain rfl : u = .slice (some ⟨bb, 0, none⟩) c cp := Option.some.inj (hu.symm.trans hu2)
  have HU := Lib.hid hu
  have HM0 := Lib.hid (hM.congr (L' := mkM r c fun i j => if i = k ∧ j < 0 then gmul s (F k j) else F i j) (mkM_congr fun i j _ _ => by simp))
  have HT := Lib.hid ht
  have hm1 := methTimes
  unfold maxLen at e5
  clear hM hu hu2 hfz hcell ht
  go_enter Tryd.func201, Tryd.ntmps201
  go_wp2_with fail
  go_loopw [7] (fun i wr => ∃ m : Nat, m ≤ c ∧ i = .int .i64 m ∧ Hid (OwnM 183 214 wr lo hi v (mkM r c fun i j => if i = k ∧ j < m then gmul s (F k j) else F i j) vs) ∧ Hid (TurnIn lo hi w wr)) (fun i _ => c - (intOf i).toNat)
  case atStart => exact ⟨0, Nat.zero_le _, rfl, HM0, Lib.hid ⟨rfl, rfl, rfl, Nat.le_refl _, fun _ _ _ => rfl⟩⟩
  case round =>
    obtain ⟨m, hm, rfl, HM, HK⟩ := hrel
    by_cases hlm : m < c
    · have hmi : (m : Int) < (c : Int) := by omega
      obtain ⟨bb', cp', hu2, f1, f2, f3, f4, f5, hfz, hcell⟩ := HM.out.rowF k hk hc1
      obtain ⟨rfl, rfl⟩ : bb = bb' ∧ cp = cp' := by simpa using HU.out.symm.trans hu2
      have hcx := hcell m hlm
      have e : (if k = k ∧ m < m then gmul s (F k m) else F k m) = F k m := if_neg (by omega)
      rw [e] at hcx
      have hfr := hfz m
      have htr : Tab wr := fun i hi => (World.cell?_of_block (HK.out.block 1 (by have := HM0.out.top; omega) (by omega))).trans (HT.out i hi)
      have HTR := Lib.hid htr
      have HM2 := Lib.hid ((HM.out.storeF (j := m) (x := gmul s (F k m)) hk HU.out).congr (L' := mkM r c fun i j => if i = k ∧ j < m + 1 then gmul s (F k j) else F i j) (mkM_congr fun i j _ _ => by
        by_cases a1 : i = k
        · subst a1
          by_cases a2 : j = m
          · subst a2; simp
          · by_cases a3 : j < m
            · simp [a2, a3]; omega
            · simp [a2, a3]; omega
        · simp [a1]))
      have HK2 := Lib.hid (turn_trans HK.out (turn_setCell wr bb m (.int .u8 ((gmul s (F k m)).toNat : Int))) (by omega))
      have HC := Lib.hid (gmul_comm (F k m) s)
      clear hcell hfz hu2 f3 f5 htr e
      go_wp2_with fail
      refine (fbTimes_any (F k m) s _ HTR.out).mono ?_
      rintro e w' ⟨rfl, rfl⟩
      rw [HC.out]
      go_wp2_with fail
      go_roundw
      case rel => exact ⟨m + 1, by omega, by go_num, HM2, HK2⟩
      case measure => simp [intOf]; omega
    · obtain rfl : m = c := by omega
      have hmi : ¬ (m : Int) < (m : Int) := by omega
      go_wp2_with fail
      go_end0
      exact ⟨rfl, HM.out.congr (mkM_congr fun i j _ hj => by
        unfold scF
        by_cases a1 : i = k
        · subst a1; simp [hj]
        · simp [a1]), HK.out⟩

theorem stilly {P : Program} {f : FuncId} {args : Array Value} {w : World} {v : Value} (h : Calls P f args w fun e w' => e = .returned v ∧ w = w') :
    Calls P f args w fun e w' => e = .returned v ∧ w' = w := h.mono fun _ _ ⟨he, hw⟩ => ⟨he, hw.symm⟩

/-- column j cleared in the rows ahead of k and in the first m columns of row k -/
def clK (a j k m : Nat) (F : Ents) : Ents := fun i jj => if i < k ∨ (i = k ∧ jj < m) then clF a (fun i => F i j) F i jj else F i jj

set_option maxRecDepth 100000 in
set_option maxHeartbeats 2000000 in
theorem clearColumn_any (r c a j lo hi : Nat) (F : Ents) (v : Value) (vs : List Value) (w : World) (hM : OwnM 183 214 w lo hi v (mkM r c F) vs) (ha : a < r) (hj : j < c) (hr : r ≤ 1000) (hc : c ≤ 1000) (ht : Tab w) (h0 : 1 < lo) :
    Calls Tryd.prog 202 #[v, .int .i64 a, .int .i64 j] w (RowTurn 183 214 w lo hi v (mkM r c (clF a (fun i => F i j) F)) vs) := by
  obtain ⟨g, cp, rfl, hg1, hg2, hg3, hg4⟩ := hM.sliceF (by omega)
  have HM0 := Lib.hid (hM.congr (L' := mkM r c (clK a j 0 0 F)) (mkM_congr fun i jj _ _ => by simp [clK]))
  have HT := Lib.hid ht
  have hm1 := methTimes
  have hm2 := methPlus
  unfold maxLen at hg4
  clear hM ht
  go_enter Tryd.func202, Tryd.ntmps202
  go_wp2_with fail
  go_loopw [11] (fun i wr => ∃ k : Nat, k ≤ r ∧ i = .int .i64 k ∧ Hid (OwnM 183 214 wr lo hi (.slice (some ⟨g, 0, none⟩) r cp) (mkM r c (clK a j k 0 F)) vs) ∧ Hid (TurnIn lo hi w wr)) (fun i _ => r - (intOf i).toNat)
  case atStart => exact ⟨0, Nat.zero_le _, rfl, HM0, Lib.hid ⟨rfl, rfl, rfl, Nat.le_refl _, fun _ _ _ => rfl⟩⟩
  case round =>
    obtain ⟨k, hk, rfl, HM, HK⟩ := hrel
    by_cases hlt : k < r
    · have hki : (k : Int) < (r : Int) := by omega
      by_cases hka : k = a
      · have hbb : ((k : Int) == (a : Int)) = true := by simp [hka]
        have HM2 := Lib.hid (HM.out.congr (L' := mkM r c (clK a j (k + 1) 0 F)) (mkM_congr fun i jj _ _ => by
          unfold clK
          by_cases a1 : i = k
          · subst a1; simp [clF, hka]
          · by_cases a2 : i < k
            · simp [a2, show i < k + 1 by omega]
            · simp [a1, a2, show ¬ i < k + 1 by omega]))
        clear hka
        go_wp2_with fail
        go_roundw
        case rel => exact ⟨k + 1, by omega, by go_num, HM2, HK⟩
        case measure => simp [intOf]; omega
      · have hbb : ((k : Int) == (a : Int)) = false := by simp; omega
        obtain ⟨bk, ck, huk, k1, k2, k3, k4, k5, kfz, kcell⟩ := HM.out.rowF k hlt (by omega)
        obtain ⟨ba, ca, hua, a1, a2, a3, a4, a5, afz, acell⟩ := HM.out.rowF a ha (by omega)
        have hck := HM.out.cellAt huk
        have hcf := kcell j hj
        have ef : clK a j k 0 F k j = F k j := by simp [clK]
        rw [ef] at hcf
        have hne : bk ≠ ba := fun e => hka ((HM.out.apart a _ ba hua rfl).2 k _ huk (by rw [e]; rfl))
        have HUK := Lib.hid huk
        have HUA := Lib.hid hua
        have n1 : g ≠ bk := fun e => k3 (by rw [e]; rfl)
        have n2 : g ≠ ba := fun e => a3 (by rw [e]; rfl)
        have hji : (j : Int) < (c : Int) := by omega
        unfold maxLen at k5 a5
        have HKA := Lib.hid hka
        clear kcell acell kfz afz huk hua k3 a3 ef hka
        go_wp2_with fail
        go_loopw [29] (fun i wq => ∃ m : Nat, m ≤ c ∧ i = .int .i64 m ∧ Hid (OwnM 183 214 wq lo hi (.slice (some ⟨g, 0, none⟩) r cp) (mkM r c (clK a j k m F)) vs) ∧ Hid (TurnIn lo hi w wq)) (fun i _ => c - (intOf i).toNat)
        case atStart => exact ⟨0, Nat.zero_le _, rfl, HM, HK⟩
        case round =>
          obtain ⟨m, hm, rfl, HM, HK⟩ := hrel
          clear hck hcf
          by_cases hlm : m < c
          · have hmi : (m : Int) < (c : Int) := by omega
            have hk0 : (0 : Int) ≤ (k : Int) := Int.natCast_nonneg _
            have hm0 : (0 : Int) ≤ (m : Int) := Int.natCast_nonneg _
            have ha0 : (0 : Int) ≤ (a : Int) := Int.natCast_nonneg _
            have hai : (a : Int) < (r : Int) := by omega
            obtain ⟨bk', ck', huk, _, _, _, _, _, kfz, kcell⟩ := HM.out.rowF k hlt (by omega)
            obtain ⟨rfl, rfl⟩ : bk = bk' ∧ ck = ck' := by simpa using HUK.out.symm.trans huk
            obtain ⟨ba', ca', hua, _, _, _, _, _, afz, acell⟩ := HM.out.rowF a ha (by omega)
            obtain ⟨rfl, rfl⟩ : ba = ba' ∧ ca = ca' := by simpa using HUA.out.symm.trans hua
            have hck := HM.out.cellAt HUK.out
            have hca := HM.out.cellAt HUA.out
            have hcx := kcell m hlm
            have hcy := acell m hlm
            have hfr := kfz m
            have ex : clK a j k m F k m = F k m := by simp [clK]
            have ey : clK a j k m F a m = F a m := by unfold clK clF; split <;> simp
            rw [ex] at hcx
            rw [ey] at hcy
            have htr : Tab wr := fun i hi => (World.cell?_of_block (HK.out.block 1 (by have := HM0.out.top; omega) (by omega))).trans (HT.out i hi)
            have htd : Tab wr.drew := htr
            have HTR := Lib.hid htd
            obtain ⟨y, hyy⟩ : ∃ y : UInt8, y = F k m ^^^ gmul (F k j) (F a m) := ⟨_, rfl⟩
            have HPL : Hid (∀ W, Calls Tryd.prog 242 #[.int .u8 ((F k m).toNat : Int), .int .u8 ((gmul (F k j) (F a m)).toNat : Int)] W fun e w' => e = .returned (.int .u8 (y.toNat : Int)) ∧ w' = W) := by
              intro W
              rw [hyy]
              exact stilly (fbPlus_any (F k m) (gmul (F k j) (F a m)) W)
            have HM2 := Lib.hid (((HM.out.storeF (j := m) (x := y) hlt HUK.out).congr (L' := mkM r c (clK a j k (m + 1) F)) (mkM_congr fun i jj _ _ => by
              unfold clK
              by_cases b1 : i = k
              · subst b1
                by_cases b2 : jj = m
                · subst b2
                  have : ¬ i = a := HKA.out
                  simp [clF, this, hyy]
                · by_cases b3 : jj < m
                  · simp [b2, b3, show jj < m + 1 by omega]
                  · simp [b2, b3, show ¬ jj < m + 1 by omega]
              · simp [b1])).drewN 1)
            have hk2 := turn_trans HK.out (turn_setCell wr bk m (.int .u8 (y.toNat : Int))) (by omega)
            have HK2 : Hid (TurnIn lo hi w (wr.setCell ⟨bk, m, none⟩ (.int .u8 (y.toNat : Int))).drew) := ⟨hk2.os, hk2.tape, hk2.output, hk2.size, hk2.block⟩
            clear kcell acell kfz afz huk hua ex ey htr htd hk2 hyy
            go_wp2_with fail
            refine wp_region_still_tail 25 (by kernel_rfl) (by kernel_rfl) ?_
            simp only [List.take_succ_cons, List.take_zero, List.drop_succ_cons, List.drop_zero]
            repeat (first | still_step | still_call (stilly (fbTimes_any (F k j) (F a m) _ HTR.out)) | still_call (HPL.out _))
            refine wpStill_nil ?_
            go_wp2_with fail
            go_roundw
            case rel => exact ⟨m + 1, by omega, by go_num, HM2, HK2⟩
            case measure => simp [intOf]; omega
          · obtain rfl : m = c := by omega
            have hmi : ¬ (m : Int) < (m : Int) := by omega
            go_wp2_with fail
            go_roundw
            case rel => exact ⟨k + 1, by omega, by go_num, Lib.hid (HM.out.congr (mkM_congr fun i jj _ hjj => by
              unfold clK
              by_cases b1 : i = k
              · subst b1; simp [hjj]
              · by_cases b2 : i < k
                · simp [b2, show i < k + 1 by omega]
                · simp [b1, b2, show ¬ i < k + 1 by omega])), HK⟩
            case measure => simp [intOf]; omega
    · obtain rfl : k = r := by omega
      have hki : ¬ (k : Int) < (k : Int) := by omega
      go_wp2_with fail
      go_end0
      exact ⟨rfl, HM.out.congr (mkM_congr fun i j hi _ => by simp [clK, hi]), HK.out⟩
end Go.Proofs.YtlkoafnlklhaeaaDoor

/- eliminate: the rank and the reduced rows. -/
namespace G294
theorem swF_rows {r c a p : Nat} (E : Ents) (ha : a < r) (hp : p < r) : ∀ i, i < r → (mkM r c (swF a p E)).getD i [] = (mkM r c E).getD (sw a p i) [] := by
  intro i hi
  rw [mkM_getD _ _ _ _ hi, mkM_getD _ _ _ _ (sw_lt ha hp hi)]; rfl
theorem op_eq (E : Ents) (a k p : Nat) (i j : Nat) : clF a (fun i => scF a (ginv (E p k)) (swF a p E) i k) (scF a (ginv (E p k)) (swF a p E)) i j = opF (G294.opAt E a k p) E i j := by
  unfold opF G294.opAt clF
  by_cases h : i = a
  · simp [h]
  · simp [h, scF]
end G294
namespace Go.Proofs.YtlkoafnlklhaeaaDoor
open Go.RowKit G294

def RetElim (E EE : TypeId) (w : World) (lo hi : Nat) (v : Value) (L : Mat) (n : Nat) (e : Ending) (w' : World) : Prop := ∃ vs, e = .returned (.int .i64 n) ∧ OwnM E EE w' lo hi v L vs ∧ TurnIn lo hi w w'

set_option maxRecDepth 100000 in
set_option maxHeartbeats 4000000 in
theorem eliminate_any (r c n lo hi : Nat) (F : Ents) (v : Value) (vs0 : List Value) (w : World) (hM : OwnM 183 214 w lo hi v (mkM r c F) vs0) (hr1 : 1 ≤ r) (hn : n ≤ c) (hr : r ≤ 1000) (hc : c ≤ 1000) (ht : Tab w) (h0 : 1 < lo) :
    Calls Tryd.prog 178 #[v, .int .i64 n] w (RetElim 183 214 w lo hi v (mkM r c (est F r n).1) (est F r n).2) := by
  obtain ⟨g, cp, rfl, hg1, hg2, hg3, hg4⟩ := hM.sliceF (by omega)
  have HM0 := Lib.hid hM
  have HT := Lib.hid ht
  have htop := hM.top
  have hm1 := methInverse
  unfold maxLen at hg4
  clear hM ht
  go_enter Tryd.func178, Tryd.ntmps178
  go_wp2_with fail
  go_loopw [5, 10] (fun q i wr => ∃ (k a : Nat) (E : Ents) (vs : List Value), k ≤ n ∧ a ≤ r ∧ i = .int .i64 k ∧ q = .int .i64 a ∧ Hid (est F r k = (E, a)) ∧ Hid (OwnM 183 214 wr lo hi (.slice (some ⟨g, 0, none⟩) r cp) (mkM r c E) vs) ∧ Hid (TurnIn lo hi w wr)) (fun _ i _ => n - (intOf i).toNat)
  case atStart => exact ⟨0, 0, F, vs0, Nat.zero_le _, Nat.zero_le _, rfl, rfl, rfl, HM0, Lib.hid ⟨rfl, rfl, rfl, Nat.le_refl _, fun _ _ _ => rfl⟩⟩
  case round =>
    obtain ⟨k, a, E, vs, hk, har, rfl, rfl, HE, HM, HK⟩ := hrel
    by_cases hlt : k < n
    · have hki : (k : Int) < (n : Int) := by omega
      have hseen := Lib.hid HM.out.seen
      have htr : Tab wr := fun i hi => (World.cell?_of_block (HK.out.block 1 (by omega) (by omega))).trans (HT.out i hi)
      have HTR := Lib.hid htr
      clear htr
      go_wp2_with fail
      refine (pivotBelow_any r c a k E _ _ hseen.out hr1 hr hc har (by omega)).mono ?_
      rintro e w' ⟨rfl, rfl⟩
      rcases piv_cases E r a k with ⟨hp, _⟩ | ⟨p, hp, hap, hpr, hne, _⟩
      · rw [hp]
        have HE2 : Hid (est F r (k + 1) = (E, a)) := by
          show est F r (k + 1) = (E, a)
          rw [est_none (by rw [HE.out]; exact hp)]; exact HE.out
        clear hp
        unfold pivV
        go_wp2_with fail
        go_roundw
        case rel => exact ⟨k + 1, a, E, vs, by omega, har, by go_num, rfl, HE2, HM, HK⟩
        case measure => simp [intOf]; omega
      · rw [hp]
        have HE2 : Hid (est F r (k + 1) = (opF (G294.opAt E a k p) E, a + 1)) := by
          show est F r (k + 1) = _
          rw [est_some (p := p) (by rw [HE.out]; exact hp), HE.out]
        have har' : a < r := by omega
        obtain ⟨ba, ca, hua, _, _, _, _, _, _, _⟩ := HM.out.rowF a har' (by omega)
        obtain ⟨bp, cpp, hup, _, _, _, _, _, _, _⟩ := HM.out.rowF p hpr (by omega)
        have hca := HM.out.cellAt hua
        have hcp := HM.out.cellAt hup
        have hfa := HM.out.frozenAt a
        have hfp := HM.out.frozenAt p
        have hsw := (HM.out.swap (p := a) (q := p) (by simp) hua hup (L' := mkM r c (swF a p E)) (by simp) (fun i hi => swF_rows E har' hpr i (by simpa using hi)))
        have hrow : wr.ownsRow lo 214 1 (.slice (some ⟨g, 0, none⟩) r cp) r vs := by simpa using HM.out.row
        have hst := (hrow.stored a (.slice (some ⟨bp, 0, none⟩) c cpp)).1
        obtain ⟨z, hz⟩ : ∃ z, (wr.setCell ⟨g, a, none⟩ (.slice (some ⟨bp, 0, none⟩) c cpp)).cell? ⟨g, p, none⟩ = some z := by
          rw [hst.cellAt p (by omega)]
          exact ⟨_, List.getElem?_eq_getElem (by have := hst.1; omega)⟩
        have HSW := Lib.hid hsw
        have ha0 : (0 : Int) ≤ (a : Int) := Int.natCast_nonneg _
        have hai : (a : Int) < (r : Int) := by omega
        have hp0 : (0 : Int) ≤ (p : Int) := Int.natCast_nonneg _
        have hpi : (p : Int) < (r : Int) := by omega
        clear hp hne hsw hrow hst
        unfold pivV
        go_wp2_with fail
        go_region
        have HSW5 := Lib.hid (HSW.out.drewN 1)
        have hK5 : TurnIn lo hi w ((wr.setCell ⟨g, a, none⟩ (.slice (some ⟨bp, 0, none⟩) c cpp)).setCell ⟨g, p, none⟩ (.slice (some ⟨ba, 0, none⟩) c ca)).drew := by
          have t := turn_trans (turn_trans HK.out (turn_setCell wr g a (.slice (some ⟨bp, 0, none⟩) c cpp)) (by omega)) (turn_setCell _ g p (.slice (some ⟨ba, 0, none⟩) c ca)) (by omega)
          exact ⟨t.os, t.tape, t.output, t.size, t.block⟩
        change Hid (OwnM 183 214 ((wr.setCell ⟨g, a, none⟩ (.slice (some ⟨bp, 0, none⟩) c cpp)).setCell ⟨g, p, none⟩ (.slice (some ⟨ba, 0, none⟩) c ca)).drew lo hi (.slice (some ⟨g, 0, none⟩) r cp) (mkM r c (swF a p E)) ((vs.set a (.slice (some ⟨bp, 0, none⟩) c cpp)).set p (.slice (some ⟨ba, 0, none⟩) c ca))) at HSW5
        generalize ((wr.setCell ⟨g, a, none⟩ (.slice (some ⟨bp, 0, none⟩) c cpp)).setCell ⟨g, p, none⟩ (.slice (some ⟨ba, 0, none⟩) c ca)).drew = w5 at *
        generalize (vs.set a (.slice (some ⟨bp, 0, none⟩) c cpp)).set p (.slice (some ⟨ba, 0, none⟩) c ca) = vs5 at *
        have HK5 := Lib.hid hK5
        obtain ⟨b5, c5, hu5, _, _, _, _, e5, _, hcell5⟩ := HSW5.out.rowF a har' (by omega)
        have hc5 := HSW5.out.cellAt hu5
        have hx5 := hcell5 k (by omega)
        have ee : swF a p E a k = E p k := by simp [swF, sw]
        rw [ee] at hx5
        have HU5 := Lib.hid hu5
        have htr5 : Tab w5 := fun i hi => (World.cell?_of_block (HK5.out.block 1 (by omega) (by omega))).trans (HT.out i hi)
        have htd5 : Tab w5.drew := htr5
        have HTR5 := Lib.hid htd5
        have hkc : (k : Int) < (c : Int) := by omega
        have hk0 : (0 : Int) ≤ (k : Int) := Int.natCast_nonneg _
        unfold maxLen at e5
        clear hK5 hcell5 hu5 ee htr5 htd5 hca hcp hfa hfp hz hua hup HSW
        go_wp2_with fail
        refine wp_region_still_tail 13 (by kernel_rfl) (by kernel_rfl) ?_
        simp only [List.take_succ_cons, List.take_zero, List.drop_succ_cons, List.drop_zero]
        repeat (first | still_step | still_call (stilly (fbInverse_any (E p k) _ HTR5.out)))
        refine wpStill_nil ?_
        go_wp2_with fail
        refine (scaleRow_any r c a lo hi (swF a p E) (ginv (E p k)) _ _ vs5 w5.drew (HSW5.out.drewN 1) har' HU5.out (by omega) hc HTR5.out h0).mono ?_
        rintro e w6 ⟨rfl, hM6, hK6⟩
        have hK6' : TurnIn lo hi w w6 := turn_trans HK5.out (⟨hK6.os, hK6.tape, hK6.output, hK6.size, hK6.block⟩ : TurnIn lo hi w5 w6) (by omega)
        have HM6 := Lib.hid hM6
        have HK6 := Lib.hid hK6'
        have htr6 : Tab w6 := fun i hi => (World.cell?_of_block (HK6.out.block 1 (by omega) (by omega))).trans (HT.out i hi)
        have HTR6 := Lib.hid htr6
        clear hM6 hK6 hK6' htr6 hc5 hx5
        go_wp2_with fail
        refine (clearColumn_any r c a k lo hi (scF a (ginv (E p k)) (swF a p E)) _ vs5 w6 HM6.out har' (by omega) hr hc HTR6.out h0).mono ?_
        rintro e w7 ⟨rfl, hM7, hK7⟩
        have HM7 := Lib.hid (hM7.congr (L' := mkM r c (opF (G294.opAt E a k p) E)) (mkM_congr fun i j _ _ => op_eq E a k p i j))
        have HK7 := Lib.hid (turn_trans HK6.out hK7 (by omega))
        clear hM7 hK7
        go_wp2_with fail
        go_roundw
        case rel => exact ⟨k + 1, a + 1, _, vs5, by omega, by omega, by go_num, by go_num, HE2, HM7, HK7⟩
        case measure => simp [intOf]; omega
    · obtain rfl : k = n := by omega
      have hki : ¬ (k : Int) < (k : Int) := by omega
      go_wp2_with fail
      go_ret
      exact ⟨vs, by rw [HE.out]; rfl, by rw [HE.out]; exact HM.out, HK.out⟩
end Go.Proofs.YtlkoafnlklhaeaaDoor
