/- Joined texts: MatI, Boxes, ShrWalks, RndMath, ShaDef, FieldBytes, Keeps. -/
import Derived.Test.YtgbhcjfnkjhkiaaDoorBd03
import Derived.Test.YtgbhcjfnkjhkiaaDoorBd02
import Derived.Deep.RegionHeld3
import Derived.Test.YtgbhcjfnkjhkiaaDoorBd01
import Derived.Test.YtgbhcjfnkjhkiaaDoorBd00
import Derived.RangeFuncNested
import Derived.RangeFuncBound
import Derived.RangeFuncCalls
import Derived.RangeFuncLeaves
import Derived.Shelf.Abstract
import Derived.Shelf.RegionOpen
import Derived.WalkKit
import Derived.OwnWalkIn
import Derived.TacticsInMore
import Derived.LoopNIn
import Derived.LoopIn
set_option linter.unusedSimpArgs false
set_option linter.unusedVariables false
/- The program's Identity, Transposed, Vandermonde and Cauchy. -/
namespace G294
open Go Go.RowKit
theorem turn_setCell (w : World) (B o : Nat) (x : Value) : TurnIn B (B + 1) w (w.setCell ⟨B, o, none⟩ x) :=
  ⟨rfl, rfl, rfl, by simp, fun k hk hd => heap_setCell_other w ⟨B, o, none⟩ k x (by intro e; simp at e; omega)⟩
theorem cell_set_other (w : World) {B B' : Nat} (o o' : Nat) (x : Value) (h : B ≠ B') : (w.setCell ⟨B, o, none⟩ x).cell? ⟨B', o', none⟩ = w.cell? ⟨B', o', none⟩ :=
  World.cell?_of_block (heap_setCell_other w ⟨B, o, none⟩ B' x (by intro e; simp at e; omega))
theorem frozen_set_other (w : World) {B B' : Nat} (o o' : Nat) (x : Value) (h : B ≠ B') : (w.setCell ⟨B, o, none⟩ x).frozen? ⟨B', o', none⟩ = w.frozen? ⟨B', o', none⟩ :=
  World.frozen?_of_block (heap_setCell_other w ⟨B, o, none⟩ B' x (by intro e; simp at e; omega))
/-- a result is stored into a variable that the call made ahead of it -/
theorem ret_store {E EE : TypeId} {w w1 w' : World} {v : Value} {L : Mat} {vs : List Value} (hb : Below w.heap.size w w1) (hM : OwnM E EE w' w1.heap.size w'.heap.size v L vs) (ht : TurnIn 0 0 w1 w') (B o : Nat) (h1 : w.heap.size ≤ B) (h2 : B < w1.heap.size) (x : Value) :
    OwnM E EE (w'.setCell ⟨B, o, none⟩ x) w.heap.size (w'.setCell ⟨B, o, none⟩ x).heap.size v L vs ∧ TurnIn 0 0 w (w'.setCell ⟨B, o, none⟩ x) := by
  have k := turn_setCell w' B o x
  have hs := k.size
  refine ⟨(hM.keep k (by omega)).wider (by have := hb.size; omega) hs (Nat.le_refl _), TurnIn.of_below ?_⟩
  have h3 : Below w.heap.size w w' := ht.base hb hb.size (by omega)
  exact h3.setCell h1 _
theorem cell_turn {w w' : World} (t : TurnIn 0 0 w w') {B o : Nat} {x : Value} (h : w.cell? ⟨B, o, none⟩ = some x) (hB : B < w.heap.size) : w'.cell? ⟨B, o, none⟩ = some x := (t.to_below.cell (p := ⟨B, o, none⟩) hB).trans h
theorem frozen_turn {w w' : World} (t : TurnIn 0 0 w w') {B o : Nat} {x : Bool} (h : w.frozen? ⟨B, o, none⟩ = x) (hB : B < w.heap.size) : w'.frozen? ⟨B, o, none⟩ = x := (t.to_below.frozen (p := ⟨B, o, none⟩) hB).trans h
end G294
namespace Go.Proofs.YtgbhcjfnkjhkiaaDoor
open Go.RowKit G294

theorem vand_u8 (i j : Nat) (hi : i < 256) : ((vandF i j).toNat : Int) = (gp i j : Nat) := by
  unfold vandF; rw [UInt8.toNat_ofNat', Nat.mod_eq_of_lt (gp_lt hi j)]

theorem cau_u8 (c i j : Nat) (h1 : c + i < 256) (h2 : j < 256) : ((cauF c i j).toNat : Int) = (gi ((c + i) ^^^ j) : Nat) := by
  unfold cauF; rw [UInt8.toNat_ofNat', Nat.mod_eq_of_lt (gi_lt (xor_lt h1 h2))]
end Go.Proofs.YtgbhcjfnkjhkiaaDoor

/- Struct variables of a law: blocks of one cell, kept; sizes of results. -/
namespace G294
open Go Go.RowKit
theorem box_keep {w w' : World} {B a b : Nat} {x : Value} (h : w.cell? ⟨B, 0, none⟩ = some x) (hl : B < w.heap.size) (t : TurnIn a b w w') (d : B < a ∨ b ≤ B) : w'.cell? ⟨B, 0, none⟩ = some x :=
  (World.cell?_of_block (t.block B hl d)).trans h
theorem alloc_cell (w : World) (v : Value) (T : TypeId) : (w.alloc (.cells #[v] T)).cell? ⟨w.heap.size, 0, none⟩ = some v := by simp
theorem alloc_lt (w : World) (o : Obj) : w.heap.size < (w.alloc o).heap.size := by rw [World.size_alloc]; omega
theorem undrew {w w' : World} {a b : Nat} (t : TurnIn a b w.drew w') : TurnIn a b w w' := ⟨t.os, t.tape, t.output, t.size, t.block⟩
theorem transR_siz (m : Mat) : sizM (transR m) ≤ 256 := by
  unfold transR; split
  · rename_i h; have := (goodM_iff m).1 h; exact Nat.le_trans (Nat.le_trans (sizM_le_mul _ m.length (fun i hi => by rw [mkM_getD _ _ _ _ (by simpa using hi)]; simp)) (by rw [mkM_length]; exact Nat.mul_le_mul (show wid m ≤ 16 by omega) (show m.length ≤ 16 by omega))) (by omega)
  · simp [sizM]
theorem sizM_mkM (r c : Nat) (F : Ents) : sizM (mkM r c F) ≤ r * c := by
  have := sizM_le_mul (mkM r c F) c (fun i hi => by rw [mkM_getD _ _ _ _ (by simpa using hi)]; simp)
  simpa using this
theorem sizM_side {r c : Nat} (F : Ents) (hr : r ≤ 16) (hc : c ≤ 16) : sizM (mkM r c F) ≤ 256 := Nat.le_trans (sizM_mkM r c F) (Nat.mul_le_mul hr hc)
theorem idR_siz (n : Int) : sizM (idR n) ≤ 256 := by
  unfold idR; split
  · rename_i h; simp [goodI] at h; exact sizM_side _ (by omega) (by omega)
  · simp [sizM]
theorem sides_b {r c : Int} (h : sidesOk r c = true) : r.toNat ≤ 16 ∧ c.toNat ≤ 16 := by
  simp [sidesOk, goodI] at h; omega
theorem vandR_siz (r c : Int) : sizM (vandR r c) ≤ 256 := by
  unfold vandR; split
  · rename_i h; exact sizM_side _ (sides_b h).1 (sides_b h).2
  · simp [sizM]
theorem cauR_siz (r c : Int) : sizM (cauR r c) ≤ 256 := by
  unfold cauR; split
  · rename_i h; exact sizM_side _ (sides_b h).1 (sides_b h).2
  · simp [sizM]
theorem LieM.isSlice {w : World} {lo hi : Nat} {v : Value} {L : Mat} (h : LieM w lo hi v L) : ∃ A n c, v = .slice A n c := by
  obtain ⟨A, c, e, _⟩ := h.seen.len
  exact ⟨A, _, c, e⟩
end G294

/- Contracts of the laws' helpers on []Share: equality, marks, marks held, copies, sizes. -/
namespace G294
open Go Go.RowKit
theorem toList_madeCells_srs (n : Nat) : (madeCells #[.int .u8 0, .int .u8 0] (n * 2)).toList = srs (List.replicate n ((0 : UInt8), (0 : UInt8))) := by
  apply List.ext_getElem?
  intro j
  by_cases hj : j < n * 2
  · rcases Nat.mod_two_eq_zero_or_one j with h | h
    · have e : j = (j / 2) * 2 := by omega
      rw [e, srs_no _ (j / 2) (by simp; omega)]
      simp [madeCells, show j / 2 * 2 < n * 2 by omega]
    · have e : j = (j / 2) * 2 + 1 := by omega
      have h2 : (j / 2 * 2 + 1) % 2 = 1 := by omega
      rw [e, srs_data _ (j / 2) (by simp; omega)]
      simp [madeCells, show j / 2 * 2 + 1 < n * 2 by omega, h2]
  · rw [List.getElem?_eq_none (by simp [madeCells]; omega), List.getElem?_eq_none (by simp; omega)]
end G294
namespace Go.Proofs.YtgbhcjfnkjhkiaaDoor
open Go.RowKit G294

theorem infoShare : (Tryd.prog.info? 59).map (fun i => (i.zero, i.size, i.bytes)) = some (some (.agg #[.int .u8 0, .int .u8 0]), 2, 2) := by kernel_rfl

set_option maxRecDepth 100000 in
set_option maxHeartbeats 1000000 in
theorem eqShare_same (a b : Int) (w : World) : Calls Tryd.prog 127 #[.agg #[.int .u8 a, .int .u8 b], .agg #[.int .u8 a, .int .u8 b]] w (RetBool w true) := by
  have hb0 : Below w.heap.size w (w.alloc (.cells #[.int .u8 a, .int .u8 b] 59)) := (Below.refl _ _).alloc (Nat.le_refl _) _
  have hb1 : Below w.heap.size w ((w.alloc (.cells #[.int .u8 a, .int .u8 b] 59)).alloc (.cells #[.int .u8 a, .int .u8 b] 59)) := hb0.alloc (by simp) _
  have hbb : ((b : Int) != (b : Int)) = false := by simp
  have hnn : ((a : Int) != (a : Int)) = false := by simp
  clear hb0
  go_enter Tryd.func127, Tryd.ntmps127
  go_wp2_with fail
  go_ret
  exact ⟨rfl, TurnIn.of_below hb1⟩

set_option maxRecDepth 100000 in
set_option maxHeartbeats 1000000 in
theorem eqShareS_same (v u : Value) (l : List Sr) (w : World) (hv : SeenR w v l) (hu : SeenR w u l) :
    Calls Tryd.prog 64 #[v, u] w (RetBool w true) := by
  obtain ⟨A, c, rfl, hlc, hcm, hx⟩ := hv
  obtain ⟨A', c', rfl, hlc', hcm', hx'⟩ := hu
  unfold maxLen at hcm hcm'
  generalize hnn : l.length = n at *
  have HN := Lib.hid hnn
  clear hnn
  have hbn : ((n : Int) != (n : Int)) = false := by simp
  go_enter Tryd.func64, Tryd.ntmps64
  go_wp2_with fail
  go_loopw [5] (fun i wr => ∃ k : Nat, k ≤ n ∧ i = .int .i64 k ∧ Below w.heap.size w wr)
    (fun i _ => n - (intOf i).toNat)
  case atStart => exact ⟨0, Nat.zero_le _, rfl, Below.refl _ _⟩
  case round =>
    obtain ⟨k, hk, rfl, hb⟩ := hrel
    by_cases hlt : k < n
    · obtain ⟨b, off, rfl, hbl, hcell⟩ := hx (by omega)
      obtain ⟨b', off', rfl, hbl', hcell'⟩ := hx' (by omega)
      obtain ⟨⟨no, s⟩, hks⟩ := at_ltR HN.out hlt
      have hc1 := (hb.cell (p := ⟨b, off + k * 2, none⟩) hbl).trans (hcell k _ hks).1
      have hc2 := (hb.cell (p := ⟨b, off + k * 2 + 1, none⟩) hbl).trans (hcell k _ hks).2
      have hd1 := (hb.cell (p := ⟨b', off' + k * 2, none⟩) hbl').trans (hcell' k _ hks).1
      have hd2 := (hb.cell (p := ⟨b', off' + k * 2 + 1, none⟩) hbl').trans (hcell' k _ hks).2
      simp only at hc1 hc2 hd1 hd2
      generalize (no.toNat : Int) = x at *
      generalize (s.toNat : Int) = y at *
      clear hcell hcell' hx hx'
      have hbs := hb.size
      have hki : (k : Int) < (n : Int) := by omega
      go_wp2_with fail
      go_region_held3 (fun w' => (w'.cell? ⟨b, off + k * 2, none⟩ = some (.int .u8 x) ∧ w'.cell? ⟨b, off + k * 2 + 1, none⟩ = some (.int .u8 y)) ∧ w'.cell? ⟨b', off' + k * 2, none⟩ = some (.int .u8 x) ∧ w'.cell? ⟨b', off' + k * 2 + 1, none⟩ = some (.int .u8 y))
        (first | exact ⟨⟨hc1, hc2⟩, hd1, hd2⟩ | exact ⟨⟨cell_turn ht hc1 (by simp; omega), cell_turn ht hc2 (by simp; omega)⟩, cell_turn ht hd1 (by simp; omega), cell_turn ht hd2 (by simp; omega)⟩)
        ((go_at_call 127; refine (eqShare_same x y _).mono ?_; rintro e w' ⟨rfl, ht⟩))
      all_goals
        have hb2 : Below w.heap.size w w' := ht.base (below_drewN hb 1) (by simp; omega) (by omega)
        go_wp2_with fail
        go_roundw
        case rel => exact ⟨k + 1, by omega, by go_num, hb2⟩
        case measure => simp [intOf]; omega
    · obtain rfl : k = n := by omega
      go_wp2_with fail
      go_ret
      exact ⟨rfl, TurnIn.of_below hb⟩

set_option maxRecDepth 100000 in
set_option maxHeartbeats 2000000 in
theorem markShareS_own (v : Value) (l : List Sr) (k0 lo hi : Nat) (w : World) (hv : OwnSr 59 w lo hi v l) (hk0 : k0 + l.length * 2 ≤ 1000000000000) :
    Calls Tryd.prog 66 #[v, .int .i64 k0] w (RetMarkR 59 w lo hi v k0 l.length) := by
  have hown0 := hv
  rcases hv.1.2 with ⟨rfl, hn⟩ | ⟨g, cap, cur, rfl, hbg, hg, hnc, hcm, hcs, ht⟩
  · have : l = [] := List.eq_nil_of_length_eq_zero hn
    subst this
    have HE := Lib.hid hown0
    clear hown0 hv hn
    go_enter Tryd.func66, Tryd.ntmps66
    go_wp2_with fail
    refine wp_loop_once ?_
    go_wp2_with fail
    go_ret
    exact ⟨rfl, HE.out, ⟨rfl, rfl, rfl, Nat.le_refl _, fun _ _ _ => rfl⟩⟩
  · have hgh : g < hi := hv.2.2 g rfl
    have htop : hi ≤ w.heap.size := hv.2.1
    replace hown0 := hv.1
    clear hv hg ht hcs
    unfold maxLen at hcm
    generalize hnn : l.length = n at *
    have HN := Lib.hid hnn
    clear hnn
    go_enter Tryd.func66, Tryd.ntmps66
    go_wp2_with fail
    go_loopw [1, 5] (fun q i wr => ∃ k : Nat, k ≤ n ∧ i = .int .i64 k ∧ q = .int .i64 ((k0 + k * 2 : Nat) : Int) ∧ wr.ownsRow lo 59 2 (.slice (some ⟨g, 0, none⟩) n cap) n (srs ((marksR k0 n).take k ++ l.drop k)) ∧ TurnIn lo hi w wr)
      (fun _ i _ => n - (intOf i).toNat)
    case atStart => exact ⟨0, Nat.zero_le _, rfl, by simp, by simpa using hown0, ⟨rfl, rfl, rfl, Nat.le_refl _, fun _ _ _ => rfl⟩⟩
    case round =>
      obtain ⟨k, hk, rfl, rfl, hown, hgr⟩ := hrel
      clear hown0
      by_cases hlt : k < n
      · have hki : (k : Int) < (n : Int) := by omega
        have hlen : ((marksR k0 n).take k ++ l.drop k).length = n := by simp [HN.out]; omega
        obtain ⟨⟨no, s⟩, hks⟩ := at_ltR hlen hlt
        obtain ⟨hkl, hke⟩ := List.getElem?_eq_some_iff.1 hks
        have hco : wr.cell? ⟨g, k * 2, none⟩ = some (.int .u8 (no.toNat : Int)) := by
          rw [hown.cellAt (k * 2) (by omega), srs_no _ k hkl, hke]
        have hco2 : wr.cell? ⟨g, k * 2 + 1, none⟩ = some (.int .u8 (s.toNat : Int)) := by
          rw [hown.cellAt (k * 2 + 1) (by omega), srs_data _ k hkl, hke]
        have hfr := hown.frozenAt (k * 2)
        have hfr2 := hown.frozenAt (k * 2 + 1)
        have hst := hown.stored (k * 2) (.int .u8 ((UInt8.ofNat (k0 + k * 2)).toNat : Int))
        have hst3 := hst.1.stored (k * 2 + 1) (.int .u8 ((UInt8.ofNat (k0 + k * 2 + 1)).toNat : Int))
        rw [srs_set _ k (UInt8.ofNat (k0 + k * 2), UInt8.ofNat (k0 + k * 2 + 1)) hkl, take_set_over _ _ k _ (by rw [List.getElem?_eq_getElem (by simpa using hlt), marksR_get]) (by simp [HN.out])] at hst3
        have hst4 : TurnIn lo hi w _ := turn_trans (turn_trans hgr (TurnIn.of_grown (lo := lo) (hi := hi) hst.2 (fun g' e => by simp [Value.ownBlock] at e; omega)) (by omega)) (TurnIn.of_grown (lo := lo) (hi := hi) hst3.2 (fun g' e => by simp [Value.ownBlock] at e; omega)) (by omega)
        have hst5 := hst3.1
        rw [ofNat_int, ofNat_int, show ((k0 + k * 2 + 1 : Nat) : Int) = ((k0 + k * 2 : Nat) : Int) + 1 from Int.natCast_add _ 1] at hst4 hst5
        generalize (no.toNat : Int) = x at *
        generalize (s.toNat : Int) = y at *
        obtain ⟨m, hm⟩ : ∃ m, m = k0 + k * 2 := ⟨_, rfl⟩
        rw [← hm] at hst4 hst5 ⊢
        have hm1 : m + 2 ≤ 1000000000000 := by omega
        have HM := Lib.hid hm
        clear hst3 hst hown hke hkl hks hlen hgr hm
        go_wp2_with fail
        go_roundw
        case rel => exact ⟨k + 1, by omega, by go_num, by have := HM.out; go_num, hst5, hst4⟩
        case measure => simp [intOf]; omega
      · obtain rfl : k = n := by omega
        go_wp2_with fail
        go_ret
        refine ⟨rfl, ?_, hgr⟩
        rw [List.take_of_length_le (by simp), List.drop_of_length_le (by rw [HN.out]; exact Nat.le_refl _), List.append_nil] at hown
        exact ⟨by simpa using hown, Nat.le_trans htop hgr.size, fun g' e => by simp [Value.ownBlock] at e; omega⟩

set_option maxRecDepth 100000 in
set_option maxHeartbeats 2000000 in
theorem heldShareS_own (v : Value) (k0 n : Nat) (w : World) (hv : SeenR w v (marksR k0 n)) (hk0 : k0 + n * 2 ≤ 1000000000000) :
    Calls Tryd.prog 67 #[v, .int .i64 k0] w (RetInt w ((k0 + n * 2 : Nat) : Int)) := by
  obtain ⟨A, c, rfl, hlc, hcm, hx⟩ := hv
  simp only [marksR_length] at hlc hx ⊢
  unfold maxLen at hcm
  go_enter Tryd.func67, Tryd.ntmps67
  go_wp2_with fail
  go_loopw [1, 5] (fun q i wr => ∃ k : Nat, k ≤ n ∧ i = .int .i64 k ∧ q = .int .i64 ((k0 + k * 2 : Nat) : Int) ∧ Below w.heap.size w wr)
    (fun _ i _ => n - (intOf i).toNat)
  case atStart => exact ⟨0, Nat.zero_le _, rfl, by simp, Below.refl _ _⟩
  case round =>
    obtain ⟨k, hk, rfl, rfl, hb⟩ := hrel
    by_cases hlt : k < n
    · obtain ⟨b, off, rfl, hbl, hcell⟩ := hx (by omega)
      have hbs := hb.size
      have hkl : k < (marksR k0 n).length := by simpa using hlt
      have hcc := hcell k _ (List.getElem?_eq_getElem hkl)
      rw [marksR_get, ofNat_int, ofNat_int, show ((k0 + k * 2 + 1 : Nat) : Int) = ((k0 + k * 2 : Nat) : Int) + 1 from Int.natCast_add _ 1] at hcc
      have hc1 := (hb.cell (p := ⟨b, off + k * 2, none⟩) hbl).trans hcc.1
      have hc2 := (hb.cell (p := ⟨b, off + k * 2 + 1, none⟩) hbl).trans hcc.2
      clear hcell hx hcc hkl
      have hki : (k : Int) < (n : Int) := by omega
      generalize hm : k0 + k * 2 = m at *
      have hm1 : m + 2 ≤ 1000000000000 := by omega
      have HM := Lib.hid hm
      have hn1 : ((m : Int) % 256 != (m : Int) % 256) = false := by simp
      have hn2 : (((m : Int) + 1) % 256 != ((m : Int) + 1) % 256) = false := by simp
      clear hm
      go_wp2_with fail
      go_roundw
      case rel => exact ⟨k + 1, by omega, by go_num, by have := HM.out; go_num, hb⟩
      case measure => simp [intOf]; omega
    · obtain rfl : k = n := by omega
      go_wp2_with fail
      go_ret
      exact ⟨rfl, TurnIn.of_below hb⟩

set_option maxRecDepth 100000 in
set_option maxHeartbeats 1000000 in
theorem toShare_own (a b : Int) (w : World) : Calls Tryd.prog 128 #[.agg #[.int .u8 a, .int .u8 b]] w fun e w' => e = .returned (.agg #[.int .u8 a, .int .u8 b]) ∧ TurnIn 0 0 w w' := by
  have kk : TurnIn 0 0 w (((w.alloc (.cells #[.int .u8 a, .int .u8 b] 150)).alloc (.cells #[.int .u8 a, .int .u8 b] 59)).alloc (.cells #[.int .u8 a, .int .u8 b] 59)) := turn_trans (turn_trans (turn_alloc _ _) (turn_alloc _ _) (by omega)) (turn_alloc _ _) (by omega)
  go_enter Tryd.func128, Tryd.ntmps128
  go_wp2_with fail
  refine bodyPost_ret (v := .agg #[.int .u8 a, .int .u8 b]) (by simp [results, Tryd.results128, go_sem]) rfl ?_
  exact ⟨rfl, kk⟩

set_option maxRecDepth 100000 in
set_option maxHeartbeats 2000000 in
theorem toShareS_own (v : Value) (l : List Sr) (w : World) (hv : SeenR w v l) (hn : l.length ≤ 1048576) : Calls Tryd.prog 69 #[v] w (RetSrs 59 w l) := by
  obtain ⟨i0, hi0, hz0, hz1, hz2⟩ := info_parts infoShare
  obtain ⟨A, c, rfl, hlc, hcm, hx⟩ := hv
  unfold maxLen at hcm
  generalize hnn : l.length = n at *
  have HN := Lib.hid hnn
  clear hnn
  go_enter Tryd.func69, Tryd.ntmps69
  go_wp2_with (at_make; refine wpList_make_full _ rfl _ _ _ rfl w.heap.size _ i0 _ 2 Tryd.underlying53 hi0 hz0 hz1 _ _ _ _ n rfl rfl rfl rfl ?b2 ?b3 ?b4 ?_)
  case b2 => rw [hz2]; omega
  case b3 => unfold maxLen; omega
  case b4 => exact Nat.le_refl _
  intro w1 hown1 hg1
  have hb1 : Below w.heap.size w w1 := below_of_grown hg1 (Nat.le_refl _) (by simp)
  rw [toList_madeCells_srs] at hown1
  clear hg1
  go_wp2_with fail
  go_loopw [4] (fun i wr => ∃ k : Nat, k ≤ n ∧ i = .int .i64 k ∧ wr.ownsRow w.heap.size 59 2 (.slice (some ⟨w.heap.size, 0, none⟩) n n) n (srs (l.take k ++ List.replicate (n - k) ((0 : UInt8), (0 : UInt8)))) ∧ Below w.heap.size w wr)
    (fun i _ => n - (intOf i).toNat)
  case atStart => exact ⟨0, Nat.zero_le _, rfl, by simpa using hown1, hb1⟩
  case round =>
    obtain ⟨k, hk, rfl, hown, hb⟩ := hrel
    clear hown1 hb1
    by_cases hlt : k < n
    · obtain ⟨b, off, rfl, hbl, hcell⟩ := hx (by omega)
      obtain ⟨⟨no, s⟩, hks⟩ := at_ltR HN.out hlt
      have hc1 := (hb.cell (p := ⟨b, off + k * 2, none⟩) hbl).trans (hcell k _ hks).1
      have hc2 := (hb.cell (p := ⟨b, off + k * 2 + 1, none⟩) hbl).trans (hcell k _ hks).2
      simp only at hc1 hc2
      have hki : (k : Int) < (n : Int) := by omega
      have hbs := hb.size
      have HKS := Lib.hid hks
      clear hcell hx hks
      go_wp2_with fail
      refine (toShare_own _ _ _).mono ?_
      rintro e w' ⟨rfl, ht⟩
      have hown' := owns_turn0 hown ht
      have hsz := ht.size
      have hlen : (l.take k ++ List.replicate (n - k) ((0 : UInt8), (0 : UInt8))).length = n := by simp [HN.out]; omega
      have hkl : k < (l.take k ++ List.replicate (n - k) ((0 : UInt8), (0 : UInt8))).length := by omega
      have hd1 : w'.cell? ⟨w.heap.size, k * 2, none⟩ = some (.int .u8 ((l.take k ++ List.replicate (n - k) ((0 : UInt8), (0 : UInt8)))[k].1.toNat : Int)) := by rw [hown'.cellAt (k * 2) (by omega), srs_no _ k hkl]
      have hd2 : w'.cell? ⟨w.heap.size, k * 2 + 1, none⟩ = some (.int .u8 ((l.take k ++ List.replicate (n - k) ((0 : UInt8), (0 : UInt8)))[k].2.toNat : Int)) := by rw [hown'.cellAt (k * 2 + 1) (by omega), srs_data _ k hkl]
      have hf1 := hown'.frozenAt (k * 2)
      have hf2 := hown'.frozenAt (k * 2 + 1)
      have hst := hown'.stored (k * 2) (.int .u8 (no.toNat : Int))
      have hst2 := hst.1.stored (k * 2 + 1) (.int .u8 (s.toNat : Int))
      rw [srs_set _ k (no, s) hkl, take_set_next l _ k (no, s) HKS.out (by simp [HN.out]; omega)] at hst2
      have hb2 := ((ht.base hb (by omega) (by omega)).setCell (p := ⟨w.heap.size, k * 2, none⟩) (Nat.le_refl _) (.int .u8 (no.toNat : Int))).setCell (p := ⟨w.heap.size, k * 2 + 1, none⟩) (Nat.le_refl _) (.int .u8 (s.toNat : Int))
      generalize (l.take k ++ List.replicate (n - k) ((0 : UInt8), (0 : UInt8)))[k] = old at hd1 hd2
      clear hown' hlen hkl hst hown
      go_wp2_with fail
      go_roundw
      case rel => exact ⟨k + 1, by omega, by go_num, by simpa [Nat.sub_sub] using hst2.1, hb2⟩
      case measure => simp [intOf]; omega
    · obtain rfl : k = n := by omega
      have hki : ¬ (k : Int) < (k : Int) := by omega
      go_wp2_with fail
      go_ret
      refine ⟨_, rfl, OwnSr.of_made ?_, TurnIn.of_below hb⟩
      rw [List.take_of_length_le (by rw [HN.out]; exact Nat.le_refl _), Nat.sub_self] at hown
      rw [HN.out]
      simpa using hown

set_option maxRecDepth 100000 in
set_option maxHeartbeats 1000000 in
theorem szShareS_any (v : Value) (L : List Sr) (left : Nat) (w : World) (hv : SeenR w v L) (hl : left ≤ 1048576) :
    Calls Tryd.prog 68 #[v, .int .i64 left] w (RetInt w (szV left L.length)) := by
  obtain ⟨A, c, rfl, hlc, hcm, hx⟩ := hv
  unfold maxLen at hcm
  clear hx
  generalize L.length = n at *
  by_cases h0 : n ≤ left
  · have HF := Lib.hid (szV_yes h0)
    have hneg : ¬ ((left : Int) - (n : Int)) < 0 := by omega
    go_enter Tryd.func68, Tryd.ntmps68
    go_wp2_with fail
    go_ret
    exact ⟨by rw [HF.out]; exact congrArg (fun z => Ending.returned (.int .i64 z)) (by omega), TurnIn.refl w⟩
  · have HF := Lib.hid (szV_no (show left < n by omega))
    have hneg : ((left : Int) - (n : Int)) < 0 := by omega
    go_enter Tryd.func68, Tryd.ntmps68
    go_wp2_with fail
    go_ret
    exact ⟨by rw [HF.out]; rfl, TurnIn.refl w⟩

theorem szShareS_yes (v : Value) (L : List Sr) (left : Nat) (w : World) (hv : SeenR w v L) (h : L.length ≤ left) (hl : left ≤ 1048576) :
    Calls Tryd.prog 68 #[v, .int .i64 left] w (RetInt w ((left - L.length : Nat) : Int)) :=
  (szShareS_any v L left w hv hl).mono fun e w' he => ⟨by rw [he.1, szV_yes h], he.2⟩

theorem szShareS_no (v : Value) (L : List Sr) (left : Nat) (w : World) (hv : SeenR w v L) (h : left < L.length) (hl : left ≤ 1048576) :
    Calls Tryd.prog 68 #[v, .int .i64 left] w (RetInt w (-1)) :=
  (szShareS_any v L left w hv hl).mono fun e w' he => ⟨by rw [he.1, szV_no h], he.2⟩

end Go.Proofs.YtgbhcjfnkjhkiaaDoor

/- The random bytes that fit to shares: one solution of equations of powers. -/
namespace G294
theorem powB_zero (x : UInt8) : powB x 0 = 1 := by
  apply UInt8.toNat_inj.1; rw [powB_toNat]; rfl
theorem powB_succ (x : UInt8) (n : Nat) : powB x (n + 1) = gmul (powB x n) x := by
  apply UInt8.toNat_inj.1
  rw [gmul_toNat, powB_toNat, powB_toNat]; rfl
theorem hor_snoc (x c : UInt8) (l : List UInt8) : hor x (l ++ [c]) = hor x l ^^^ gmul (powB x l.length) c := by
  induction l with
  | nil => simp [hor, zero_gmul, powB_zero, one_gmul]
  | cons d l ih =>
    rw [List.cons_append, hor, ih, hor, List.length_cons, powB_succ, xor_gmul, gmul_assoc, gmul_assoc, gmul_comm c x]
    rw [UInt8.xor_assoc, UInt8.xor_assoc, UInt8.xor_comm d]
theorem hor_mk (x : UInt8) (f : Nat → UInt8) (n : Nat) : hor x (mkRow n f) = sumK n fun j => gmul (powB x j) (f j) := by
  induction n with
  | zero => rfl
  | succ n ih => rw [mkRow_succ, hor_snoc, ih, sumK]; simp
theorem hor_up (x : UInt8) (f : Nat → UInt8) (n : Nat) : gmul (hor x (mkRow n f)) x = sumK n fun j => gmul (powB x (j + 1)) (f j) := by
  rw [hor_mk, ← sumK_mulr]
  exact sumK_congr fun j _ => by rw [powB_succ, gmul_assoc, gmul_assoc, gmul_comm x]
def rndF (l : List Sr) : Ents := fun i j => powB (xF l i) (j + 1)
theorem rnd_full {l : List Sr} (h : shrOk l = true) : (est (rndF l) l.length l.length).2 = l.length := by
  refine rank_full (Nat.le_refl _) fun v hv j hj => ?_
  have hz := hor_root ((List.range l.length).map (xF l)) (mkRow l.length v) (by simp) (apart_nodup (shr_apart h)) (fun x hx => by
    obtain ⟨i, hi, rfl⟩ := List.mem_map.1 hx
    have hi := List.mem_range.1 hi
    have := hv i hi
    simp only [rndF] at this
    rw [← hor_up, gmul_comm] at this
    exact g_cancel (shr_pos h i hi) this)
  have hl : j < (mkRow l.length v).length := by simpa using hj
  have := hz _ (List.getElem_mem hl)
  rwa [mkRow_get] at this
def rndP (l : List Sr) (s : UInt8) : List UInt8 := thr ((0, s) :: l)
theorem rnd_apart {l : List Sr} (h : shrOk l = true) (s : UInt8) : apartX (xF ((0, s) :: l)) ((0, s) :: l).length := by
  intro i j hij hj
  obtain ⟨j, rfl⟩ : ∃ j', j = j' + 1 := ⟨j - 1, by omega⟩
  have hj' : j < l.length := by simpa using hj
  cases i with
  | zero => exact fun e => shr_pos h j hj' e.symm
  | succ i => exact shr_apart h i j (by omega) hj'
theorem rnd_len (l : List Sr) (s : UInt8) : (rndP l s).length = 20 := thr_len _
theorem rnd_cons {l : List Sr} (h : shrOk l = true) (h19 : l.length ≤ 19) (s : UInt8) : ∃ T, rndP l s = s :: T ∧ T.length = 19 ∧ ∀ j, l.length ≤ j → T.getD j 0 = 0 := by
  have hl := rnd_len l s
  have h0 := thr_at (l := (0, s) :: l) (by simp; omega) (rnd_apart h s) (i := 0) (by simp)
  have hh := fun j (hj : l.length ≤ j) => thr_high (l := (0, s) :: l) (by simp; omega) (rnd_apart h s) (j := j + 1) (by simp; omega)
  change hor 0 (rndP l s) = s at h0
  change ∀ j, l.length ≤ j → (rndP l s).getD (j + 1) 0 = 0 at hh
  generalize rndP l s = P at *
  cases P with
  | nil => simp at hl
  | cons p T =>
    rw [hor_at0] at h0
    exact ⟨T, by rw [h0], by simpa using hl, hh⟩
theorem take_mkRow (T : List UInt8) (n : Nat) (h : n ≤ T.length) : T.take n = mkRow n (fun j => T.getD j 0) := by
  apply List.ext_getElem
  · simp; omega
  · intro i h1 h2
    have hi : i < T.length := by simp at h1; omega
    rw [mkRow_get, List.getElem_take]
    simp [List.getD, hi]
theorem rnd_val {l : List Sr} (h : shrOk l = true) (h19 : l.length ≤ 19) (s x : UInt8) : hor x (rndP l s) = gmul (hor x (mkRow l.length fun j => (rndP l s).getD (j + 1) 0)) x ^^^ s := by
  obtain ⟨T, hT, hl, hz⟩ := rnd_cons h h19 s
  rw [hT, hor, ← hor_take x T l.length hz, take_mkRow T _ (by omega)]
  rfl
theorem rnd_at {l : List Sr} (h : shrOk l = true) (h19 : l.length ≤ 19) (s : UInt8) {i : Nat} (hi : i < l.length) : hor (xF l i) (rndP l s) = yF l i :=
  thr_at (l := (0, s) :: l) (by simp; omega) (rnd_apart h s) (i := i + 1) (by simpa using hi)
theorem rnd_left {l : List Sr} (h : shrOk l = true) (h19 : l.length ≤ 19) (s : UInt8) {i : Nat} (hi : i < l.length) : sumK l.length (fun j => gmul (rndF l i j) ((rndP l s).getD (j + 1) 0)) = yF l i ^^^ s := by
  have h1 := rnd_at h h19 s hi
  rw [rnd_val h h19, hor_up] at h1
  rw [← h1, UInt8.xor_assoc, UInt8.xor_self, UInt8.xor_zero]
  rfl
theorem rnd_sol {l : List Sr} (h : shrOk l = true) (h19 : l.length ≤ 19) (s : UInt8) {i : Nat} (hi : i < l.length) :
    sumK l.length (fun k => gmul (bst (rndF l) idF l.length l.length i k) (yF l k ^^^ s)) = (rndP l s).getD (i + 1) 0 := by
  have e : sumK l.length (fun k => gmul (bst (rndF l) idF l.length l.length i k) (yF l k ^^^ s)) = sumK l.length (fun k => sumK l.length fun j => gmul (gmul (bst (rndF l) idF l.length l.length i k) (rndF l k j)) ((rndP l s).getD (j + 1) 0)) :=
    sumK_congr fun k hk => by
      rw [← rnd_left h h19 s hk, ← sumK_mul]
      exact sumK_congr fun j _ => by rw [gmul_assoc]
  rw [e, sumK_swap]
  rw [sumK_congr (g := fun j => gmul (idF i j) ((rndP l s).getD (j + 1) 0)) (fun j hj => by rw [sumK_mulr, inv_left (rnd_full h) hi hj])]
  rw [sumK_one _ hi fun j _ hne => by rw [show idF i j = 0 from if_neg (Ne.symm hne), zero_gmul]]
  rw [show idF i i = 1 from if_pos rfl, one_gmul]
end G294

/- What chapter 7's functions answer. -/
namespace G294
def polOk (l : List UInt8) : Bool := decide (l.length ≤ 20)
def polR (l : List UInt8) (x : UInt8) : UInt8 := if l.length ≤ 20 then hor x l else 0
def shaL (s : UInt8) (l : List UInt8) (n : Nat) : List Sr := (List.range n).map fun i => (UInt8.ofNat (i + 1), hor (UInt8.ofNat (i + 1)) (s :: l))
@[simp] theorem shaL_length (s : UInt8) (l : List UInt8) (n : Nat) : (shaL s l n).length = n := by simp [shaL]
theorem shaL_get (s : UInt8) (l : List UInt8) (n k : Nat) (h : k < n) : (shaL s l n)[k]? = some (UInt8.ofNat (k + 1), hor (UInt8.ofNat (k + 1)) (s :: l)) := by simp [shaL, h]
def shaOk (l : List UInt8) (n : Int) : Bool := decide (l.length ≤ 8) && decide (1 ≤ n ∧ n ≤ 20)
def shaR (s : UInt8) (l : List UInt8) (n : Int) : List Sr := if shaOk l n = true then shaL s l n.toNat else []
theorem shaR_yes {s : UInt8} {l : List UInt8} {n : Int} (h : shaOk l n = true) : shaR s l n = shaL s l n.toNat := if_pos h
theorem shaR_no {s : UInt8} {l : List UInt8} {n : Int} (h : shaOk l n = false) : shaR s l n = [] := if_neg (by rw [h]; simp)
theorem shaR_len (s : UInt8) (l : List UInt8) (n : Int) : (shaR s l n).length ≤ 20 := by
  unfold shaR; split
  · rename_i h
    simp only [shaOk, Bool.and_eq_true, decide_eq_true_eq] at h
    simp; omega
  · simp
def intOk (l : List Sr) : Bool := shrOk l && decide (0 < l.length)
def intR (l : List Sr) (x : UInt8) : UInt8 := if intOk l = true then lag (xF l) (yF l) x l.length else 0
def opnOk (l : List Sr) (k : Int) : Bool := shrOk l && decide (1 ≤ k ∧ k ≤ l.length)
def opnR (l : List Sr) (k : Int) : UInt8 := if opnOk l k = true then lag (xF l) (yF l) 0 k.toNat else 0
def onAll (l : List Sr) (k : Nat) : Bool := decide (∀ i, i < l.length → k ≤ i → lag (xF l) (yF l) (xF l i) k = yF l i)
def isSOk (l : List Sr) (k : Int) : Bool := shrOk l && decide (1 ≤ k ∧ k ≤ 20)
def isSR (l : List Sr) (k : Int) : Bool := isSOk l k && onAll l k.toNat
def sameX (a b : List Sr) : Bool := decide (a.length = b.length ∧ ∀ i, i < a.length → xF a i = xF b i)
def adsOk (a b : List Sr) : Bool := shrOk a && shrOk b && sameX a b
def adsL (a b : List Sr) : List Sr := (List.range a.length).map fun i => (xF a i, yF a i ^^^ yF b i)
@[simp] theorem adsL_length (a b : List Sr) : (adsL a b).length = a.length := by simp [adsL]
theorem adsL_get (a b : List Sr) (k : Nat) (h : k < a.length) : (adsL a b)[k]? = some (xF a k, yF a k ^^^ yF b k) := by simp [adsL, h]
def adsR (a b : List Sr) : List Sr := if adsOk a b = true then adsL a b else []
theorem adsR_len (a b : List Sr) : (adsR a b).length ≤ 20 := by
  unfold adsR; split
  · rename_i h
    simp only [adsOk, Bool.and_eq_true] at h
    have := shr_20 h.1.1
    simpa using this
  · simp
def refOk (l : List Sr) (r : List UInt8) : Bool := shrOk l && decide (r.length ≤ 8)
def refL (l : List Sr) (r : List UInt8) : List Sr := (List.range l.length).map fun i => (xF l i, yF l i ^^^ hor (xF l i) (0 :: r))
@[simp] theorem refL_length (l : List Sr) (r : List UInt8) : (refL l r).length = l.length := by simp [refL]
theorem refL_get (l : List Sr) (r : List UInt8) (k : Nat) (h : k < l.length) : (refL l r)[k]? = some (xF l k, yF l k ^^^ hor (xF l k) (0 :: r)) := by simp [refL, h]
def refR (l : List Sr) (r : List UInt8) : List Sr := if refOk l r = true then refL l r else []
theorem refR_len (l : List Sr) (r : List UInt8) : (refR l r).length ≤ 20 := by
  unfold refR; split
  · rename_i h
    simp only [refOk, Bool.and_eq_true] at h
    have := shr_20 h.1
    simpa using this
  · simp
def rndOk (l : List Sr) : Bool := shrOk l && decide (l.length ≤ 8)
def rndL (l : List Sr) (s : UInt8) : List UInt8 := mkRow l.length fun j => (rndP l s).getD (j + 1) 0
def rndR (l : List Sr) (s : UInt8) : List UInt8 := if rndOk l = true then rndL l s else []
theorem rndR_len (l : List Sr) (s : UInt8) : (rndR l s).length ≤ 8 := by
  unfold rndR; split
  · rename_i h
    simp only [rndOk, Bool.and_eq_true, decide_eq_true_eq] at h
    simpa [rndL] using h.2
  · simp
theorem at_xy {l : List Sr} {k : Nat} {s : Sr} (h : l[k]? = some s) : s.1 = xF l k ∧ s.2 = yF l k := by simp [xF, yF, List.getD, h]
/-- a list padded to 20 -/
def pad20 (l : List UInt8) : List UInt8 := l ++ List.replicate (20 - l.length) 0
theorem pad20_length {l : List UInt8} (h : l.length ≤ 20) : (pad20 l).length = 20 := by simp [pad20]; omega
theorem hor_pad20 (x : UInt8) (l : List UInt8) : hor x (pad20 l) = hor x l := hor_pad x _ l
def xsL (l : List Sr) : List UInt8 := l.map (·.1)
theorem pad20_getD (l : List UInt8) (j : Nat) : (pad20 l).getD j 0 = l.getD j 0 := by
  unfold pad20
  simp only [List.getD]
  by_cases h : j < l.length
  · rw [List.getElem?_append_left h]
  · rw [List.getElem?_append_right (by omega), List.getElem?_eq_none (show l.length ≤ j by omega), List.getElem?_replicate]
    split <;> simp
theorem xsL_getD (l : List Sr) (j : Nat) : (xsL l).getD j 0 = xF l j := by
  simp only [xsL, xF, List.getD, List.getElem?_map]
  cases l[j]? <;> simp
theorem places_iff {a b : List Sr} (ha : shrOk a = true) (hb : shrOk b = true) : pad20 (xsL a) = pad20 (xsL b) ↔ sameX a b = true := by
  have key : ∀ j, (pad20 (xsL a)).getD j 0 = xF a j := fun j => by rw [pad20_getD, xsL_getD]
  have key' : ∀ j, (pad20 (xsL b)).getD j 0 = xF b j := fun j => by rw [pad20_getD, xsL_getD]
  have za : ∀ j, a.length ≤ j → xF a j = 0 := fun j h => by simp [xF, List.getD, List.getElem?_eq_none h]
  have zb : ∀ j, b.length ≤ j → xF b j = 0 := fun j h => by simp [xF, List.getD, List.getElem?_eq_none h]
  simp only [sameX, decide_eq_true_eq]
  constructor
  · intro e
    have hx : ∀ j, xF a j = xF b j := fun j => by rw [← key, ← key', e]
    refine ⟨?_, fun j _ => hx j⟩
    rcases Nat.lt_trichotomy a.length b.length with h | h | h
    · exact absurd (by rw [← hx]; exact za _ (Nat.le_refl _)) (shr_pos hb a.length h)
    · exact h
    · exact absurd (by rw [hx]; exact zb _ (Nat.le_refl _)) (shr_pos ha b.length h)
  · rintro ⟨hl, hx⟩
    have : xsL a = xsL b := by
      apply List.ext_getElem (by simpa [xsL] using hl)
      intro i h1 h2
      have hi : i < a.length := by simpa [xsL] using h1
      have hi' : i < b.length := by omega
      have := hx i hi
      simp [xF, List.getD, hi, hi'] at this
      simpa [xsL] using this
    rw [this]
end G294

/- The contracts of the products, on bytes. -/
namespace Go.Proofs.YtgbhcjfnkjhkiaaDoor
open Go.RowKit G294

theorem times_u8 (a b : UInt8) (w : World) (ht : Tab w) :
    Calls Tryd.prog 146 #[.int .u8 (a.toNat : Int), .int .u8 (b.toNat : Int)] w fun e w' => e = .returned (.int .u8 ((gmul a b).toNat : Int)) ∧ w = w' := by
  rw [gmul_toNat]; exact times_any _ _ a.toNat_lt b.toNat_lt w ht

theorem l1Times_u8 (a b : UInt8) (w : World) :
    Calls Tryd.prog 125 #[.int .u8 (a.toNat : Int), .int .u8 (b.toNat : Int)] w fun e w' => e = .returned (.int .u8 ((gmul a b).toNat : Int)) ∧ w = w' := by
  rw [gmul_toNat]; exact l1Times_any _ _ a.toNat_lt b.toNat_lt w

end Go.Proofs.YtgbhcjfnkjhkiaaDoor

/- What a round of a range over a function keeps. -/
namespace G294
open Go Go.RowKit
/-- what lies below n₀, but for one block, is as it was -/
structure KeepBut (n₀ Bs : Nat) (W W' : World) : Prop where
  os : W'.os = W.os
  tape : W'.tape = W.tape
  output : W'.output = W.output
  size : W.heap.size ≤ W'.heap.size
  block : ∀ k, k < n₀ → k ≠ Bs → W'.heap[k]? = W.heap[k]?
theorem KeepBut.trans {n₀ Bs : Nat} {A B C : World} (h : KeepBut n₀ Bs A B) (k : KeepBut n₀ Bs B C) : KeepBut n₀ Bs A C :=
  ⟨k.os.trans h.os, k.tape.trans h.tape, k.output.trans h.output, Nat.le_trans h.size k.size, fun i hi hne => (k.block i hi hne).trans (h.block i hi hne)⟩
theorem KeepBut.refl (n₀ Bs : Nat) (W : World) : KeepBut n₀ Bs W W := ⟨rfl, rfl, rfl, Nat.le_refl _, fun _ _ _ => rfl⟩
theorem KeepBut.of_below {n₀ Bs : Nat} {W W' : World} (h : Below n₀ W W') : KeepBut n₀ Bs W W' := ⟨h.os, h.tape, h.output, h.size, fun k hk _ => h.block k hk⟩
theorem KeepBut.putObj {n₀ Bs : Nat} {w : World} (hn : n₀ ≤ w.heap.size) (W : World) (l : Nat) (o o' : Obj) (hl : w.heap.size ≤ l) (h : W.heap[l]? = some o) (h1 : o.isCells = false) (h2 : o.isWalk = false) : KeepBut n₀ Bs W (W.putObj l o') :=
  KeepBut.of_below (belowK_b hn W l o o' hl h h1 h2)
theorem KeepBut.cell {n₀ Bs B o : Nat} {W W' : World} (h : KeepBut n₀ Bs W W') (hB : B < n₀) (hne : B ≠ Bs) : W'.cell? ⟨B, o, none⟩ = W.cell? ⟨B, o, none⟩ := World.cell?_of_block (h.block B hB hne)
theorem KeepBut.below {n₀ Bs e : Nat} {w W W' : World} (h : KeepBut n₀ Bs W W') (hb : Below e w W) (h1 : e ≤ Bs) (h2 : e ≤ n₀) : Below e w W' :=
  ⟨h.os.trans hb.os, h.tape.trans hb.tape, h.output.trans hb.output, Nat.le_trans hb.size h.size, fun k hk => (h.block k (by omega) (by omega)).trans (hb.block k hk)⟩
theorem owns_agree {w w' : World} {lo hi size n : Nat} {E : TypeId} {v : Value} {xs : List Value} (h : w.ownsRow lo E size v n xs) (h2 : ∀ g, v.ownBlock = some g → g < hi) (hb : ∀ k, lo ≤ k → k < hi → w'.heap[k]? = w.heap[k]?) : w'.ownsRow lo E size v n xs := by
  refine ⟨h.1, ?_⟩
  rcases h.2 with hn | ⟨g, cap, cur, rfl, hbg, hg, rest⟩
  · exact .inl hn
  · refine .inr ⟨g, cap, cur, rfl, hbg, ?_, rest⟩
    rw [hb g hbg (h2 g rfl)]
    exact hg
/-- one more element in a boxed row that a loop collects -/
theorem collect_step {W w1 : World} {n₀ Bs e0 size : Nat} {t e : TypeId} {v v' : Value} {k mm : Nat} {xs ys : List Value} {tmp : Obj} (hv : Boxed W Bs t v) (hte : t ≠ e) (hrow : W.ownsRow n₀ e size v k xs)
    (hown' : w1.ownsRow n₀ e size v' mm ys) (hgrow : (W.alloc tmp).grownBy w1 v.ownBlock) (h1 : e0 ≤ Bs) (h2 : Bs < n₀) (h3 : n₀ ≤ W.heap.size) :
    Boxed w1 Bs t v ∧ Boxed (w1.setCell ⟨Bs, 0, none⟩ v') Bs t v' ∧ (w1.setCell ⟨Bs, 0, none⟩ v').ownsRow n₀ e size v' mm ys ∧ KeepsOthers W (w1.setCell ⟨Bs, 0, none⟩ v') ∧ KeepBut n₀ Bs W (w1.setCell ⟨Bs, 0, none⟩ v') ∧ n₀ ≤ (w1.setCell ⟨Bs, 0, none⟩ v').heap.size := by
  obtain ⟨hv1, hv2, hr2, hk2, hb2⟩ := hv.appended (n₀ := e0) hte (own_base hrow (by omega)) (by omega) h1 (own_base hown' (by omega)) hgrow
  have hs := hgrow.size
  have hsa := World.size_alloc W tmp
  refine ⟨hv1, hv2, hown'.kept (grownBy_setCell' w1 Bs v') (.inr (fun e' => by have := (hown'.lt Bs e').1; omega)), hk2, ⟨hb2.os, hb2.tape, hb2.output, hb2.size, fun j hj hne => ?_⟩, by simp; omega⟩
  have t1 := (grownBy_setCell' w1 Bs v').block j (by omega) (fun e' => hne (by cases e'; rfl))
  have t2 := hgrow.block j (by omega) (fun e' => by have := (hrow.lt j e'.symm).1; omega)
  have t3 := (turn_alloc W tmp).block j (by omega) (by omega)
  exact t1.trans (t2.trans t3)
end G294
