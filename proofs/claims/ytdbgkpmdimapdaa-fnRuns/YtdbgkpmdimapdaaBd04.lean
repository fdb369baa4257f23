/- Joined texts: Boxes, RunWalks, RunApp, RlMath, MarkText, StrWalks, FieldBytes. -/
import Derived.Test.YtdbgkpmdimapdaaBd03
import Derived.Test.YtdbgkpmdimapdaaBd00
import Derived.Test.YtdbgkpmdimapdaaBd01
import Derived.Deep.RegionHeld3
import Derived.Laws.AppendOwnNone
import Derived.Laws.Rows
import Derived.Laws.Concat
import Derived.Test.YtdbgkpmdimapdaaBd02
set_option linter.unusedSimpArgs false
set_option linter.unusedVariables false
/- Struct variables of a law: blocks of one cell, kept; sizes of results. -/
namespace G294
open Go Go.RowKit
theorem box_keep {w w' : World} {B a b : Nat} {x : Value} (h : w.cell? ⟨B, 0, none⟩ = some x) (hl : B < w.heap.size) (t : TurnIn a b w w') (d : B < a ∨ b ≤ B) : w'.cell? ⟨B, 0, none⟩ = some x :=
  (World.cell?_of_block (t.block B hl d)).trans h
theorem alloc_cell (w : World) (v : Value) (T : TypeId) : (w.alloc (.cells #[v] T)).cell? ⟨w.heap.size, 0, none⟩ = some v := by simp
theorem alloc_lt (w : World) (o : Obj) : w.heap.size < (w.alloc o).heap.size := by rw [World.size_alloc]; omega
theorem undrew {w w' : World} {a b : Nat} (t : TurnIn a b w.drew w') : TurnIn a b w w' := ⟨t.os, t.tape, t.output, t.size, t.block⟩
theorem transR_siz (m : Mat) : sizM (transR m) ≤ 256 := by
  unfold transR; split
  · rename_i h; have := (goodM_iff m).1 h; exact Nat.le_trans (Nat.le_trans (sizM_le_mul _ m.length (fun i hi => by rw [mkM_getD _ _ _ _ (by simpa using hi)]; simp)) (by rw [mkM_length]; exact Nat.mul_le_mul (show wid m ≤ 16 by omega) (show m.length ≤ 16 by omega))) (by omega)
  · simp [sizM]
theorem sizM_mkM (r c : Nat) (F : Ents) : sizM (mkM r c F) ≤ r * c := by
  have := sizM_le_mul (mkM r c F) c (fun i hi => by rw [mkM_getD _ _ _ _ (by simpa using hi)]; simp)
  simpa using this
theorem sizM_side {r c : Nat} (F : Ents) (hr : r ≤ 16) (hc : c ≤ 16) : sizM (mkM r c F) ≤ 256 := Nat.le_trans (sizM_mkM r c F) (Nat.mul_le_mul hr hc)
theorem idR_siz (n : Int) : sizM (idR n) ≤ 256 := by
  unfold idR; split
  · rename_i h; simp [goodI] at h; exact sizM_side _ (by omega) (by omega)
  · simp [sizM]
theorem sides_b {r c : Int} (h : sidesOk r c = true) : r.toNat ≤ 16 ∧ c.toNat ≤ 16 := by
  simp [sidesOk, goodI] at h; omega
theorem vandR_siz (r c : Int) : sizM (vandR r c) ≤ 256 := by
  unfold vandR; split
  · rename_i h; exact sizM_side _ (sides_b h).1 (sides_b h).2
  · simp [sizM]
theorem cauR_siz (r c : Int) : sizM (cauR r c) ≤ 256 := by
  unfold cauR; split
  · rename_i h; exact sizM_side _ (sides_b h).1 (sides_b h).2
  · simp [sizM]
theorem LieM.isSlice {w : World} {lo hi : Nat} {v : Value} {L : Mat} (h : LieM w lo hi v L) : ∃ A n c, v = .slice A n c := by
  obtain ⟨A, c, e, _⟩ := h.seen.len
  exact ⟨A, _, c, e⟩
end G294

/- Contracts of the laws' helpers on []Run: equality, marks, marks held, copies, sizes. -/
namespace G294
open Go Go.RowKit
theorem toList_madeCells_rus (n : Nat) : (madeCells #[.int .u8 0, .int .i64 0] (n * 2)).toList = rus (List.replicate n ((0 : UInt8), (0 : Int))) := by
  apply List.ext_getElem?
  intro j
  by_cases hj : j < n * 2
  · rcases Nat.mod_two_eq_zero_or_one j with h | h
    · have e : j = (j / 2) * 2 := by omega
      rw [e, rus_no _ (j / 2) (by simp; omega)]
      simp [madeCells, show j / 2 * 2 < n * 2 by omega]
    · have e : j = (j / 2) * 2 + 1 := by omega
      have h2 : (j / 2 * 2 + 1) % 2 = 1 := by omega
      rw [e, rus_data _ (j / 2) (by simp; omega)]
      simp [madeCells, show j / 2 * 2 + 1 < n * 2 by omega, h2]
  · rw [List.getElem?_eq_none (by simp [madeCells]; omega), List.getElem?_eq_none (by simp; omega)]
end G294
namespace Go.Proofs.Ytdbgkpmdimapdaa
open Go.RowKit G294

theorem infoRun : (Try.prog.info? 86).map (fun i => (i.zero, i.size, i.bytes)) = some (some (.agg #[.int .u8 0, .int .i64 0]), 2, 16) := by kernel_rfl

set_option maxRecDepth 100000 in
set_option maxHeartbeats 1000000 in
theorem eqRun_same (a b : Int) (w : World) : Calls Try.prog 85 #[.agg #[.int .u8 a, .int .i64 b], .agg #[.int .u8 a, .int .i64 b]] w (RetBool w true) := by
  have hb0 : Below w.heap.size w (w.alloc (.cells #[.int .u8 a, .int .i64 b] 86)) := (Below.refl _ _).alloc (Nat.le_refl _) _
  have hb1 : Below w.heap.size w ((w.alloc (.cells #[.int .u8 a, .int .i64 b] 86)).alloc (.cells #[.int .u8 a, .int .i64 b] 86)) := hb0.alloc (by simp) _
  have hbb : ((b : Int) != (b : Int)) = false := by simp
  have hnn : ((a : Int) != (a : Int)) = false := by simp
  clear hb0
  go_enter Try.func85, Try.ntmps85
  go_wp2_with fail
  go_ret
  exact ⟨rfl, TurnIn.of_below hb1⟩

set_option maxRecDepth 100000 in
set_option maxHeartbeats 1000000 in
theorem eqRunS_same (v u : Value) (l : List Ru) (w : World) (hv : SeenRu w v l) (hu : SeenRu w u l) :
    Calls Try.prog 50 #[v, u] w (RetBool w true) := by
  obtain ⟨A, c, rfl, hlc, hcm, hx⟩ := hv
  obtain ⟨A', c', rfl, hlc', hcm', hx'⟩ := hu
  unfold maxLen at hcm hcm'
  generalize hnn : l.length = n at *
  have HN := Lib.hid hnn
  clear hnn
  have hbn : ((n : Int) != (n : Int)) = false := by simp
  go_enter Try.func50, Try.ntmps50
  go_wp2_with fail
  go_loopw [5] (fun i wr => ∃ k : Nat, k ≤ n ∧ i = .int .i64 k ∧ Below w.heap.size w wr)
    (fun i _ => n - (intOf i).toNat)
  case atStart => exact ⟨0, Nat.zero_le _, rfl, Below.refl _ _⟩
  case round =>
    obtain ⟨k, hk, rfl, hb⟩ := hrel
    by_cases hlt : k < n
    · obtain ⟨b, off, rfl, hbl, hcell⟩ := hx (by omega)
      obtain ⟨b', off', rfl, hbl', hcell'⟩ := hx' (by omega)
      obtain ⟨⟨no, y⟩, hks⟩ := at_ltRu HN.out hlt
      have hc1 := (hb.cell (p := ⟨b, off + k * 2, none⟩) hbl).trans (hcell k _ hks).1
      have hc2 := (hb.cell (p := ⟨b, off + k * 2 + 1, none⟩) hbl).trans (hcell k _ hks).2
      have hd1 := (hb.cell (p := ⟨b', off' + k * 2, none⟩) hbl').trans (hcell' k _ hks).1
      have hd2 := (hb.cell (p := ⟨b', off' + k * 2 + 1, none⟩) hbl').trans (hcell' k _ hks).2
      simp only at hc1 hc2 hd1 hd2
      generalize (no.toNat : Int) = x at *
      clear hcell hcell' hx hx'
      have hbs := hb.size
      have hki : (k : Int) < (n : Int) := by omega
      go_wp2_with fail
      go_region_held3 (fun w' => (w'.cell? ⟨b, off + k * 2, none⟩ = some (.int .u8 x) ∧ w'.cell? ⟨b, off + k * 2 + 1, none⟩ = some (.int .i64 y)) ∧ w'.cell? ⟨b', off' + k * 2, none⟩ = some (.int .u8 x) ∧ w'.cell? ⟨b', off' + k * 2 + 1, none⟩ = some (.int .i64 y))
        (first | exact ⟨⟨hc1, hc2⟩, hd1, hd2⟩ | exact ⟨⟨cell_turn ht hc1 (by simp; omega), cell_turn ht hc2 (by simp; omega)⟩, cell_turn ht hd1 (by simp; omega), cell_turn ht hd2 (by simp; omega)⟩)
        ((go_at_call 85; refine (eqRun_same x y _).mono ?_; rintro e w' ⟨rfl, ht⟩))
      all_goals
        have hb2 : Below w.heap.size w w' := ht.base (below_drewN hb 1) (by simp; omega) (by omega)
        go_wp2_with fail
        go_roundw
        case rel => exact ⟨k + 1, by omega, by go_num, hb2⟩
        case measure => simp [intOf]; omega
    · obtain rfl : k = n := by omega
      go_wp2_with fail
      go_ret
      exact ⟨rfl, TurnIn.of_below hb⟩

set_option maxRecDepth 100000 in
set_option maxHeartbeats 2000000 in
theorem markRunS_own (v : Value) (l : List Ru) (k0 lo hi : Nat) (w : World) (hv : OwnRu 86 w lo hi v l) (hk0 : k0 + l.length * 2 ≤ 1000000000000) :
    Calls Try.prog 51 #[v, .int .i64 k0] w (RetMarkRu 86 w lo hi v k0 l.length) := by
  have hown0 := hv
  rcases hv.1.2 with ⟨rfl, hn⟩ | ⟨g, cap, cur, rfl, hbg, hg, hnc, hcm, hcs, ht⟩
  · have : l = [] := List.eq_nil_of_length_eq_zero hn
    subst this
    have HE := Lib.hid hown0
    clear hown0 hv hn
    go_enter Try.func51, Try.ntmps51
    go_wp2_with fail
    refine wp_loop_once ?_
    go_wp2_with fail
    go_ret
    exact ⟨rfl, HE.out, ⟨rfl, rfl, rfl, Nat.le_refl _, fun _ _ _ => rfl⟩⟩
  · have hgh : g < hi := hv.2.2 g rfl
    have htop : hi ≤ w.heap.size := hv.2.1
    replace hown0 := hv.1
    clear hv hg ht hcs
    unfold maxLen at hcm
    generalize hnn : l.length = n at *
    have HN := Lib.hid hnn
    clear hnn
    go_enter Try.func51, Try.ntmps51
    go_wp2_with fail
    go_loopw [1, 5] (fun q i wr => ∃ k : Nat, k ≤ n ∧ i = .int .i64 k ∧ q = .int .i64 ((k0 + k * 2 : Nat) : Int) ∧ wr.ownsRow lo 86 2 (.slice (some ⟨g, 0, none⟩) n cap) n (rus ((marksRu k0 n).take k ++ l.drop k)) ∧ TurnIn lo hi w wr)
      (fun _ i _ => n - (intOf i).toNat)
    case atStart => exact ⟨0, Nat.zero_le _, rfl, by simp, by simpa using hown0, ⟨rfl, rfl, rfl, Nat.le_refl _, fun _ _ _ => rfl⟩⟩
    case round =>
      obtain ⟨k, hk, rfl, rfl, hown, hgr⟩ := hrel
      clear hown0
      by_cases hlt : k < n
      · have hki : (k : Int) < (n : Int) := by omega
        have hlen : ((marksRu k0 n).take k ++ l.drop k).length = n := by simp [HN.out]; omega
        obtain ⟨⟨no, y⟩, hks⟩ := at_ltRu hlen hlt
        obtain ⟨hkl, hke⟩ := List.getElem?_eq_some_iff.1 hks
        have hco : wr.cell? ⟨g, k * 2, none⟩ = some (.int .u8 (no.toNat : Int)) := by
          rw [hown.cellAt (k * 2) (by omega), rus_no _ k hkl, hke]
        have hco2 : wr.cell? ⟨g, k * 2 + 1, none⟩ = some (.int .i64 y) := by
          rw [hown.cellAt (k * 2 + 1) (by omega), rus_data _ k hkl, hke]
        have hfr := hown.frozenAt (k * 2)
        have hfr2 := hown.frozenAt (k * 2 + 1)
        have hst := hown.stored (k * 2) (.int .u8 ((UInt8.ofNat (k0 + k * 2)).toNat : Int))
        have hst3 := hst.1.stored (k * 2 + 1) (.int .i64 ((k0 + k * 2 + 1 : Nat) : Int))
        rw [rus_set _ k (UInt8.ofNat (k0 + k * 2), ((k0 + k * 2 + 1 : Nat) : Int)) hkl, take_set_over _ _ k _ (by rw [List.getElem?_eq_getElem (by simpa using hlt), marksRu_get]) (by simp [HN.out])] at hst3
        have hst4 : TurnIn lo hi w _ := turn_trans (turn_trans hgr (TurnIn.of_grown (lo := lo) (hi := hi) hst.2 (fun g' e => by simp [Value.ownBlock] at e; omega)) (by omega)) (TurnIn.of_grown (lo := lo) (hi := hi) hst3.2 (fun g' e => by simp [Value.ownBlock] at e; omega)) (by omega)
        have hst5 := hst3.1
        rw [ofNat_intRu, show ((k0 + k * 2 + 1 : Nat) : Int) = ((k0 + k * 2 : Nat) : Int) + 1 from Int.natCast_add _ 1] at hst4 hst5
        generalize (no.toNat : Int) = x at *
        obtain ⟨m, hm⟩ : ∃ m, m = k0 + k * 2 := ⟨_, rfl⟩
        rw [← hm] at hst4 hst5 ⊢
        have hm1 : m + 2 ≤ 1000000000000 := by omega
        have HM := Lib.hid hm
        clear hst3 hst hown hke hkl hks hlen hgr hm
        go_wp2_with fail
        go_roundw
        case rel => exact ⟨k + 1, by omega, by go_num, by have := HM.out; go_num, hst5, hst4⟩
        case measure => simp [intOf]; omega
      · obtain rfl : k = n := by omega
        go_wp2_with fail
        go_ret
        refine ⟨rfl, ?_, hgr⟩
        rw [List.take_of_length_le (by simp), List.drop_of_length_le (by rw [HN.out]; exact Nat.le_refl _), List.append_nil] at hown
        exact ⟨by simpa using hown, Nat.le_trans htop hgr.size, fun g' e => by simp [Value.ownBlock] at e; omega⟩

set_option maxRecDepth 100000 in
set_option maxHeartbeats 2000000 in
theorem heldRunS_own (v : Value) (k0 n : Nat) (w : World) (hv : SeenRu w v (marksRu k0 n)) (hk0 : k0 + n * 2 ≤ 1000000000000) :
    Calls Try.prog 52 #[v, .int .i64 k0] w (RetInt w ((k0 + n * 2 : Nat) : Int)) := by
  obtain ⟨A, c, rfl, hlc, hcm, hx⟩ := hv
  simp only [marksRu_length] at hlc hx ⊢
  unfold maxLen at hcm
  go_enter Try.func52, Try.ntmps52
  go_wp2_with fail
  go_loopw [1, 5] (fun q i wr => ∃ k : Nat, k ≤ n ∧ i = .int .i64 k ∧ q = .int .i64 ((k0 + k * 2 : Nat) : Int) ∧ Below w.heap.size w wr)
    (fun _ i _ => n - (intOf i).toNat)
  case atStart => exact ⟨0, Nat.zero_le _, rfl, by simp, Below.refl _ _⟩
  case round =>
    obtain ⟨k, hk, rfl, rfl, hb⟩ := hrel
    by_cases hlt : k < n
    · obtain ⟨b, off, rfl, hbl, hcell⟩ := hx (by omega)
      have hbs := hb.size
      have hkl : k < (marksRu k0 n).length := by simpa using hlt
      have hcc := hcell k _ (List.getElem?_eq_getElem hkl)
      rw [marksRu_get, ofNat_intRu, show ((k0 + k * 2 + 1 : Nat) : Int) = ((k0 + k * 2 : Nat) : Int) + 1 from Int.natCast_add _ 1] at hcc
      have hc1 := (hb.cell (p := ⟨b, off + k * 2, none⟩) hbl).trans hcc.1
      have hc2 := (hb.cell (p := ⟨b, off + k * 2 + 1, none⟩) hbl).trans hcc.2
      clear hcell hx hcc hkl
      have hki : (k : Int) < (n : Int) := by omega
      generalize hm : k0 + k * 2 = m at *
      have hm1 : m + 2 ≤ 1000000000000 := by omega
      have HM := Lib.hid hm
      have hn1 : ((m : Int) % 256 != (m : Int) % 256) = false := by simp
      have hn2 : ((m : Int) + 1 != (m : Int) + 1) = false := by simp
      clear hm
      go_wp2_with fail
      go_roundw
      case rel => exact ⟨k + 1, by omega, by go_num, by have := HM.out; go_num, hb⟩
      case measure => simp [intOf]; omega
    · obtain rfl : k = n := by omega
      go_wp2_with fail
      go_ret
      exact ⟨rfl, TurnIn.of_below hb⟩

set_option maxRecDepth 100000 in
set_option maxHeartbeats 1000000 in
theorem toRun_own (a b : Int) (w : World) : Calls Try.prog 86 #[.agg #[.int .u8 a, .int .i64 b]] w fun e w' => e = .returned (.agg #[.int .u8 a, .int .i64 b]) ∧ TurnIn 0 0 w w' := by
  have kk : TurnIn 0 0 w (((w.alloc (.cells #[.int .u8 a, .int .i64 b] 95)).alloc (.cells #[.int .u8 a, .int .i64 b] 86)).alloc (.cells #[.int .u8 a, .int .i64 b] 86)) := turn_trans (turn_trans (turn_alloc _ _) (turn_alloc _ _) (by omega)) (turn_alloc _ _) (by omega)
  go_enter Try.func86, Try.ntmps86
  go_wp2_with fail
  refine bodyPost_ret (v := .agg #[.int .u8 a, .int .i64 b]) (by simp [results, Try.results86, go_sem]) rfl ?_
  exact ⟨rfl, kk⟩

set_option maxRecDepth 100000 in
set_option maxHeartbeats 2000000 in
theorem toRunS_own (v : Value) (l : List Ru) (w : World) (hv : SeenRu w v l) (hn : l.length ≤ 1048576) : Calls Try.prog 55 #[v] w (RetRus 86 w l) := by
  obtain ⟨i0, hi0, hz0, hz1, hz2⟩ := info_parts infoRun
  obtain ⟨A, c, rfl, hlc, hcm, hx⟩ := hv
  unfold maxLen at hcm
  generalize hnn : l.length = n at *
  have HN := Lib.hid hnn
  clear hnn
  go_enter Try.func55, Try.ntmps55
  go_wp2_with (at_make; refine wpList_make_full _ rfl _ _ _ rfl w.heap.size _ i0 _ 2 Try.underlying44 hi0 hz0 hz1 _ _ _ _ n rfl rfl rfl rfl ?b2 ?b3 ?b4 ?_)
  case b2 => rw [hz2]; omega
  case b3 => unfold maxLen; omega
  case b4 => exact Nat.le_refl _
  intro w1 hown1 hg1
  have hb1 : Below w.heap.size w w1 := below_of_grown hg1 (Nat.le_refl _) (by simp)
  rw [toList_madeCells_rus] at hown1
  clear hg1
  go_wp2_with fail
  go_loopw [4] (fun i wr => ∃ k : Nat, k ≤ n ∧ i = .int .i64 k ∧ wr.ownsRow w.heap.size 86 2 (.slice (some ⟨w.heap.size, 0, none⟩) n n) n (rus (l.take k ++ List.replicate (n - k) ((0 : UInt8), (0 : Int)))) ∧ Below w.heap.size w wr)
    (fun i _ => n - (intOf i).toNat)
  case atStart => exact ⟨0, Nat.zero_le _, rfl, by simpa using hown1, hb1⟩
  case round =>
    obtain ⟨k, hk, rfl, hown, hb⟩ := hrel
    clear hown1 hb1
    by_cases hlt : k < n
    · obtain ⟨b, off, rfl, hbl, hcell⟩ := hx (by omega)
      obtain ⟨⟨no, y⟩, hks⟩ := at_ltRu HN.out hlt
      have hc1 := (hb.cell (p := ⟨b, off + k * 2, none⟩) hbl).trans (hcell k _ hks).1
      have hc2 := (hb.cell (p := ⟨b, off + k * 2 + 1, none⟩) hbl).trans (hcell k _ hks).2
      simp only at hc1 hc2
      have hki : (k : Int) < (n : Int) := by omega
      have hbs := hb.size
      have HKS := Lib.hid hks
      clear hcell hx hks
      go_wp2_with fail
      refine (toRun_own _ _ _).mono ?_
      rintro e w' ⟨rfl, ht⟩
      have hown' := owns_turn0 hown ht
      have hsz := ht.size
      have hlen : (l.take k ++ List.replicate (n - k) ((0 : UInt8), (0 : Int))).length = n := by simp [HN.out]; omega
      have hkl : k < (l.take k ++ List.replicate (n - k) ((0 : UInt8), (0 : Int))).length := by omega
      have hd1 : w'.cell? ⟨w.heap.size, k * 2, none⟩ = some (.int .u8 ((l.take k ++ List.replicate (n - k) ((0 : UInt8), (0 : Int)))[k].1.toNat : Int)) := by rw [hown'.cellAt (k * 2) (by omega), rus_no _ k hkl]
      have hd2 : w'.cell? ⟨w.heap.size, k * 2 + 1, none⟩ = some (.int .i64 ((l.take k ++ List.replicate (n - k) ((0 : UInt8), (0 : Int)))[k].2)) := by rw [hown'.cellAt (k * 2 + 1) (by omega), rus_data _ k hkl]
      have hf1 := hown'.frozenAt (k * 2)
      have hf2 := hown'.frozenAt (k * 2 + 1)
      have hst := hown'.stored (k * 2) (.int .u8 (no.toNat : Int))
      have hst2 := hst.1.stored (k * 2 + 1) (.int .i64 y)
      rw [rus_set _ k (no, y) hkl, take_set_next l _ k (no, y) HKS.out (by simp [HN.out]; omega)] at hst2
      have hb2 := ((ht.base hb (by omega) (by omega)).setCell (p := ⟨w.heap.size, k * 2, none⟩) (Nat.le_refl _) (.int .u8 (no.toNat : Int))).setCell (p := ⟨w.heap.size, k * 2 + 1, none⟩) (Nat.le_refl _) (.int .i64 y)
      generalize (l.take k ++ List.replicate (n - k) ((0 : UInt8), (0 : Int)))[k] = old at hd1 hd2
      clear hown' hlen hkl hst hown
      go_wp2_with fail
      go_roundw
      case rel => exact ⟨k + 1, by omega, by go_num, by simpa [Nat.sub_sub] using hst2.1, hb2⟩
      case measure => simp [intOf]; omega
    · obtain rfl : k = n := by omega
      have hki : ¬ (k : Int) < (k : Int) := by omega
      go_wp2_with fail
      go_ret
      refine ⟨_, rfl, OwnRu.of_made ?_, TurnIn.of_below hb⟩
      rw [List.take_of_length_le (by rw [HN.out]; exact Nat.le_refl _), Nat.sub_self] at hown
      rw [HN.out]
      simpa using hown

set_option maxRecDepth 100000 in
set_option maxHeartbeats 1000000 in
theorem szRunS_any (v : Value) (L : List Ru) (left : Nat) (w : World) (hv : SeenRu w v L) (hl : left ≤ 1048576) :
    Calls Try.prog 53 #[v, .int .i64 left] w (RetInt w (szV left L.length)) := by
  obtain ⟨A, c, rfl, hlc, hcm, hx⟩ := hv
  unfold maxLen at hcm
  clear hx
  generalize L.length = n at *
  by_cases h0 : n ≤ left
  · have HF := Lib.hid (szV_yes h0)
    have hneg : ¬ ((left : Int) - (n : Int)) < 0 := by omega
    go_enter Try.func53, Try.ntmps53
    go_wp2_with fail
    go_ret
    exact ⟨by rw [HF.out]; exact congrArg (fun z => Ending.returned (.int .i64 z)) (by omega), TurnIn.refl w⟩
  · have HF := Lib.hid (szV_no (show left < n by omega))
    have hneg : ((left : Int) - (n : Int)) < 0 := by omega
    go_enter Try.func53, Try.ntmps53
    go_wp2_with fail
    go_ret
    exact ⟨by rw [HF.out]; rfl, TurnIn.refl w⟩

theorem szRunS_yes (v : Value) (L : List Ru) (left : Nat) (w : World) (hv : SeenRu w v L) (h : L.length ≤ left) (hl : left ≤ 1048576) :
    Calls Try.prog 53 #[v, .int .i64 left] w (RetInt w ((left - L.length : Nat) : Int)) :=
  (szRunS_any v L left w hv hl).mono fun e w' he => ⟨by rw [he.1, szV_yes h], he.2⟩

theorem szRunS_no (v : Value) (L : List Ru) (left : Nat) (w : World) (hv : SeenRu w v L) (h : left < L.length) (hl : left ≤ 1048576) :
    Calls Try.prog 53 #[v, .int .i64 left] w (RetInt w (-1)) :=
  (szRunS_any v L left w hv hl).mono fun e w' he => ⟨by rw [he.1, szV_no h], he.2⟩

end Go.Proofs.Ytdbgkpmdimapdaa

/- append of one share, of bytes: onto a row of the call's own. -/
namespace G294
open Go Go.RowKit
theorem rupair_cells {w : World} {g : Nat} {p : UInt8} {q : Int} (hc0 : w.cell? ⟨g, 0, none⟩ = some (.int .u8 (p.toNat : Int))) (hc1 : w.cell? ⟨g, 1, none⟩ = some (.int .i64 q)) :
    ∀ j u, [Value.int .u8 (p.toNat : Int), Value.int .i64 q][j]? = some u → w.cell? ((⟨g, 0, none⟩ : Addr).add j) = some u := by
  intro j u hj
  rw [Addr.add_lit, Nat.zero_add]
  match j, hj with
  | 0, hj => simp only [List.getElem?_cons_zero, Option.some.injEq] at hj; subst hj; exact hc0
  | 1, hj => simp only [List.getElem?_cons_succ, List.getElem?_cons_zero, Option.some.injEq] at hj; subst hj; exact hc1
theorem rupair_one (p : UInt8) (q : Int) : ∀ u ∈ [Value.int .u8 (p.toNat : Int), Value.int .i64 q], u.oneCell' = true := by
  intro u hu
  simp only [List.mem_cons, List.not_mem_nil, or_false] at hu
  rcases hu with rfl | rfl <;> rfl
theorem rus_snoc (l : List Ru) (p : UInt8) (q : Int) : rus (l ++ [(p, q)]) = rus l ++ [.int .u8 (p.toNat : Int), .int .i64 q] := by rw [rus_append]; rfl
/-- a row of one element that was laid just now -/
theorem own_new1u (w : World) (e : TypeId) (x : Value) : (w.alloc (.cells #[x] e)).ownsRow w.heap.size e 1 (.slice (some ⟨w.heap.size, 0, none⟩) 1 1) 1 [x] :=
  ⟨rfl, .inr ⟨w.heap.size, 1, #[x], rfl, Nat.le_refl _, heap_alloc_new w _, Nat.le_refl _, by unfold maxLen; omega, rfl, rfl⟩⟩
/-- one share stored into a row of shares -/
theorem row_rupair {w : World} {base g m cp k : Nat} {E : TypeId} {L : List Ru} (ho : w.ownsRow base E 2 (.slice (some ⟨g, 0, none⟩) m cp) m (rus L)) (hk : k < m) (x : UInt8) (y : Int) :
    (∃ (a : UInt8) (b : Int), w.cell? ⟨g, k * 2, none⟩ = some (.int .u8 (a.toNat : Int)) ∧ w.cell? ⟨g, k * 2 + 1, none⟩ = some (.int .i64 b)) ∧ w.frozen? ⟨g, k * 2, none⟩ = false ∧ w.frozen? ⟨g, k * 2 + 1, none⟩ = false ∧
    ((w.setCell ⟨g, k * 2, none⟩ (.int .u8 (x.toNat : Int))).setCell ⟨g, k * 2 + 1, none⟩ (.int .i64 y)).ownsRow base E 2 (.slice (some ⟨g, 0, none⟩) m cp) m (rus (L.set k (x, y))) := by
  have hL : L.length = m := by have := ho.1; simp at this; omega
  have hkl : k < L.length := by omega
  have hst := ho.stored (k * 2) (.int .u8 (x.toNat : Int))
  have hst2 := hst.1.stored (k * 2 + 1) (.int .i64 y)
  rw [rus_set _ k (x, y) hkl] at hst2
  exact ⟨⟨L[k].1, L[k].2, by rw [ho.cellAt (k * 2) (by omega), rus_no _ k hkl], by rw [ho.cellAt (k * 2 + 1) (by omega), rus_data _ k hkl]⟩, ho.frozenAt _, ho.frozenAt _, hst2.1⟩
section
variable {P : Program} {w : World} {ops : Array Oper} {rest : List Oper} {o : Oper} {a : Act} {K : Act → World → Prop} {Q : Exit → Act → World → Prop} {E : Prop}
/-- append(s, share) -/
theorem wpList_appendRu (hgd : o.guard = none) (s x : Operand) (t : TypeId) (ho : o.op = .call { callee := .builtin .append, args := #[s, x], argTypes := #[t, t] })
    (base : Nat) (e : TypeId) (z : Value) (bytes : Nat) (ht : P.underlying t = some (.slice e)) (hinfo : (P.info? e).map (fun i => (i.zero, i.size, i.bytes)) = some (some z, 2, bytes)) (hzs : z.cells.size = 2)
    (v : Value) (n : Nat) (l : List Ru) (hs : a.eval s = v) (hown : w.ownsRow base e 2 v n (rus l))
    (g : Nat) (p : UInt8) (q : Int) (hx : a.eval x = .slice (some ⟨g, 0, none⟩) 1 1) (hc0 : w.cell? ⟨g, 0, none⟩ = some (.int .u8 (p.toNat : Int))) (hc1 : w.cell? ⟨g, 1, none⟩ = some (.int .i64 q))
    (hn : n ≤ 1000000000) (hby : bytes ≤ 1000) (hbase : base ≤ w.heap.size)
    (h : ∀ v' w', w'.ownsRow base e 2 v' (n + 1) (rus (l ++ [(p, q)])) → w.grownBy w' v.ownBlock → (v'.ownBlock = v.ownBlock ∨ v'.ownBlock = some w.heap.size) → wpList P ops Q rest (a.put o.dst v') w') :
    wpList P ops Q (o :: rest) a w := by
  obtain ⟨i, hi, hz, hsz, hbs⟩ := info_parts hinfo
  refine wpList_append_own_at w hgd s x t ho base e i z 2 bytes ht hi hz hsz hbs hzs (by omega) v n (rus l) hs hown ⟨g, 0, none⟩ 1 1 _ hx rfl (rupair_cells hc0 hc1) (rupair_one p q) ?_ ?_ hbase (fun v' w' h2 h3 _ h5 => h v' w' (by rw [rus_snoc]; exact h2) h3 h5)
  · unfold maxLen; omega
  · have : (n + 1) * bytes ≤ 1000000001 * 1000 := Nat.mul_le_mul (by omega) hby
    omega
/-- the same, as one step of a region that draws its order -/
theorem step_appendRu (hgd : o.guard = none) (s x : Operand) (t : TypeId) (ho : o.op = .call { callee := .builtin .append, args := #[s, x], argTypes := #[t, t] })
    (base : Nat) (e : TypeId) (z : Value) (bytes : Nat) (ht : P.underlying t = some (.slice e)) (hinfo : (P.info? e).map (fun i => (i.zero, i.size, i.bytes)) = some (some z, 2, bytes)) (hzs : z.cells.size = 2)
    (v : Value) (n : Nat) (l : List Ru) (hs : a.eval s = v) (hown : w.ownsRow base e 2 v n (rus l))
    (g : Nat) (p : UInt8) (q : Int) (hx : a.eval x = .slice (some ⟨g, 0, none⟩) 1 1) (hc0 : w.cell? ⟨g, 0, none⟩ = some (.int .u8 (p.toNat : Int))) (hc1 : w.cell? ⟨g, 1, none⟩ = some (.int .i64 q))
    (hn : n ≤ 1000000000) (hby : bytes ≤ 1000) (hbase : base ≤ w.heap.size)
    (h : ∀ v' w', w'.ownsRow base e 2 v' (n + 1) (rus (l ++ [(p, q)])) → w.grownBy w' v.ownBlock → (v'.ownBlock = v.ownBlock ∨ v'.ownBlock = some w.heap.size) → K (a.put o.dst v') w') :
    if Region.wanted o (yielded ops a.tmps) = true then Oper.wp P o a w K Q else E := by
  have hw : Region.wanted o (yielded ops a.tmps) = true := by simp [Region.wanted, hgd]
  rw [if_pos hw]
  obtain ⟨i, hi, hz, hsz, hbs⟩ := info_parts hinfo
  obtain ⟨v', w', hrun, r1, r2, _, r4⟩ := run_append_own_at (P := P) w base t o.type e i z 2 bytes ht hi hz hsz hbs hzs (by omega) v n (rus l) hown ⟨g, 0, none⟩ 1 1 _ rfl (rupair_cells hc0 hc1) (rupair_one p q) (by unfold maxLen; omega) (by
    have : (n + 1) * bytes ≤ 1000000001 * 1000 := Nat.mul_le_mul (by omega) hby
    omega) hbase
  unfold Oper.wp execOp
  simp only [ho, resolve, invoke, builtin, Sem.run_bind, Sem.run_pure, Result.andThen_ok, List.map_toArray, List.map_cons, List.map_nil, hs, hx, hrun]
  exact h v' w' (by rw [rus_snoc]; exact r1) r2 r4
end
end G294

/- Runs of bytes: valid ones, the runs of a text, the text of runs, their encoding; what undoes what. -/
namespace G294
/-- the sum of the lengths -/
def sumRs : List (UInt8 × Int) → Int
  | [] => 0
  | r :: l => r.2 + sumRs l
theorem sumRs_append (l m : List (UInt8 × Int)) : sumRs (l ++ m) = sumRs l + sumRs m := by
  induction l with
  | nil => simp [sumRs]
  | cons r l ih => simp only [List.cons_append, sumRs, ih]; omega
theorem sumRs_take {l : List (UInt8 × Int)} {k : Nat} (h : k < l.length) : sumRs (l.take (k + 1)) = sumRs (l.take k) + l[k].2 := by
  rw [List.take_succ_eq_append_getElem h, sumRs_append]
  simp [sumRs]
/-- one run keeps its conditions -/
def okRu (l : List (UInt8 × Int)) (k : Nat) : Bool := decide (1 ≤ (l.getD k (0, 0)).2) && (decide (sumRs (l.take (k + 1)) ≤ 200) && decide (0 < k → (l.getD k (0, 0)).1 ≠ (l.getD (k - 1) (0, 0)).1))
def goodRs (l : List (UInt8 × Int)) : Bool := (List.range l.length).all fun k => okRu l k
theorem goodRs_iff (l : List (UInt8 × Int)) : goodRs l = true ↔ ∀ k, k < l.length → okRu l k = true := by simp [goodRs]
theorem goodRs_no {l : List (UInt8 × Int)} {k : Nat} (hk : k < l.length) (h : okRu l k = false) : goodRs l = false := by
  cases hg : goodRs l with
  | false => rfl
  | true => rw [(goodRs_iff l).1 hg k hk] at h; exact absurd h (by decide)
theorem okRu_iff {l : List (UInt8 × Int)} {k : Nat} (h : k < l.length) : okRu l k = true ↔ 1 ≤ l[k].2 ∧ sumRs (l.take k) + l[k].2 ≤ 200 ∧ (0 < k → l[k].1 ≠ (l.getD (k - 1) (0, 0)).1) := by
  have e : l.getD k (0, 0) = l[k] := by rw [List.getD_eq_getElem?_getD, List.getElem?_eq_getElem h]; rfl
  rw [okRu, Bool.and_eq_true, Bool.and_eq_true, decide_eq_true_eq, decide_eq_true_eq, decide_eq_true_eq, e, sumRs_take h]
/-- one run's conditions where all before it keep theirs -/
theorem okRu_prefix {l m : List (UInt8 × Int)} {k : Nat} (h : k < l.length) : okRu (l ++ m) k = okRu l k := by
  have e1 : (l ++ m).getD k (0, 0) = l.getD k (0, 0) := by rw [List.getD_eq_getElem?_getD, List.getD_eq_getElem?_getD, List.getElem?_append_left h]
  have e2 : (l ++ m).getD (k - 1) (0, 0) = l.getD (k - 1) (0, 0) := by rw [List.getD_eq_getElem?_getD, List.getD_eq_getElem?_getD, List.getElem?_append_left (by omega)]
  have e3 : (l ++ m).take (k + 1) = l.take (k + 1) := by rw [List.take_append_of_le_length (by omega)]
  rw [okRu, okRu, e1, e2, e3]
theorem good_prefix {l m : List (UInt8 × Int)} (h : goodRs (l ++ m) = true) : goodRs l = true := by
  rw [goodRs_iff] at h ⊢
  intro k hk
  rw [← okRu_prefix (m := m) hk]
  exact h k (by simp; omega)
theorem good_not_prefix {l : List (UInt8 × Int)} (m : List (UInt8 × Int)) (h : goodRs l = false) : goodRs (l ++ m) = false := by
  cases hg : goodRs (l ++ m) with
  | false => rfl
  | true => rw [good_prefix hg] at h; exact absurd h (by decide)
theorem good_snoc {l : List (UInt8 × Int)} {r : UInt8 × Int} (h : goodRs l = true) (h1 : 1 ≤ r.2) (h2 : sumRs l + r.2 ≤ 200) (h3 : ∀ c, l.getLast? = some c → r.1 ≠ c.1) : goodRs (l ++ [r]) = true := by
  rw [goodRs_iff] at h ⊢
  intro k hk
  simp only [List.length_append, List.length_cons, List.length_nil] at hk
  rcases Nat.lt_or_ge k l.length with hl | hl
  · rw [okRu_prefix hl]; exact h k hl
  · obtain rfl : k = l.length := by omega
    rw [okRu_iff (by simp)]
    refine ⟨by simpa using h1, by simpa using h2, fun h0 => ?_⟩
    have e : (l ++ [r]).getD (l.length - 1) (0, 0) = l.getD (l.length - 1) (0, 0) := by rw [List.getD_eq_getElem?_getD, List.getD_eq_getElem?_getD, List.getElem?_append_left (by omega)]
    rw [e]
    have e2 : l.getLast? = some (l.getD (l.length - 1) (0, 0)) := by
      rw [List.getLast?_eq_getElem?, List.getD_eq_getElem?_getD, List.getElem?_eq_getElem (by omega)]; rfl
    simpa using h3 _ e2
theorem good_long {l : List (UInt8 × Int)} (h : goodRs l = true) {r : UInt8 × Int} (hr : r ∈ l) : 1 ≤ r.2 := by
  obtain ⟨k, hk, rfl⟩ := List.mem_iff_getElem.1 hr
  exact ((okRu_iff hk).1 ((goodRs_iff l).1 h k hk)).1
theorem good_sumTake {l : List (UInt8 × Int)} (h : goodRs l = true) : ∀ k, k ≤ l.length → (k : Int) ≤ sumRs (l.take k) ∧ sumRs (l.take k) ≤ 200
  | 0, _ => ⟨by simp [sumRs], by simp [sumRs]⟩
  | k + 1, hk => by
    have ih := good_sumTake h k (by omega)
    have hk' : k < l.length := by omega
    have o := (okRu_iff hk').1 ((goodRs_iff l).1 h k hk')
    rw [sumRs_take hk']
    omega
theorem good_sum {l : List (UInt8 × Int)} (h : goodRs l = true) : (l.length : Int) ≤ sumRs l ∧ sumRs l ≤ 200 := by
  have := good_sumTake h l.length (Nat.le_refl _)
  rwa [List.take_length] at this
/-! the runs of a text -/
def bump (rs : List (UInt8 × Int)) (b : UInt8) : List (UInt8 × Int) :=
  match rs.getLast? with
  | none => [(b, 1)]
  | some c => if c.1 = b then rs.dropLast ++ [(c.1, c.2 + 1)] else rs ++ [(b, 1)]
def rlOf (s : List UInt8) : List (UInt8 × Int) := s.foldl bump []
theorem rlOf_snoc (s : List UInt8) (b : UInt8) : rlOf (s ++ [b]) = bump (rlOf s) b := by simp [rlOf, List.foldl_append]
theorem rlOf_take {s : List UInt8} {k : Nat} (h : k < s.length) : rlOf (s.take (k + 1)) = bump (rlOf (s.take k)) s[k] := by
  rw [List.take_succ_eq_append_getElem h, rlOf_snoc]
theorem snoc_of_last {α : Type} {l : List α} {c : α} (h : l.getLast? = some c) : l = l.dropLast ++ [c] := by
  have hn : l ≠ [] := by rintro rfl; simp at h
  have := List.dropLast_concat_getLast hn
  rw [List.getLast?_eq_some_getLast hn] at h
  rw [Option.some.inj h] at this
  exact this.symm
/-- what holds of the runs behind each byte -/
structure RlOk (s : List UInt8) (rs : List (UInt8 × Int)) : Prop where
  last : rs.getLast?.map (·.1) = s.getLast?
  good : ∀ k, k < rs.length → 1 ≤ (rs.getD k (0, 0)).2 ∧ (0 < k → (rs.getD k (0, 0)).1 ≠ (rs.getD (k - 1) (0, 0)).1)
  sum : sumRs rs = s.length
  text : rs.flatMap (fun r => List.replicate r.2.toNat r.1) = s
theorem getD_left {α : Type} {l m : List α} {k : Nat} {d : α} (h : k < l.length) : (l ++ m).getD k d = l.getD k d := by rw [List.getD_eq_getElem?_getD, List.getD_eq_getElem?_getD, List.getElem?_append_left h]
theorem getD_end {α : Type} {l : List α} {x d : α} : (l ++ [x]).getD l.length d = x := by simp [List.getD_eq_getElem?_getD]
theorem rlOk_step {s : List UInt8} {rs : List (UInt8 × Int)} (h : RlOk s rs) (b : UInt8) : RlOk (s ++ [b]) (bump rs b) := by
  unfold bump
  cases hl : rs.getLast? with
  | none =>
    have h0 : rs = [] := List.getLast?_eq_none_iff.1 hl
    subst h0
    have hs : s = [] := by
      have := h.last
      rw [hl] at this
      exact List.getLast?_eq_none_iff.1 this.symm
    subst hs
    refine ⟨by simp, fun k hk => ?_, by simp [sumRs], by simp⟩
    simp at hk
    subst hk
    exact ⟨by simp, fun h => absurd h (by omega)⟩
  | some c =>
    have hlast := h.last
    rw [hl] at hlast
    have e := snoc_of_last hl
    generalize rs.dropLast = q at e
    subst e
    have hsum := h.sum
    rw [sumRs_append] at hsum
    simp only [sumRs] at hsum
    have htx := h.text
    rw [List.flatMap_append] at htx
    have hc1 := (h.good q.length (by simp)).1
    rw [getD_end] at hc1
    by_cases hcb : c.1 = b
    · simp only [hcb, if_true]
      refine ⟨by simp, fun k hk => ?_, ?_, ?_⟩
      · have hg := h.good k (by simpa using hk)
        simp only [List.length_append, List.length_cons, List.length_nil] at hk
        rcases Nat.lt_or_ge k q.length with hq | hq
        · rw [getD_left hq, getD_left (by omega)] at hg ⊢
          exact hg
        · obtain rfl : k = q.length := by omega
          rw [getD_end] at hg ⊢
          refine ⟨by show 1 ≤ c.2 + 1; omega, fun h0 => ?_⟩
          have := hg.2 h0
          rw [getD_left (by omega)] at this ⊢
          rw [← hcb]; exact this
      · rw [sumRs_append]; simp only [sumRs, List.length_append, List.length_cons, List.length_nil]; omega
      · rw [List.flatMap_append, ← htx, List.append_assoc]
        congr 1
        simp only [List.flatMap_cons, List.flatMap_nil, List.append_nil]
        rw [show (c.2 + 1).toNat = c.2.toNat + 1 by omega, List.replicate_succ', hcb]
    · simp only [if_neg hcb]
      refine ⟨by simp, fun k hk => ?_, ?_, ?_⟩
      · simp only [List.length_append, List.length_cons, List.length_nil] at hk
        rcases Nat.lt_or_ge k (q ++ [c]).length with hq | hq
        · have hg := h.good k hq
          rw [getD_left hq, getD_left (l := q ++ [c]) (by omega)]
          exact hg
        · simp only [List.length_append, List.length_cons, List.length_nil] at hq
          obtain rfl : k = (q ++ [c]).length := by simp; omega
          rw [getD_end]
          refine ⟨by simp, fun _ => ?_⟩
          rw [getD_left (by simp), show (q ++ [c]).length - 1 = q.length by simp, getD_end]
          exact fun e => hcb e.symm
      · rw [sumRs_append, sumRs_append]; simp only [sumRs, List.length_append, List.length_cons, List.length_nil]; omega
      · rw [List.flatMap_append, List.flatMap_append, htx]; simp
theorem rlOk (s : List UInt8) : ∀ k, k ≤ s.length → RlOk (s.take k) (rlOf (s.take k))
  | 0, _ => ⟨by simp [rlOf], fun k hk => by simp [rlOf] at hk, by simp [rlOf, sumRs], by simp [rlOf]⟩
  | k + 1, h => by
    rw [rlOf_take (by omega), List.take_succ_eq_append_getElem (by omega)]
    exact rlOk_step (rlOk s k (by omega)) _
theorem rlOk_all (s : List UInt8) : RlOk s (rlOf s) := by have := rlOk s s.length (Nat.le_refl _); rwa [List.take_length] at this
theorem rl_sumTake {s : List UInt8} {rs : List (UInt8 × Int)} (h : RlOk s rs) : ∀ j k, j + k = rs.length → sumRs (rs.take j) + (k : Int) ≤ sumRs rs := by
  intro j k
  induction k generalizing j with
  | zero => intro e; rw [List.take_of_length_le (by omega)]; simp
  | succ k ih =>
    intro e
    have := ih (j + 1) (by omega)
    have hj : j < rs.length := by omega
    rw [sumRs_take hj] at this
    have hg := (h.good j hj).1
    rw [List.getD_eq_getElem?_getD, List.getElem?_eq_getElem hj] at hg
    simp only [Option.getD_some] at hg
    omega
theorem rlOf_good {s : List UInt8} (h : s.length ≤ 200) : goodRs (rlOf s) = true := by
  have o := rlOk_all s
  rw [goodRs_iff]
  intro k hk
  have hg := o.good k hk
  have h1 := rl_sumTake o (k + 1) ((rlOf s).length - (k + 1)) (by omega)
  have h2 := o.sum
  rw [sumRs_take hk] at h1
  rw [okRu_iff hk]
  rw [show (rlOf s).getD k (0, 0) = (rlOf s)[k] by rw [List.getD_eq_getElem?_getD, List.getElem?_eq_getElem hk]; rfl] at hg
  exact ⟨hg.1, by omega, hg.2⟩
/-- the bytes of runs -/
def txOf (l : List (UInt8 × Int)) : List UInt8 := l.flatMap fun r => List.replicate r.2.toNat r.1
theorem txOf_rlOf (s : List UInt8) : txOf (rlOf s) = s := (rlOk_all s).text
theorem txOf_take {l : List (UInt8 × Int)} {k : Nat} (h : k < l.length) : txOf (l.take (k + 1)) = txOf (l.take k) ++ List.replicate l[k].2.toNat l[k].1 := by
  unfold txOf
  rw [List.take_succ_eq_append_getElem h, List.flatMap_append]
  simp
theorem txOf_length : ∀ {l : List (UInt8 × Int)}, (∀ r ∈ l, 1 ≤ r.2) → ((txOf l).length : Int) = sumRs l
  | [], _ => rfl
  | r :: l, h => by
    have ih := txOf_length (l := l) fun x hx => h x (List.mem_cons_of_mem _ hx)
    have h1 := h r (List.mem_cons_self ..)
    show (((List.replicate r.2.toNat r.1 ++ txOf l).length : Nat) : Int) = r.2 + sumRs l
    rw [List.length_append, List.length_replicate]
    omega
theorem txTake_le {l : List (UInt8 × Int)} (h : goodRs l = true) {k : Nat} (hk : k ≤ l.length) : (txOf (l.take k)).length ≤ 200 := by
  have h1 := txOf_length (l := l.take k) fun r hr => good_long h (List.mem_of_mem_take hr)
  have h2 := (good_sumTake h k hk).2
  omega
/-! the encoding of runs -/
def pkOne (r : UInt8 × Int) : List UInt8 := if 2 ≤ r.2 then [r.1, r.1, UInt8.ofNat (r.2 - 2).toNat] else [r.1]
def pkOf (l : List (UInt8 × Int)) : List UInt8 := l.flatMap pkOne
theorem pkOf_take {l : List (UInt8 × Int)} {k : Nat} (h : k < l.length) : pkOf (l.take (k + 1)) = pkOf (l.take k) ++ pkOne l[k] := by
  unfold pkOf
  rw [List.take_succ_eq_append_getElem h, List.flatMap_append]
  simp
theorem pkOf_snoc (l : List (UInt8 × Int)) (r : UInt8 × Int) : pkOf (l ++ [r]) = pkOf l ++ pkOne r := by simp [pkOf, List.flatMap_append]
theorem pkOne_le (r : UInt8 × Int) : (pkOne r).length ≤ 3 := by unfold pkOne; split <;> simp
theorem pkTake_le {l : List (UInt8 × Int)} (h : goodRs l = true) : ∀ {k : Nat}, k ≤ l.length → (pkOf (l.take k)).length ≤ 3 * k
  | 0, _ => by simp [pkOf]
  | k + 1, hk => by
    rw [pkOf_take (by omega), List.length_append]
    have := pkTake_le h (k := k) (by omega)
    have := pkOne_le l[k]
    omega
/-- the run at the front of an encoding, and what follows it -/
def fstRun : List UInt8 → Option ((UInt8 × Int) × List UInt8)
  | [] => none
  | [a] => some ((a, 1), [])
  | [a, b] => if b = a then none else some ((a, 1), [b])
  | a :: b :: c :: t => if b = a then some ((a, (c.toNat : Int) + 2), t) else some ((a, 1), b :: c :: t)
theorem fstRun_less {s t : List UInt8} {r : UInt8 × Int} (h : fstRun s = some (r, t)) : t.length < s.length := by
  match s, h with
  | [], h => simp [fstRun] at h
  | [a], h => simp [fstRun] at h; obtain ⟨_, rfl⟩ := h; simp
  | [a, b], h =>
    simp only [fstRun] at h
    split at h
    · simp at h
    · simp at h; obtain ⟨_, rfl⟩ := h; simp
  | a :: b :: c :: u, h =>
    simp only [fstRun] at h
    split at h
    · simp at h; obtain ⟨_, rfl⟩ := h; simp; omega
    · simp at h; obtain ⟨_, rfl⟩ := h; simp
theorem fstRun_one {s t : List UInt8} {r : UInt8 × Int} (h : fstRun s = some (r, t)) : 1 ≤ r.2 ∧ r.2 ≤ 257 ∧ pkOne r ++ t = s := by
  match s, h with
  | [], h => simp [fstRun] at h
  | [a], h => simp [fstRun] at h; obtain ⟨rfl, rfl⟩ := h; simp [pkOne]
  | [a, b], h =>
    simp only [fstRun] at h
    split at h
    · simp at h
    · simp at h; obtain ⟨rfl, rfl⟩ := h; simp [pkOne]
  | a :: b :: c :: u, h =>
    simp only [fstRun] at h
    split at h
    · rename_i hb
      simp at h; obtain ⟨rfl, rfl⟩ := h
      have hc := c.toNat_lt
      refine ⟨by show 1 ≤ (c.toNat : Int) + 2; omega, by show (c.toNat : Int) + 2 ≤ 257; omega, ?_⟩
      unfold pkOne
      rw [if_pos (by show 2 ≤ (c.toNat : Int) + 2; omega)]
      show [a, a, UInt8.ofNat ((c.toNat : Int) + 2 - 2).toNat] ++ u = a :: b :: c :: u
      rw [show ((c.toNat : Int) + 2 - 2).toNat = c.toNat by omega, hb]
      simp
    · simp at h; obtain ⟨rfl, rfl⟩ := h; simp [pkOne]
/-- the runs that a text announces, behind those found -/
def unpL (out : List (UInt8 × Int)) (s : List UInt8) : Option (List (UInt8 × Int)) :=
  if s = [] then some out else
  match h : fstRun s with
  | none => none
  | some (r, t) => unpL (out ++ [r]) t
termination_by s.length
decreasing_by exact fstRun_less h
theorem unpL_nil (out : List (UInt8 × Int)) : unpL out [] = some out := by rw [unpL]; simp
theorem unpL_none {out : List (UInt8 × Int)} {s : List UInt8} (h0 : s ≠ []) (h : fstRun s = none) : unpL out s = none := by
  rw [unpL, if_neg h0]
  split
  · rfl
  · rename_i r t e; rw [h] at e; simp at e
theorem unpL_some {out : List (UInt8 × Int)} {s t : List UInt8} {r : UInt8 × Int} (h : fstRun s = some (r, t)) : unpL out s = unpL (out ++ [r]) t := by
  have h0 : s ≠ [] := by rintro rfl; simp [fstRun] at h
  rw [unpL, if_neg h0]
  split
  · rename_i e; rw [h] at e; simp at e
  · rename_i r' t' e
    rw [h] at e
    obtain ⟨rfl, rfl⟩ : r = r' ∧ t = t' := by simpa using e
    rfl
theorem unpL_prefix : ∀ (n : Nat) (out : List (UInt8 × Int)) (s : List UInt8) (l : List (UInt8 × Int)), s.length ≤ n → unpL out s = some l → ∃ m, l = out ++ m := by
  intro n
  induction n with
  | zero =>
    intro out s l hn h
    have : s = [] := List.eq_nil_of_length_eq_zero (by omega)
    subst this
    rw [unpL_nil] at h
    exact ⟨[], by simpa using h.symm⟩
  | succ n ih =>
    intro out s l hn h
    by_cases h0 : s = []
    · subst h0; rw [unpL_nil] at h; exact ⟨[], by simpa using h.symm⟩
    · cases hf : fstRun s with
      | none => rw [unpL_none h0 hf] at h; simp at h
      | some q =>
        obtain ⟨r, t⟩ := q
        rw [unpL_some hf] at h
        obtain ⟨m, rfl⟩ := ih _ t l (by have := fstRun_less hf; omega) h
        exact ⟨[r] ++ m, by simp⟩
/-- the valid runs with a given encoding -/
def unpOf (s : List UInt8) : Option (List (UInt8 × Int)) := (unpL [] s).filter fun l => goodRs l
theorem unpOf_bad {s : List UInt8} {out : List (UInt8 × Int)} {t : List UInt8} (h : unpL out t = unpL [] s) (hb : goodRs out = false) : unpOf s = none := by
  unfold unpOf
  rw [← h]
  cases hl : unpL out t with
  | none => rfl
  | some l =>
    obtain ⟨m, rfl⟩ := unpL_prefix t.length out t l (Nat.le_refl _) hl
    simp [Option.filter, good_not_prefix m hb]
theorem unpOf_fail {s : List UInt8} {out : List (UInt8 × Int)} {t : List UInt8} (h : unpL out t = unpL [] s) (h0 : t ≠ []) (hf : fstRun t = none) : unpOf s = none := by
  unfold unpOf
  rw [← h, unpL_none h0 hf]
  rfl
theorem unpOf_end {s : List UInt8} {out : List (UInt8 × Int)} (h : unpL out [] = unpL [] s) (hg : goodRs out = true) : unpOf s = some out := by
  unfold unpOf
  rw [← h, unpL_nil]
  simp [Option.filter, hg]
/-- what the runs found so far say of the text read -/
theorem unp_pack {s done t : List UInt8} {out : List (UInt8 × Int)} {r : UInt8 × Int} {u : List UInt8} (hs : s = done ++ t) (hp : pkOf out = done) (hf : fstRun t = some (r, u)) : s = (done ++ pkOne r) ++ u ∧ pkOf (out ++ [r]) = done ++ pkOne r := by
  have h3 := (fstRun_one hf).2.2
  exact ⟨by rw [hs, ← h3, List.append_assoc], by rw [pkOf_snoc, hp]⟩
theorem long_many {l : List (UInt8 × Int)} (h : ∀ r ∈ l, 1 ≤ r.2) (hn : 200 < l.length) : goodRs l = false := by
  cases hg : goodRs l with
  | false => rfl
  | true => have := good_sum hg; omega
/-- runs are recovered from their encoding -/
theorem pk_unp : ∀ (l out : List (UInt8 × Int)), (∀ r ∈ l, 1 ≤ r.2 ∧ r.2 ≤ 200) → (∀ k, k + 1 < l.length → (l.getD k (0, 0)).1 ≠ (l.getD (k + 1) (0, 0)).1) → unpL out (pkOf l) = some (out ++ l)
  | [], out, _, _ => by show unpL out [] = _; rw [unpL_nil]; simp
  | r :: l, out, h, hd => by
    have h1 := h r (List.mem_cons_self ..)
    have ih := pk_unp l (out ++ [r]) (fun x hx => h x (List.mem_cons_of_mem _ hx)) fun k hk => by simpa using hd (k + 1) (by simpa using hk)
    have hf : fstRun (pkOf (r :: l)) = some (r, pkOf l) := by
      show fstRun (pkOne r ++ pkOf l) = _
      unfold pkOne
      obtain ⟨b, n⟩ := r
      by_cases h2 : 2 ≤ n
      · rw [if_pos (show 2 ≤ ((b, n) : UInt8 × Int).2 from h2)]
        show (if b = b then some ((b, (((UInt8.ofNat (n - 2).toNat).toNat : Nat) : Int) + 2), pkOf l) else _) = _
        rw [if_pos rfl]
        have h3 : n ≤ 200 := h1.2
        have e : (((UInt8.ofNat (n - 2).toNat).toNat : Nat) : Int) + 2 = n := by rw [UInt8.toNat_ofNat', Nat.mod_eq_of_lt (by omega)]; omega
        rw [e]
      · rw [if_neg (show ¬ 2 ≤ ((b, n) : UInt8 × Int).2 from h2)]
        have h3 : 1 ≤ n := h1.1
        obtain rfl : n = 1 := by omega
        cases l with
        | nil => rfl
        | cons q l =>
          have hne : b ≠ q.1 := by simpa using hd 0 (by simp)
          obtain ⟨u, hu⟩ : ∃ u, pkOf (q :: l) = q.1 :: u := by
            show ∃ u, pkOne q ++ pkOf l = q.1 :: u
            unfold pkOne
            split
            · exact ⟨_, rfl⟩
            · exact ⟨_, rfl⟩
          rw [hu]
          show fstRun (b :: q.1 :: u) = _
          cases u with
          | nil => simp [fstRun, Ne.symm hne]
          | cons c u => simp [fstRun, Ne.symm hne]
    rw [unpL_some hf, ih]
    simp
theorem good_apart {l : List (UInt8 × Int)} (h : goodRs l = true) (k : Nat) (hk : k + 1 < l.length) : (l.getD k (0, 0)).1 ≠ (l.getD (k + 1) (0, 0)).1 := by
  have := ((okRu_iff hk).1 ((goodRs_iff l).1 h (k + 1) hk)).2.2 (by omega)
  rw [show (l.getD (k + 1) (0, 0)) = l[k + 1] by rw [List.getD_eq_getElem?_getD, List.getElem?_eq_getElem hk]; rfl]
  exact fun e => this e.symm
theorem good_upper {l : List (UInt8 × Int)} (h : goodRs l = true) {r : UInt8 × Int} (hr : r ∈ l) : r.2 ≤ 200 := by
  obtain ⟨k, hk, rfl⟩ := List.mem_iff_getElem.1 hr
  have h1 := ((okRu_iff hk).1 ((goodRs_iff l).1 h k hk)).2.1
  have h2 := (good_sumTake h k (by omega)).1
  omega
theorem unpOf_pkOf {l : List (UInt8 × Int)} (h : goodRs l = true) : unpOf (pkOf l) = some l := by
  unfold unpOf
  rw [pk_unp l [] (fun r hr => ⟨good_long h hr, good_upper h hr⟩) (good_apart h)]
  simp [Option.filter, h]
/-- the encoding of the runs found is the text -/
theorem unpL_pack : ∀ (n : Nat) (out : List (UInt8 × Int)) (s : List UInt8) (l : List (UInt8 × Int)), s.length ≤ n → unpL out s = some l → pkOf l = pkOf out ++ s := by
  intro n
  induction n with
  | zero =>
    intro out s l hn h
    have : s = [] := List.eq_nil_of_length_eq_zero (by omega)
    subst this
    rw [unpL_nil] at h
    rw [← Option.some.inj h]; simp
  | succ n ih =>
    intro out s l hn h
    by_cases h0 : s = []
    · subst h0; rw [unpL_nil] at h; rw [← Option.some.inj h]; simp
    · cases hf : fstRun s with
      | none => rw [unpL_none h0 hf] at h; simp at h
      | some q =>
        obtain ⟨r, t⟩ := q
        rw [unpL_some hf] at h
        rw [ih _ t l (by have := fstRun_less hf; omega) h, pkOf_snoc, List.append_assoc, (fstRun_one hf).2.2]
theorem unpOf_spec {s : List UInt8} {l : List (UInt8 × Int)} (h : unpOf s = some l) : goodRs l = true ∧ pkOf l = s := by
  unfold unpOf at h
  cases hl : unpL [] s with
  | none => rw [hl] at h; simp [Option.filter] at h
  | some m =>
    rw [hl] at h
    by_cases hg : goodRs m = true
    · simp [Option.filter, hg] at h
      subst h
      exact ⟨hg, by simpa [pkOf] using unpL_pack s.length [] s m (Nat.le_refl _) hl⟩
    · simp [Option.filter, hg] at h
/-- an encoding is at most half as long again as the text -/
theorem pk_half : ∀ (l : List (UInt8 × Int)), (∀ r ∈ l, 1 ≤ r.2) → (pkOf l).length ≤ (txOf l).length + (txOf l).length / 2
  | [], _ => by simp [pkOf, txOf]
  | r :: l, h => by
    have ih := pk_half l fun x hx => h x (List.mem_cons_of_mem _ hx)
    have h1 := h r (List.mem_cons_self ..)
    show (pkOne r ++ pkOf l).length ≤ (List.replicate r.2.toNat r.1 ++ txOf l).length + (List.replicate r.2.toNat r.1 ++ txOf l).length / 2
    rw [List.length_append, List.length_append, List.length_replicate]
    unfold pkOne
    split
    · rename_i h2
      simp only [List.length_cons, List.length_nil]
      omega
    · simp only [List.length_cons, List.length_nil]
      omega
end G294

/- markText. -/
namespace Go.Proofs.Ytdbgkpmdimapdaa
open Go.RowKit G294

end Go.Proofs.Ytdbgkpmdimapdaa

/- Contracts of the laws' helpers on []string: a copy, equality, marks, marks held, sizes. -/
namespace Go.Proofs.Ytdbgkpmdimapdaa
open Go.RowKit G294

theorem infoStr : (Try.prog.info? 9).map (fun i => (i.zero, i.size, i.bytes)) = some (some (.string ⟨#[]⟩), 1, 16) := by kernel_rfl

end Go.Proofs.Ytdbgkpmdimapdaa

/- The contracts of the products, on bytes. -/
namespace Go.Proofs.Ytdbgkpmdimapdaa
open Go.RowKit G294

end Go.Proofs.Ytdbgkpmdimapdaa
