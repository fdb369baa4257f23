/- Chapter 12: PackRuns, the program's and the model's. -/
import Derived.Test.YtdbgkpmdimapdaaGdRuns
import Derived.Test.YtdbgkpmdimapdaaShrApp
import Derived.Test.YtdbgkpmdimapdaaSameBytes
import Derived.Test.YtdbgkpmdimapdaaBoxes
set_option linter.unusedSimpArgs false
set_option linter.unusedVariables false
namespace G294
open Go Go.RowKit
def pkdR (l : List Ru) : List UInt8 := if goodRs l = true then pkOf l else []
theorem pkdR_yes {l : List Ru} (h : goodRs l = true) : pkdR l = pkOf l := if_pos h
theorem pkdR_no {l : List Ru} (h : goodRs l = false) : pkdR l = [] := if_neg (by rw [h]; decide)
theorem pk_at {l : List Ru} {k : Nat} {no : UInt8} {y : Int} (h : l[k]? = some (no, y)) : pkOf (l.take (k + 1)) = pkOf (l.take k) ++ pkOne (no, y) := by
  obtain ⟨hk, e⟩ := List.getElem?_eq_some_iff.1 h
  rw [pkOf_take hk, e]
theorem good_at {l : List Ru} {k : Nat} {no : UInt8} {y : Int} (hg : goodRs l = true) (h : l[k]? = some (no, y)) : 1 ≤ y ∧ y ≤ 200 := by
  have hm : (no, y) ∈ l := List.mem_of_getElem? h
  exact ⟨good_long hg hm, good_upper hg hm⟩
theorem pk_len {l : List Ru} (hg : goodRs l = true) {k : Nat} (hk : k ≤ l.length) : (pkOf (l.take k)).length ≤ 600 := by
  have h1 := pkTake_le hg hk
  have h2 := good_sum hg
  omega
theorem growTu {w w1 w2 : World} {row : Option Nat} (t : TurnIn 0 0 w w1) (hg : w1.grownBy w2 row) (hr : ∀ g, row = some g → w.heap.size ≤ g) : TurnIn 0 0 w w2 :=
  TurnIn.of_below (t.to_below.grown hg t.size hr)
theorem alloc_ru0 (w : World) (u v : Value) (T : TypeId) : (w.alloc (.cells #[u, v] T)).cell? ⟨w.heap.size, 0, none⟩ = some u := by simp
theorem alloc_ru1 (w : World) (u v : Value) (T : TypeId) : (w.alloc (.cells #[u, v] T)).cell? ⟨w.heap.size, 1, none⟩ = some v := by simp
theorem alloc_ruL (w : World) (o : Obj) : w.heap.size < (w.alloc o).heap.size := by rw [World.size_alloc]; omega
theorem seen_new2 (w : World) (e : TypeId) (a b : UInt8) (x y : Int) (hx : (a.toNat : Int) = x) (hy : (b.toNat : Int) = y) : Seen (w.alloc (.cells #[.int .u8 x, .int .u8 y] e)) (.slice (some ⟨w.heap.size, 0, none⟩) 2 2) (bys [a, b]) := by
  refine ⟨_, 2, rfl, Nat.le_refl _, by unfold maxLen; omega, fun _ => ⟨_, 0, rfl, alloc_ruL _ _, fun i u hu => ?_⟩⟩
  subst hx hy
  match i, hu with
  | 0, hu => simp only [bys, List.map_cons, List.getElem?_cons_zero, Option.some.injEq] at hu; subst hu; simp
  | 1, hu => simp only [bys, List.map_cons, List.getElem?_cons_succ, List.getElem?_cons_zero, Option.some.injEq] at hu; subst hu; simp
end G294
namespace Go.Proofs.Ytdbgkpmdimapdaa
open Go.RowKit G294

set_option maxRecDepth 100000 in
set_option maxHeartbeats 4000000 in
theorem l12Pack_own (v : Value) (l : List Ru) (w : World) (hv : SeenRu w v l) (hg : goodRs l = true) : Calls Try.prog 84 #[v] w (RetStr w (pkOf l)) := by
  have HRB := Lib.hid (fun k no y h => @good_at l k no y hg h)
  have HPL := Lib.hid (fun k h => @pk_len l hg k h)
  clear hg
  obtain ⟨A, c, rfl, hlc, hcm, hx⟩ := hv
  unfold maxLen at hcm
  generalize hnn : l.length = n at *
  have HN := Lib.hid hnn
  have HTA : Hid (pkOf (l.take n) = pkOf l) := by show _ = _; rw [← hnn, List.take_length]
  clear hnn
  have HOW0 : Hid (w.ownsRow w.heap.size 5 1 (.slice none 0 0) (pkOf (l.take 0)).length (bys (pkOf (l.take 0)))) := by
    show World.ownsRow _ _ _ _ _ _ _
    exact World.ownsRow_nil _ _ _ _
  go_enter Try.func84, Try.ntmps84
  go_wp2_with fail
  go_loopw [3, 8] (fun v y wr => ∃ k : Nat, k ≤ n ∧ y = .int .i64 k ∧ Hid (wr.ownsRow w.heap.size 5 1 v (pkOf (l.take k)).length (bys (pkOf (l.take k)))) ∧ Hid (TurnIn 0 0 w wr)) (fun _ y _ => n - (intOf y).toNat)
  case atStart => exact ⟨0, Nat.zero_le _, rfl, HOW0, Lib.hid (TurnIn.refl _)⟩
  case round =>
    clear HOW0
    obtain ⟨k, hk, rfl, HBr, HK⟩ := hrel
    by_cases hlt : k < n
    · have hki : (k : Int) < (n : Int) := by omega
      have hwr := HK.out.size
      obtain ⟨b, off, rfl, hbl, hcell⟩ := hx (by omega)
      obtain ⟨⟨no, y⟩, hks⟩ := at_ltRu HN.out hlt
      have hy := HRB.out k no y hks
      have hpl := HPL.out k hk
      have HPS := Lib.hid (@pk_at l k no y hks)
      have hb := HK.out.to_below
      have hc1 := (hb.cell (p := ⟨b, off + k * 2, none⟩) hbl).trans (hcell k _ hks).1
      have hc2 := (hb.cell (p := ⟨b, off + k * 2 + 1, none⟩) hbl).trans (hcell k _ hks).2
      simp only at hc1 hc2
      clear hcell hx hks hb
      generalize pkOf (l.take k) = P at *
      have HNE := Lib.hid (fun g e => (HBr.out.lt g e).2)
      have HGE := Lib.hid (fun g e => (HBr.out.lt g e).1)
      have HO2 := Lib.hid ((HBr.out.alloc (.cells #[.int .u8 (no.toNat : Int), .int .i64 y] 86)).alloc (.cells #[.int .u8 (no.toNat : Int)] 5))
      have KA := Lib.hid (turn_trans (turn_trans HK.out (turn_alloc wr (.cells #[.int .u8 (no.toNat : Int), .int .i64 y] 86)) (by omega)) (turn_alloc _ (.cells #[.int .u8 (no.toNat : Int)] 5)) (by omega))
      have HC0 : Hid (((wr.alloc (.cells #[.int .u8 (no.toNat : Int), .int .i64 y] 86)).alloc (.cells #[.int .u8 (no.toNat : Int)] 5)).cell? ⟨wr.heap.size, 0, none⟩ = some (.int .u8 (no.toNat : Int))) := Lib.hid (cell_turn (turn_alloc _ _) (alloc_ru0 _ _ _ _) (alloc_ruL _ _))
      have HC1 : Hid (((wr.alloc (.cells #[.int .u8 (no.toNat : Int), .int .i64 y] 86)).alloc (.cells #[.int .u8 (no.toNat : Int)] 5)).cell? ⟨wr.heap.size, 1, none⟩ = some (.int .i64 y)) := Lib.hid (cell_turn (turn_alloc _ _) (alloc_ru1 _ _ _ _) (alloc_ruL _ _))
      clear HBr
      go_wp2_with (at_builtin; refine wpList_append1 rfl _ _ _ rfl w.heap.size 5 _ _ Try.underlying22 infoByte rfl _ P.length _ rfl HO2.out _ (.int .u8 (no.toNat : Int)) rfl ?c1 rfl ?c2 ?c3 ?c4 ?_)
      case c1 => simp
      case c2 => omega
      case c3 => omega
      case c4 => simp; omega
      intro v' w3 hown3 hg3 _
      have K3 := Lib.hid (growTu KA.out hg3 (fun g e => HGE.out g e))
      have d0 : w3.cell? ⟨wr.heap.size, 0, none⟩ = some (.int .u8 (no.toNat : Int)) := hg3.cell HC0.out (fun e => Nat.lt_irrefl _ (HNE.out _ e.symm))
      have d1 : w3.cell? ⟨wr.heap.size, 1, none⟩ = some (.int .i64 y) := hg3.cell HC1.out (fun e => Nat.lt_irrefl _ (HNE.out _ e.symm))
      have HO3 : Hid (w3.ownsRow w.heap.size 5 1 v' (P ++ [no]).length (bys (P ++ [no]))) := by
        show World.ownsRow _ _ _ _ _ _ _
        rw [bys_append, List.length_append]; exact hown3
      have hw3 := K3.out.size
      clear hown3 hg3 HO2 KA HC0 HC1 HNE HGE
      by_cases h2 : 2 ≤ y
      · have h2' : 1 < y := by omega
        have HE : Hid (pkOf (l.take (k + 1)) = P ++ [no] ++ [no, UInt8.ofNat (y - 2).toNat]) := by show _ = _; rw [HPS.out, pkOne, if_pos h2, List.append_assoc]; rfl
        have hcv : ((UInt8.ofNat (y - 2).toNat).toNat : Int) = y - 2 := by rw [UInt8.toNat_ofNat']; omega
        have HS := Lib.hid (seen_new2 w3 5 no (UInt8.ofNat (y - 2).toNat) _ _ rfl hcv)
        have HO4 := Lib.hid (HO3.out.alloc (.cells #[.int .u8 (no.toNat : Int), .int .u8 (y - 2)] 5))
        have K4 := Lib.hid (turn_trans K3.out (turn_alloc w3 (.cells #[.int .u8 (no.toNat : Int), .int .u8 (y - 2)] 5)) (by omega))
        clear hcv
        go_wp2_with (at_builtin; refine wpList_appendB rfl _ _ _ rfl w.heap.size 5 Try.underlying22 infoByte _ _ _ _ rfl HO4.out _ rfl HS.out ?c7 ?c5 ?c6 ?_)
        case c7 => show NilOk (.slice (some ⟨w3.heap.size, 0, none⟩) 2 2); intro c e; cases e
        case c5 => simp; omega
        case c6 => simp; omega
        intro v'' w5 hown5 hg5
        have K5 := Lib.hid (growTu K4.out hg5 (fun g e => (HO4.out.lt g e).1))
        have HO5 : Hid (w5.ownsRow w.heap.size 5 1 v'' (pkOf (l.take (k + 1))).length (bys (pkOf (l.take (k + 1))))) := by
          show World.ownsRow _ _ _ _ _ _ _
          rw [HE.out]; simpa using hown5
        clear hown5 hg5 HO4 K4 HO3
        go_wp2_with fail
        go_roundw
        case rel => exact ⟨k + 1, by omega, by go_num, HO5, K5⟩
        case measure => simp [intOf]; omega
      · have h2' : ¬ 1 < y := by omega
        have HO5 : Hid (w3.ownsRow w.heap.size 5 1 v' (pkOf (l.take (k + 1))).length (bys (pkOf (l.take (k + 1))))) := by
          show World.ownsRow _ _ _ _ _ _ _
          rw [HPS.out, pkOne, if_neg h2]; exact HO3.out
        clear HO3
        go_wp2_with fail
        go_roundw
        case rel => exact ⟨k + 1, by omega, by go_num, HO5, K3⟩
        case measure => simp [intOf]; omega
    · obtain rfl : k = n := by omega
      have hki : ¬ (k : Int) < (k : Int) := by omega
      have hseen := Seen.of_own HBr.out
      obtain ⟨A4, c4, h4⟩ := hseen.len
      rw [bys_length, HTA.out] at h4
      rw [HTA.out] at hseen
      subst h4
      have hconv := run_string_seen (P := Try.prog) 22 5 9 Try.underlying22 Try.underlying5 Try.underlying9 hseen
      clear HBr hseen
      go_wp2_with fail
      go_ret
      exact ⟨rfl, HK.out⟩

set_option maxHeartbeats 1000000 in
theorem sPackRuns_own (v : Value) (l : List Ru) (w : World) (hv : SeenRu w v l) : Calls Try.prog 57 #[v] w (RetStrOk w (pkdR l) (goodRs l)) := by
  have HG := Lib.hid (sGoodRuns_own v l w hv)
  by_cases h : goodRs l = true
  · have HO := Lib.hid h
    have HR := Lib.hid (pkdR_yes h)
    have HV := Lib.hid hv
    rw [HO.out] at HG
    rw [HR.out, HO.out]
    obtain ⟨A, c, rfl⟩ := hv.len
    clear h hv
    go_enter Try.func57, Try.ntmps57
    go_wp2_with fail
    refine HG.out.mono ?_
    rintro e w1 ⟨rfl, k1⟩
    have K1 := Lib.hid k1
    clear k1
    go_wp2_with fail
    refine (l12Pack_own _ l w1 (HV.out.below K1.out.to_below) HO.out).mono ?_
    rintro e w2 ⟨rfl, k2⟩
    have K2 := Lib.hid (turn_trans K1.out k2 (by omega))
    clear k2
    go_wp2_with fail
    go_ret2
    exact ⟨rfl, K2.out⟩
  · have HO : Hid (goodRs l = false) := by show _ = _; simpa using h
    have HR := Lib.hid (pkdR_no HO.out)
    rw [HO.out] at HG
    rw [HR.out, HO.out]
    obtain ⟨A, c, rfl⟩ := hv.len
    clear h hv
    go_enter Try.func57, Try.ntmps57
    go_wp2_with fail
    refine HG.out.mono ?_
    rintro e w1 ⟨rfl, k1⟩
    have K1 := Lib.hid k1
    clear k1
    go_wp2_with fail
    go_ret2
    exact ⟨rfl, K1.out⟩

set_option maxRecDepth 100000 in
set_option maxHeartbeats 4000000 in
theorem packRuns_own (v : Value) (l : List Ru) (w : World) (hv : SeenRu w v l) : Calls Try.prog 41 #[v] w (RetStrOk w (pkdR l) (goodRs l)) := by
  have HG := Lib.hid (goodRuns_own v l w hv)
  by_cases h : goodRs l = true
  · have HO := Lib.hid h
    have HR := Lib.hid (pkdR_yes h)
    rw [HO.out] at HG
    rw [HR.out, HO.out]
    have HRB := Lib.hid (fun k no y h' => @good_at l k no y h h')
    have HPL := Lib.hid (fun k h' => @pk_len l h k h')
    clear h
    obtain ⟨A, c, rfl, hlc, hcm, hx⟩ := hv
    unfold maxLen at hcm
    generalize hnn : l.length = n at *
    have HN := Lib.hid hnn
    have HTA : Hid (pkOf (l.take n) = pkOf l) := by show _ = _; rw [← hnn, List.take_length]
    clear hnn
    go_enter Try.func41, Try.ntmps41
    go_wp2_with fail
    refine HG.out.mono ?_
    rintro e w1 ⟨rfl, k1⟩
    have K1 := Lib.hid k1
    clear k1 HG
    have HOW0 : Hid (w1.ownsRow w.heap.size 5 1 (.slice none 0 0) (pkOf (l.take 0)).length (bys (pkOf (l.take 0)))) := by
      show World.ownsRow _ _ _ _ _ _ _
      exact World.ownsRow_nil _ _ _ _
    go_wp2_with fail
    go_loopw [4, 12] (fun v y wr => ∃ k : Nat, k ≤ n ∧ y = .int .i64 k ∧ Hid (wr.ownsRow w.heap.size 5 1 v (pkOf (l.take k)).length (bys (pkOf (l.take k)))) ∧ Hid (TurnIn 0 0 w wr)) (fun _ y _ => n - (intOf y).toNat)
    case atStart => exact ⟨0, Nat.zero_le _, rfl, HOW0, Lib.hid K1.out⟩
    case round =>
      clear HOW0
      obtain ⟨k, hk, rfl, HBr, HK⟩ := hrel
      by_cases hlt : k < n
      · have hki : (k : Int) < (n : Int) := by omega
        have hwr := HK.out.size
        obtain ⟨b, off, rfl, hbl, hcell⟩ := hx (by omega)
        obtain ⟨⟨no, y⟩, hks⟩ := at_ltRu HN.out hlt
        have hy := HRB.out k no y hks
        have hpl := HPL.out k hk
        have HPS := Lib.hid (@pk_at l k no y hks)
        have hb := HK.out.to_below
        have hc1 := (hb.cell (p := ⟨b, off + k * 2, none⟩) hbl).trans (hcell k _ hks).1
        have hc2 := (hb.cell (p := ⟨b, off + k * 2 + 1, none⟩) hbl).trans (hcell k _ hks).2
        simp only at hc1 hc2
        clear hcell hx hks hb
        generalize pkOf (l.take k) = P at *
        have HNE := Lib.hid (fun g e => (HBr.out.lt g e).2)
        have HGE := Lib.hid (fun g e => (HBr.out.lt g e).1)
        have HO2 := Lib.hid ((HBr.out.alloc (.cells #[.int .u8 (no.toNat : Int), .int .i64 y] 86)).alloc (.cells #[.int .u8 (no.toNat : Int)] 5))
        have KA := Lib.hid (turn_trans (turn_trans HK.out (turn_alloc wr (.cells #[.int .u8 (no.toNat : Int), .int .i64 y] 86)) (by omega)) (turn_alloc _ (.cells #[.int .u8 (no.toNat : Int)] 5)) (by omega))
        have HC0 : Hid (((wr.alloc (.cells #[.int .u8 (no.toNat : Int), .int .i64 y] 86)).alloc (.cells #[.int .u8 (no.toNat : Int)] 5)).cell? ⟨wr.heap.size, 0, none⟩ = some (.int .u8 (no.toNat : Int))) := Lib.hid (cell_turn (turn_alloc _ _) (alloc_ru0 _ _ _ _) (alloc_ruL _ _))
        have HC1 : Hid (((wr.alloc (.cells #[.int .u8 (no.toNat : Int), .int .i64 y] 86)).alloc (.cells #[.int .u8 (no.toNat : Int)] 5)).cell? ⟨wr.heap.size, 1, none⟩ = some (.int .i64 y)) := Lib.hid (cell_turn (turn_alloc _ _) (alloc_ru1 _ _ _ _) (alloc_ruL _ _))
        clear HBr
        go_wp2_with (at_builtin; refine wpList_append1 rfl _ _ _ rfl w.heap.size 5 _ _ Try.underlying22 infoByte rfl _ P.length _ rfl HO2.out _ (.int .u8 (no.toNat : Int)) rfl ?c1 rfl ?c2 ?c3 ?c4 ?_)
        case c1 => simp
        case c2 => omega
        case c3 => omega
        case c4 => simp; omega
        intro v' w3 hown3 hg3 _
        have K3 := Lib.hid (growTu KA.out hg3 (fun g e => HGE.out g e))
        have d0 : w3.cell? ⟨wr.heap.size, 0, none⟩ = some (.int .u8 (no.toNat : Int)) := hg3.cell HC0.out (fun e => Nat.lt_irrefl _ (HNE.out _ e.symm))
        have d1 : w3.cell? ⟨wr.heap.size, 1, none⟩ = some (.int .i64 y) := hg3.cell HC1.out (fun e => Nat.lt_irrefl _ (HNE.out _ e.symm))
        have HO3 : Hid (w3.ownsRow w.heap.size 5 1 v' (P ++ [no]).length (bys (P ++ [no]))) := by
          show World.ownsRow _ _ _ _ _ _ _
          rw [bys_append, List.length_append]; exact hown3
        have hw3 := K3.out.size
        clear hown3 hg3 HO2 KA HC0 HC1 HNE HGE
        by_cases h2 : 2 ≤ y
        · have h2' : 1 < y := by omega
          have HE : Hid (pkOf (l.take (k + 1)) = P ++ [no] ++ [no, UInt8.ofNat (y - 2).toNat]) := by show _ = _; rw [HPS.out, pkOne, if_pos h2, List.append_assoc]; rfl
          have hcv : ((UInt8.ofNat (y - 2).toNat).toNat : Int) = y - 2 := by rw [UInt8.toNat_ofNat']; omega
          have HS := Lib.hid (seen_new2 w3 5 no (UInt8.ofNat (y - 2).toNat) _ _ rfl hcv)
          have HO4 := Lib.hid (HO3.out.alloc (.cells #[.int .u8 (no.toNat : Int), .int .u8 (y - 2)] 5))
          have K4 := Lib.hid (turn_trans K3.out (turn_alloc w3 (.cells #[.int .u8 (no.toNat : Int), .int .u8 (y - 2)] 5)) (by omega))
          clear hcv
          go_wp2_with (at_builtin; refine wpList_appendB rfl _ _ _ rfl w.heap.size 5 Try.underlying22 infoByte _ _ _ _ rfl HO4.out _ rfl HS.out ?c7 ?c5 ?c6 ?_)
          case c7 => show NilOk (.slice (some ⟨w3.heap.size, 0, none⟩) 2 2); intro c e; cases e
          case c5 => simp; omega
          case c6 => simp; omega
          intro v'' w5 hown5 hg5
          have K5 := Lib.hid (growTu K4.out hg5 (fun g e => (HO4.out.lt g e).1))
          have HO5 : Hid (w5.ownsRow w.heap.size 5 1 v'' (pkOf (l.take (k + 1))).length (bys (pkOf (l.take (k + 1))))) := by
            show World.ownsRow _ _ _ _ _ _ _
            rw [HE.out]; simpa using hown5
          clear hown5 hg5 HO4 K4 HO3
          go_wp2_with fail
          go_roundw
          case rel => exact ⟨k + 1, by omega, by go_num, HO5, K5⟩
          case measure => simp [intOf]; omega
        · have h2' : ¬ 1 < y := by omega
          have HO5 : Hid (w3.ownsRow w.heap.size 5 1 v' (pkOf (l.take (k + 1))).length (bys (pkOf (l.take (k + 1))))) := by
            show World.ownsRow _ _ _ _ _ _ _
            rw [HPS.out, pkOne, if_neg h2]; exact HO3.out
          clear HO3
          go_wp2_with fail
          go_roundw
          case rel => exact ⟨k + 1, by omega, by go_num, HO5, K3⟩
          case measure => simp [intOf]; omega
      · obtain rfl : k = n := by omega
        have hki : ¬ (k : Int) < (k : Int) := by omega
        have hseen := Seen.of_own HBr.out
        obtain ⟨A4, c4, h4⟩ := hseen.len
        rw [bys_length, HTA.out] at h4
        rw [HTA.out] at hseen
        subst h4
        have hconv := run_string_seen (P := Try.prog) 22 5 9 Try.underlying22 Try.underlying5 Try.underlying9 hseen
        clear HBr hseen
        go_wp2_with fail
        go_ret2
        exact ⟨rfl, HK.out⟩
  · have HO : Hid (goodRs l = false) := by show _ = _; simpa using h
    have HR := Lib.hid (pkdR_no HO.out)
    rw [HO.out] at HG
    rw [HR.out, HO.out]
    obtain ⟨A, c, rfl⟩ := hv.len
    clear h hv
    go_enter Try.func41, Try.ntmps41
    go_wp2_with fail
    refine HG.out.mono ?_
    rintro e w1 ⟨rfl, k1⟩
    have K1 := Lib.hid k1
    clear k1
    go_wp2_with fail
    go_ret2
    exact ⟨rfl, K1.out⟩

end Go.Proofs.Ytdbgkpmdimapdaa
