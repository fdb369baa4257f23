/- Chapter 12: TextOf, the program's and the model's. -/
import Derived.Test.YtdbgkpmdimapdaaRepX
import Derived.Test.YtdbgkpmdimapdaaPkdX
set_option linter.unusedSimpArgs false
set_option linter.unusedVariables false
namespace G294
open Go Go.RowKit
def txtR (l : List Ru) : List UInt8 := if goodRs l = true then txOf l else []
theorem txtR_yes {l : List Ru} (h : goodRs l = true) : txtR l = txOf l := if_pos h
theorem txtR_no {l : List Ru} (h : goodRs l = false) : txtR l = [] := if_neg (by rw [h]; decide)
theorem tx_at {l : List Ru} {k : Nat} {no : UInt8} {y : Int} (h : l[k]? = some (no, y)) : txOf (l.take (k + 1)) = txOf (l.take k) ++ List.replicate y.toNat no := by
  obtain ⟨hk, e⟩ := List.getElem?_eq_some_iff.1 h
  rw [txOf_take hk, e]
theorem own_apart {N B : Nat} {v v' : Value} (h : ∀ g, v.ownBlock = some g → g ≠ B) (hv : v'.ownBlock = v.ownBlock ∨ v'.ownBlock = some N) (hB : B < N) : ∀ g, v'.ownBlock = some g → g ≠ B := by
  intro g e
  rcases hv with hv | hv
  · exact h g (hv.symm.trans e)
  · rw [hv] at e
    cases e
    omega
end G294
namespace Go.Proofs.Ytdbgkpmdimapdaa
open Go.RowKit G294

set_option maxRecDepth 100000 in
set_option maxHeartbeats 2000000 in
theorem textOf_own (v : Value) (l : List Ru) (w : World) (hv : SeenRu w v l) : Calls Try.prog 40 #[v] w (RetStrOk w (txtR l) (goodRs l)) := by
  have HG := Lib.hid (goodRuns_own v l w hv)
  by_cases h : goodRs l = true
  · have HO := Lib.hid h
    have HR := Lib.hid (txtR_yes h)
    rw [HO.out] at HG
    rw [HR.out, HO.out]
    have HRB := Lib.hid (fun k no y h' => @good_at l k no y h h')
    have HPL := Lib.hid (fun k h' => @txTake_le l h k h')
    clear h
    obtain ⟨A, c, rfl, hlc, hcm, hx⟩ := hv
    unfold maxLen at hcm
    generalize hnn : l.length = n at *
    have HN := Lib.hid hnn
    have HTA : Hid (txOf (l.take n) = txOf l) := by show _ = _; rw [← hnn, List.take_length]
    clear hnn
    go_enter Try.func40, Try.ntmps40
    go_wp2_with fail
    refine HG.out.mono ?_
    rintro e w1 ⟨rfl, k1⟩
    have K1 := Lib.hid k1
    clear k1 HG
    have HOW0 : Hid (w1.ownsRow w.heap.size 5 1 (.slice none 0 0) (txOf (l.take 0)).length (bys (txOf (l.take 0)))) := by
      show World.ownsRow _ _ _ _ _ _ _
      exact World.ownsRow_nil _ _ _ _
    go_wp2_with fail
    go_loopw [4, 12] (fun v y wr => ∃ k : Nat, k ≤ n ∧ y = .int .i64 k ∧ Hid (wr.ownsRow w.heap.size 5 1 v (txOf (l.take k)).length (bys (txOf (l.take k)))) ∧ Hid (TurnIn 0 0 w wr)) (fun _ y _ => n - (intOf y).toNat)
    case atStart => exact ⟨0, Nat.zero_le _, rfl, HOW0, Lib.hid K1.out⟩
    case round =>
      clear HOW0
      obtain ⟨k, hk, rfl, HBr, HK⟩ := hrel
      by_cases hlt : k < n
      · have hki : (k : Int) < (n : Int) := by omega
        have hwr := HK.out.size
        obtain ⟨b, off, rfl, hbl, hcell⟩ := hx (by omega)
        obtain ⟨⟨no, y⟩, hks⟩ := at_ltRu HN.out hlt
        have hy := HRB.out k no y hks
        have hpl := HPL.out k hk
        have HPS := Lib.hid (@tx_at l k no y hks)
        have hb := HK.out.to_below
        have hc1 := (hb.cell (p := ⟨b, off + k * 2, none⟩) hbl).trans (hcell k _ hks).1
        have hc2 := (hb.cell (p := ⟨b, off + k * 2 + 1, none⟩) hbl).trans (hcell k _ hks).2
        simp only at hc1 hc2
        clear hcell hx hks hb
        generalize txOf (l.take k) = P at *
        obtain ⟨Y, rfl⟩ : ∃ Y : Nat, y = Y := ⟨y.toNat, by omega⟩
        have hY : 1 ≤ Y ∧ Y ≤ 200 := by omega
        have HY := Lib.hid hY
        have HO2 := Lib.hid ((HBr.out.alloc (.cells #[.int .u8 (no.toNat : Int), .int .i64 (Y : Int)] 86)).alloc (.cells #[.int .u8 (no.toNat : Int)] 5))
        have KA := Lib.hid (turn_trans (turn_trans HK.out (turn_alloc wr (.cells #[.int .u8 (no.toNat : Int), .int .i64 (Y : Int)] 86)) (by omega)) (turn_alloc _ (.cells #[.int .u8 (no.toNat : Int)] 5)) (by omega))
        have HRP := Lib.hid (repeat_own (wr.heap.size + 1) Y no ((wr.alloc (.cells #[.int .u8 (no.toNat : Int), .int .i64 (Y : Int)] 86)).alloc (.cells #[.int .u8 (no.toNat : Int)] 5)) (by simp) (by simp) hY.1 hY.2)
        clear HBr
        go_wp2_with fail
        refine HRP.out.mono ?_
        rintro e w3 ⟨v3, rfl, ⟨B3, hv3⟩, hs3, k3⟩
        have HO3 := Lib.hid (owns_turn0 HO2.out k3)
        have K3 := Lib.hid (turn_trans KA.out k3 (by omega))
        have HS3 := Lib.hid hs3
        have hw3 := K3.out.size
        subst hv3
        clear k3 hs3 HO2 KA HRP
        go_wp2_with (at_builtin; refine wpList_appendB rfl _ _ _ rfl w.heap.size 5 Try.underlying22 infoByte _ _ _ _ rfl HO3.out _ rfl HS3.out ?c7 ?c5 ?c6 ?_)
        case c7 => intro c e; cases e
        case c5 => have := HY.out; simp; omega
        case c6 => omega
        intro v4 w4 hown4 hg4
        have K4 := Lib.hid (growTu K3.out hg4 (fun g e => (HO3.out.lt g e).1))
        have HO4 : Hid (w4.ownsRow w.heap.size 5 1 v4 (txOf (l.take (k + 1))).length (bys (txOf (l.take (k + 1))))) := by
          show World.ownsRow _ _ _ _ _ _ _
          rw [HPS.out]; simpa using hown4
        clear hown4 hg4 HO3 K3 HS3
        go_wp2_with fail
        go_roundw
        case rel => exact ⟨k + 1, by omega, by go_num, HO4, K4⟩
        case measure => simp [intOf]; omega
      · obtain rfl : k = n := by omega
        have hki : ¬ (k : Int) < (k : Int) := by omega
        have hseen := Seen.of_own HBr.out
        obtain ⟨A4, c4, h4⟩ := hseen.len
        rw [bys_length, HTA.out] at h4
        rw [HTA.out] at hseen
        subst h4
        have hconv := run_string_seen (P := Try.prog) 22 5 9 Try.underlying22 Try.underlying5 Try.underlying9 hseen
        clear HBr hseen
        go_wp2_with fail
        go_ret2
        exact ⟨rfl, HK.out⟩
  · have HO : Hid (goodRs l = false) := by show _ = _; simpa using h
    have HR := Lib.hid (txtR_no HO.out)
    rw [HO.out] at HG
    rw [HR.out, HO.out]
    obtain ⟨A, c, rfl⟩ := hv.len
    clear h hv
    go_enter Try.func40, Try.ntmps40
    go_wp2_with fail
    refine HG.out.mono ?_
    rintro e w1 ⟨rfl, k1⟩
    have K1 := Lib.hid k1
    clear k1
    go_wp2_with fail
    go_ret2
    exact ⟨rfl, K1.out⟩

set_option maxRecDepth 100000 in
set_option maxHeartbeats 2000000 in
theorem sTextOf_own (v : Value) (l : List Ru) (w : World) (hv : SeenRu w v l) : Calls Try.prog 54 #[v] w (RetStrOk w (txtR l) (goodRs l)) := by
  have HG := Lib.hid (sGoodRuns_own v l w hv)
  by_cases h : goodRs l = true
  · have HO := Lib.hid h
    have HR := Lib.hid (txtR_yes h)
    rw [HO.out] at HG
    rw [HR.out, HO.out]
    have HRB := Lib.hid (fun k no y h' => @good_at l k no y h h')
    have HPL := Lib.hid (fun k h' => @txTake_le l h k h')
    clear h
    obtain ⟨A, c, rfl, hlc, hcm, hx⟩ := hv
    unfold maxLen at hcm
    generalize hnn : l.length = n at *
    have HN := Lib.hid hnn
    have HTA : Hid (txOf (l.take n) = txOf l) := by show _ = _; rw [← hnn, List.take_length]
    clear hnn
    go_enter Try.func54, Try.ntmps54
    go_wp2_with fail
    refine HG.out.mono ?_
    rintro e w1 ⟨rfl, k1⟩
    have K1 := Lib.hid k1
    clear k1 HG
    have HOW0 : Hid (w1.ownsRow w.heap.size 5 1 (.slice none 0 0) (txOf (l.take 0)).length (bys (txOf (l.take 0)))) := by
      show World.ownsRow _ _ _ _ _ _ _
      exact World.ownsRow_nil _ _ _ _
    go_wp2_with fail
    go_loopw [4, 13] (fun v y wr => ∃ k : Nat, k ≤ n ∧ y = .int .i64 k ∧ Hid (wr.ownsRow w.heap.size 5 1 v (txOf (l.take k)).length (bys (txOf (l.take k)))) ∧ Hid (TurnIn 0 0 w wr)) (fun _ y _ => n - (intOf y).toNat)
    case atStart => exact ⟨0, Nat.zero_le _, rfl, HOW0, Lib.hid K1.out⟩
    case round =>
      clear HOW0
      obtain ⟨k, hk, rfl, HBr, HK⟩ := hrel
      by_cases hlt : k < n
      · have hki : (k : Int) < (n : Int) := by omega
        have hwr := HK.out.size
        obtain ⟨b, off, rfl, hbl, hcell⟩ := hx (by omega)
        obtain ⟨⟨no, y⟩, hks⟩ := at_ltRu HN.out hlt
        have hy := HRB.out k no y hks
        have hpl := HPL.out k hk
        have HPS := Lib.hid (@tx_at l k no y hks)
        have hb := HK.out.to_below
        have hc1 := (hb.cell (p := ⟨b, off + k * 2, none⟩) hbl).trans (hcell k _ hks).1
        have hc2 := (hb.cell (p := ⟨b, off + k * 2 + 1, none⟩) hbl).trans (hcell k _ hks).2
        simp only at hc1 hc2
        clear hcell hx hks hb
        generalize txOf (l.take k) = P at *
        obtain ⟨Y, rfl⟩ : ∃ Y : Nat, y = Y := ⟨y.toNat, by omega⟩
        have hY : 1 ≤ Y ∧ Y ≤ 200 := by omega
        have HNE : Hid (∀ g, u4.ownBlock = some g → g ≠ wr.heap.size) := Lib.hid (fun g e => Nat.ne_of_lt (HBr.out.lt g e).2)
        have HOS : Hid (World.ownsRow (wr.alloc (.cells #[.int .u8 (no.toNat : Int), .int .i64 (Y : Int)] 86)) w.heap.size 5 1 u4 (P ++ List.replicate 0 no).length (bys (P ++ List.replicate 0 no))) := by
          show World.ownsRow _ _ _ _ _ _ _
          rw [List.replicate_zero, List.append_nil]
          exact HBr.out.alloc _
        have HKS := Lib.hid (turn_trans HK.out (turn_alloc wr (.cells #[.int .u8 (no.toNat : Int), .int .i64 (Y : Int)] 86)) (by omega))
        have HC0 := Lib.hid (alloc_ru0 wr (.int .u8 (no.toNat : Int)) (.int .i64 (Y : Int)) 86)
        have HC1 := Lib.hid (alloc_ru1 wr (.int .u8 (no.toNat : Int)) (.int .i64 (Y : Int)) 86)
        have HL := Lib.hid (alloc_ruL wr (.cells #[.int .u8 (no.toNat : Int), .int .i64 (Y : Int)] 86))
        clear HBr HK
        go_wp2_with fail
        generalize wr.alloc (.cells #[.int .u8 (no.toNat : Int), .int .i64 (Y : Int)] 86) = wa at *
        generalize wr.heap.size = B at *
        go_loopw [4, 7] (fun v q W => ∃ j : Nat, j ≤ Y ∧ q = .int .i64 j ∧ Hid (W.ownsRow w.heap.size 5 1 v (P ++ List.replicate j no).length (bys (P ++ List.replicate j no))) ∧ W.cell? ⟨B, 0, none⟩ = some (.int .u8 (no.toNat : Int)) ∧ W.cell? ⟨B, 1, none⟩ = some (.int .i64 (Y : Int)) ∧ B < W.heap.size ∧ Hid (∀ g, v.ownBlock = some g → g ≠ B) ∧ Hid (TurnIn 0 0 w W)) (fun _ q _ => Y - (intOf q).toNat)
        case atStart => exact ⟨0, Nat.zero_le _, rfl, HOS, HC0.out, HC1.out, HL.out, HNE, HKS⟩
        case round =>
          clear HOS HKS HC0 HC1 HL HNE
          obtain ⟨j, hj, rfl, HBj, d0, d1, hBW, HNE, HK⟩ := hrel
          have hWw := HK.out.size
          by_cases hjY : j < Y
          · have hji : (j : Int) < (Y : Int) := by omega
            rename_i W _
            have HO2 := Lib.hid (HBj.out.alloc (.cells #[.int .u8 (no.toNat : Int)] 5))
            have KA := Lib.hid (turn_trans HK.out (turn_alloc _ (.cells #[.int .u8 (no.toNat : Int)] 5)) (by omega))
            have E0 := Lib.hid (fun o => cell_turn (turn_alloc _ o) d0 hBW)
            have E1 := Lib.hid (fun o => cell_turn (turn_alloc _ o) d1 hBW)
            have HLE : Hid ((P ++ List.replicate j no).length = P.length + j) := by show _ = _; simp
            clear HBj
            go_wp2_with (at_builtin; refine wpList_append1 rfl _ _ _ rfl w.heap.size 5 _ _ Try.underlying22 infoByte rfl _ (P ++ List.replicate j no).length _ rfl HO2.out _ (.int .u8 (no.toNat : Int)) rfl ?c1 rfl ?c2 ?c3 ?c4 ?_)
            case c1 => simp
            case c2 => have := HLE.out; omega
            case c3 => omega
            case c4 => simp; omega
            intro v' w3 hown3 hg3 hv3
            have K3 := Lib.hid (growTu KA.out hg3 (fun g e => (HO2.out.lt g e).1))
            have f0 := hg3.cell (E0.out _) (fun e => HNE.out _ e.symm rfl)
            have f1 := hg3.cell (E1.out _) (fun e => HNE.out _ e.symm rfl)
            have HO3 : Hid (w3.ownsRow w.heap.size 5 1 v' (P ++ List.replicate (j + 1) no).length (bys (P ++ List.replicate (j + 1) no))) := by
              show World.ownsRow _ _ _ _ _ _ _
              have e : P ++ List.replicate (j + 1) no = (P ++ List.replicate j no) ++ [no] := by rw [List.replicate_succ', List.append_assoc]
              have e2 : (P ++ List.replicate (j + 1) no).length = P.length + j + 1 := by simp; omega
              rw [e2, e, bys_append]; exact hown3
            have HNE3 : Hid (∀ g, v'.ownBlock = some g → g ≠ B) := Lib.hid (own_apart HNE.out hv3 (by omega))
            have hB3 : B < w3.heap.size := by have := hg3.size; rw [World.size_alloc] at this; omega
            clear hown3 hg3 HO2 KA E0 E1 hv3
            go_wp2_with fail
            go_roundw
            case rel => exact ⟨j + 1, by omega, by go_num, HO3, f0, f1, hB3, HNE3, K3⟩
            case measure => simp [intOf]; omega
          · obtain rfl : j = Y := by omega
            have hji : ¬ (j : Int) < (j : Int) := by omega
            have hyt : ((j : Nat) : Int).toNat = j := Int.toNat_natCast j
            rw [hyt] at HPS
            rw [← HPS.out] at HBj
            go_wp2_with fail
            go_roundw
            case rel => exact ⟨k + 1, by omega, by go_num, HBj, HK⟩
            case measure => simp [intOf]; omega
      · obtain rfl : k = n := by omega
        have hki : ¬ (k : Int) < (k : Int) := by omega
        have hseen := Seen.of_own HBr.out
        obtain ⟨A4, c4, h4⟩ := hseen.len
        rw [bys_length, HTA.out] at h4
        rw [HTA.out] at hseen
        subst h4
        have hconv := run_string_seen (P := Try.prog) 22 5 9 Try.underlying22 Try.underlying5 Try.underlying9 hseen
        clear HBr hseen
        go_wp2_with fail
        go_ret2
        exact ⟨rfl, HK.out⟩
  · have HO : Hid (goodRs l = false) := by show _ = _; simpa using h
    have HR := Lib.hid (txtR_no HO.out)
    rw [HO.out] at HG
    rw [HR.out, HO.out]
    obtain ⟨A, c, rfl⟩ := hv.len
    clear h hv
    go_enter Try.func54, Try.ntmps54
    go_wp2_with fail
    refine HG.out.mono ?_
    rintro e w1 ⟨rfl, k1⟩
    have K1 := Lib.hid k1
    clear k1
    go_wp2_with fail
    go_ret2
    exact ⟨rfl, K1.out⟩

end Go.Proofs.Ytdbgkpmdimapdaa
