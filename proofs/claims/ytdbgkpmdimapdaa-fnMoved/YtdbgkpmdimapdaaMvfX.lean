/- Chapter 12: MoveFront and MoveBack, the program's. -/
import Derived.Test.YtdbgkpmdimapdaaRecX
import Derived.Test.YtdbgkpmdimapdaaTailHeld
import Derived.Test.YtdbgkpmdimapdaaBytesOwn
import Derived.Test.YtdbgkpmdimapdaaSameBytes
set_option linter.unusedSimpArgs false
set_option linter.unusedVariables false
namespace G294
open Go Go.RowKit
def mvfR (s : List UInt8) : List UInt8 := if mvdOk s = true then moved s else []
theorem mvfR_yes {s : List UInt8} (h : mvdOk s = true) : mvfR s = moved s := if_pos h
theorem mvfR_no {s : List UInt8} (h : mvdOk s = false) : mvfR s = [] := if_neg (by rw [h]; decide)
theorem mvfR_len (s : List UInt8) : (mvfR s).length ≤ 200 := by
  by_cases h : mvdOk s = true
  · rw [mvfR_yes h, moved, mfR_length]
    simpa [mvdOk, mvdB] using h
  · rw [mvfR_no (by simpa using h)]; simp
def mvbR (l : List UInt8) : List UInt8 := if mvdOk l = true then unmoved l else []
theorem mvbR_yes {s : List UInt8} (h : mvdOk s = true) : mvbR s = unmoved s := if_pos h
theorem mvbR_no {s : List UInt8} (h : mvdOk s = false) : mvbR s = [] := if_neg (by rw [h]; decide)
/-- the row of results behind k rounds -/
def mkd (l : List UInt8) (n : Nat) : List UInt8 := l ++ List.replicate (n - l.length) 0
theorem mkd_length {l : List UInt8} {n : Nat} (h : l.length ≤ n) : (mkd l n).length = n := by simp [mkd]; omega
theorem mkd_next {l : List UInt8} {n k : Nat} (hl : l.length = k) (h : k < n) (x : UInt8) : (bys (mkd l n)).set k (.int .u8 (x.toNat : Int)) = bys (mkd (l ++ [x]) n) := by
  subst hl
  have e : List.replicate (n - l.length) (0 : UInt8) = 0 :: List.replicate (n - (l.length + 1)) 0 := by rw [← List.replicate_succ]; congr 1; omega
  unfold mkd
  rw [e, bys_append, bys_append, bys_append, List.set_append_right _ _ (by simp)]
  simp [bys]
theorem mkd_at {l : List UInt8} {n k : Nat} (hl : l.length = k) (h : k < n) : (bys (mkd l n))[k]? = some (.int .u8 0) := by
  subst hl
  have e : List.replicate (n - l.length) (0 : UInt8) = 0 :: List.replicate (n - (l.length + 1)) 0 := by rw [← List.replicate_succ]; congr 1; omega
  unfold mkd
  rw [e, bys_append, List.getElem?_append_right (by simp)]
  simp [bys]
theorem mkd_zero (n : Nat) : mkd [] n = List.replicate n 0 := by simp [mkd]
theorem mkd_full {l : List UInt8} {n : Nat} (h : l.length = n) : mkd l n = l := by simp [mkd, h]
theorem bys_rep0 (n : Nat) : bys (List.replicate n 0) = List.replicate n (.int .u8 0) := by simp [bys]
theorem turn_setM {w w1 : World} (k : TurnIn 0 0 w w1) {g i : Nat} (x : Value) (h : w.heap.size ≤ g) : TurnIn 0 0 w (w1.setCell ⟨g, i, none⟩ x) := TurnIn.of_below (k.to_below.setCell (p := ⟨g, i, none⟩) h x)
end G294
namespace Go.Proofs.Ytdbgkpmdimapdaa
open Go.RowKit G294

theorem recShape (r : Rec) : (tyR r = 77 ∧ ixF r = 144 ∧ atF r = 143) ∨ (tyR r = 101 ∧ ixF r = 146 ∧ atF r = 145) := by
  cases r with
  | inc => exact Or.inl ⟨rfl, rfl, rfl⟩
  | mv f k r => exact Or.inr ⟨rfl, rfl, rfl⟩

set_option maxRecDepth 100000 in
set_option maxHeartbeats 4000000 in
theorem moveFront_own (s : List UInt8) (w : World) (hs : s.length ≤ 1000000000000) : Calls Try.prog 29 #[.string (str s)] w (RetBytesOk 5 w (mvfR s) (mvdOk s)) := by
  obtain ⟨i0, hi0, hz0, hz1, hz2⟩ := info_parts infoByte
  have hsz : (str s).size = s.length := str_size s
  have HG := Lib.hid (fun W => goodMoved_any s.length W)
  by_cases h : s.length ≤ 200
  · have HB : Hid (mvdB s.length = true) := by show _ = _; simp [mvdB, h]
    have HO : Hid (mvdOk s = true) := HB.out
    have HR := Lib.hid (mvfR_yes HO.out)
    rw [HR.out, HO.out]
    have HSG := Lib.hid (fun k h => str_get s k h)
    have HMT := Lib.hid (fun k (h : k < s.length) => (moved_take h).trans (by rw [← getD_at (d := (0 : UInt8)) h]))
    have HLT := Lib.hid (fun k (h : k < s.length) => (last_take h).trans (by rw [← getD_at (d := (0 : UInt8)) h]))
    have HMN := Lib.hid (fun k (h : k ≤ s.length) => show (moved (s.take k)).length = k by simp [moved]; omega)
    have HTA : Hid (moved (s.take s.length) = moved s) := by show _ = _; rw [List.take_length]
    have HMA : Hid ((moved s).length = s.length) := by show _ = _; simp [moved]
    generalize s.length = n at *
    go_enter Try.func29, Try.ntmps29
    go_wp2_with fail
    refine (HG.out _).mono ?_
    rintro e w' ⟨rfl, rfl⟩
    rw [HB.out]
    go_wp2_with (at_make; refine wpList_make_full _ rfl _ _ _ rfl w.heap.size _ i0 _ 1 Try.underlying22 hi0 hz0 hz1 _ _ _ _ n rfl rfl rfl rfl ?b2 ?b3 ?b4 ?_)
    case b2 => rw [hz2]; omega
    case b3 => unfold maxLen; omega
    case b4 => exact Nat.le_refl _
    intro w1 hown1 hg1
    have hb1 : Below w.heap.size w w1 := below_of_grown hg1 (Nat.le_refl _) (by simp)
    have HOW1 : Hid (w1.ownsRow w.heap.size 5 1 (.slice (some ⟨w.heap.size, 0, none⟩) n n) n (bys (mkd (moved (s.take 0)) n))) := by
      show World.ownsRow _ _ _ _ _ _ _
      rw [toList_madeCells_one] at hown1
      have e : moved (s.take 0) = [] := rfl
      rw [e, mkd_zero, bys_rep0]; exact hown1
    have HK1 := Lib.hid (TurnIn.of_below hb1)
    have HL0 : Hid (Value.iface 77 (.agg #[]) = .iface (tyR (lastR .inc (s.take 0))) (payR (lastR .inc (s.take 0)))) := Lib.hid rfl
    clear hown1 hg1 hb1
    go_wp2_with fail
    go_loopw [5, 18] (fun q y wr => ∃ k : Nat, k ≤ n ∧ y = .int .i64 k ∧ q = .iface (tyR (lastR .inc (s.take k))) (payR (lastR .inc (s.take k))) ∧ Hid (wr.ownsRow w.heap.size 5 1 (.slice (some ⟨w.heap.size, 0, none⟩) n n) n (bys (mkd (moved (s.take k)) n))) ∧ Hid (TurnIn 0 0 w wr)) (fun _ y _ => n - (intOf y).toNat)
    case atStart => exact ⟨0, Nat.zero_le _, rfl, HL0.out, HOW1, HK1⟩
    case round =>
      clear HOW1 HK1 HL0
      obtain ⟨k, hk, rfl, rfl, HBr, HK⟩ := hrel
      by_cases hlt : k < n
      · have hki : (k : Int) < (n : Int) := by omega
        have hwr := HK.out.size
        have hgl := (HBr.out.lt w.heap.size rfl).2
        have HML := Lib.hid (HMN.out k hk)
        have HM1 := Lib.hid (HMT.out k hlt)
        have HL1 := Lib.hid (HLT.out k hlt)
        have g1 := HSG.out k (by omega)
        have hcx : wr.cell? ⟨w.heap.size, k, none⟩ = some (.int .u8 0) := by rw [HBr.out.cellAt k (by omega), mkd_at HML.out hlt]
        have hfr := HBr.out.frozenAt k
        generalize s.getD k 0 = c at *
        generalize lastR .inc (s.take k) = r at *
        have HC := Lib.hid (fun b w => ix_own r b w)
        have HW := Lib.hid (fun b w => withFront_own b r w)
        rcases recShape r with ⟨e1, e2, e3⟩ | ⟨e1, e2, e3⟩
        · rw [e1] at HW ⊢
          rw [e2] at HC
          have hm := methIxI
          generalize payR r = p at *
          clear e1 e2 e3
          go_wp2_with fail
          have hS : (fun W : World => W.cell? ⟨w.heap.size, k, none⟩ = some (.int .u8 0)) wr.drew := hcx
          refine wp_region_tail (fun W : World => W.cell? ⟨w.heap.size, k, none⟩ = some (.int .u8 0)) 11 (by kernel_rfl) ?_
          have HT := hS
          refine wpAnyT_take (i := 0) (oi := _) (v := ?vA0) rfl (by kernel_rfl) (by kernel_rfl) (by kernel_rfl) (by kernel_rfl) (fun _ _ _ h => h) (Or.inl ⟨by rfl, ?hyA0⟩) hS ?restA0
          case hyA0 => (intro W hW; obtain e1 := hW; go_simp; try with_reducible rfl)
          simp only [Act.put, List.setIfInBounds_toArray, List.set_cons_zero, List.set_cons_succ]
          refine wpAnyT_take (i := 1) (oi := _) (v := ?vA1) rfl (by kernel_rfl) (by kernel_rfl) (by kernel_rfl) (by kernel_rfl) (fun _ _ _ h => h) (Or.inl ⟨by rfl, ?hyA1⟩) hS ?restA1
          case hyA1 => (intro W hW; obtain e1 := hW; go_simp; try with_reducible rfl)
          simp only [Act.put, List.setIfInBounds_toArray, List.set_cons_zero, List.set_cons_succ]
          refine wpAnyT_take (i := 2) (oi := _) (v := ?vA2) rfl (by kernel_rfl) (by kernel_rfl) (by kernel_rfl) (by kernel_rfl) (fun _ _ _ h => h) (Or.inl ⟨by rfl, ?hyA2⟩) hS ?restA2
          case hyA2 => (intro W hW; obtain e1 := hW; go_simp; try with_reducible rfl)
          simp only [Act.put, List.setIfInBounds_toArray, List.set_cons_zero, List.set_cons_succ]
          refine wpAnyT_take (i := 3) (oi := _) (v := ?vA3) rfl (by kernel_rfl) (by kernel_rfl) (by kernel_rfl) (by kernel_rfl) (fun _ _ _ h => h) (Or.inl ⟨by rfl, ?hyA3⟩) hS ?restA3
          case hyA3 => (intro W hW; obtain e1 := hW; go_simp; try with_reducible rfl)
          simp only [Act.put, List.setIfInBounds_toArray, List.set_cons_zero, List.set_cons_succ]
          refine wpAnyT_take (i := 4) (oi := _) (v := ?vA4) rfl (by kernel_rfl) (by kernel_rfl) (by kernel_rfl) (by kernel_rfl) (fun _ _ _ h => h) (Or.inl ⟨by rfl, ?hyA4⟩) hS ?restA4
          case hyA4 => (intro W hW; obtain e1 := hW; go_simp; try with_reducible rfl)
          simp only [Act.put, List.setIfInBounds_toArray, List.set_cons_zero, List.set_cons_succ]
          refine wpAnyT_take (i := 5) (oi := _) (v := ?vA5) rfl (by kernel_rfl) (by kernel_rfl) (by kernel_rfl) (by kernel_rfl) (fun _ _ _ h => h) (Or.inl ⟨by rfl, ?hyA5⟩) hS ?restA5
          case hyA5 => (intro W hW; obtain e1 := hW; go_simp; try with_reducible rfl)
          simp only [Act.put, List.setIfInBounds_toArray, List.set_cons_zero, List.set_cons_succ]
          clear hS
          refine wpAnyT_one (i := 6) (o := _) rfl (by kernel_rfl) (fun K hK => ?_)
          go_simp
          refine hK.out _ _ (fun h => HT) ?_
          clear hK K
          try simp only [Act.put, List.setIfInBounds_toArray, List.set_cons_zero, List.set_cons_succ]
          refine wpAnyT_one (i := 7) (o := _) rfl (by kernel_rfl) (fun K hK => ?_)
          go_simp
          refine hK.out _ _ (fun h => HT) ?_
          clear hK K
          try simp only [Act.put, List.setIfInBounds_toArray, List.set_cons_zero, List.set_cons_succ]
          refine wpAnyT_one (i := 8) (o := _) rfl (by kernel_rfl) (fun K hK => ?_)
          go_simp
          refine hK.out _ _ (fun h => HT) ?_
          clear hK K
          try simp only [Act.put, List.setIfInBounds_toArray, List.set_cons_zero, List.set_cons_succ]
          refine wpAnyT_one (i := 9) (o := _) rfl (by kernel_rfl) (fun K hK => ?_)
          go_simp
          refine (HC.out _ _).mono ?_
          rintro e w7 ⟨rfl, k7'⟩
          have k7 := undrew k7'
          have t0 := cell_turn k7 hcx (by omega)
          have t4 := frozen_turn k7 hfr (by omega)
          have s7 := k7.size
          replace HT := t0
          refine hK.out _ _ (fun h => HT) ?_
          clear hK K
          try simp only [Act.put, List.setIfInBounds_toArray, List.set_cons_zero, List.set_cons_succ]
          refine wpAnyT_one (i := 10) (o := _) rfl (by kernel_rfl) (fun K hK => ?_)
          go_simp
          refine hK.out _ _ (fun h => HT) ?_
          clear hK K
          try simp only [Act.put, List.setIfInBounds_toArray, List.set_cons_zero, List.set_cons_succ]
          refine wpAnyT_one (i := 11) (o := _) rfl (by kernel_rfl) (fun K hK => ?_)
          go_simp
          refine hK.out _ _ (fun h => absurd rfl h) ?_
          clear hK K
          try simp only [Act.put, List.setIfInBounds_toArray, List.set_cons_zero, List.set_cons_succ]
          refine wpAnyT_done (by kernel_rfl) ?_ _
          have HOW7 := Lib.hid (owns_turn0 HBr.out k7)
          have K7 := Lib.hid (turn_setM (turn_trans HK.out k7 (by omega)) (g := w.heap.size) (i := k) (.int .u8 ((ixOf r c).toNat : Int)) (Nat.le_refl _))
          have HOW8 : Hid ((w7.setCell ⟨w.heap.size, k, none⟩ (.int .u8 ((ixOf r c).toNat : Int))).ownsRow w.heap.size 5 1 (.slice (some ⟨w.heap.size, 0, none⟩) n n) n (bys (mkd (moved (s.take (k + 1))) n))) := by
            show World.ownsRow _ _ _ _ _ _ _
            rw [HM1.out, ← mkd_next HML.out hlt]
            exact (HOW7.out.stored k (.int .u8 ((ixOf r c).toNat : Int))).1
          clear k7 k7' t0 t4 HBr HOW7 HT
          go_wp2_with fail
          refine (HW.out c _).mono ?_
          rintro e w8 ⟨rfl, k8⟩
          have HOW9 := Lib.hid (owns_turn0 HOW8.out k8)
          have K8 := Lib.hid (turn_trans K7.out k8 (by omega))
          clear HOW8 K7 k8
          go_wp2_with fail
          go_roundw
          case rel => exact ⟨k + 1, by omega, by go_num, by rw [HL1.out], HOW9, K8⟩
          case measure => simp [intOf]; omega
        · rw [e1] at HW ⊢
          rw [e2] at HC
          have hm := methIxM
          generalize payR r = p at *
          clear e1 e2 e3
          go_wp2_with fail
          have hS : (fun W : World => W.cell? ⟨w.heap.size, k, none⟩ = some (.int .u8 0)) wr.drew := hcx
          refine wp_region_tail (fun W : World => W.cell? ⟨w.heap.size, k, none⟩ = some (.int .u8 0)) 11 (by kernel_rfl) ?_
          have HT := hS
          refine wpAnyT_take (i := 0) (oi := _) (v := ?vB0) rfl (by kernel_rfl) (by kernel_rfl) (by kernel_rfl) (by kernel_rfl) (fun _ _ _ h => h) (Or.inl ⟨by rfl, ?hyB0⟩) hS ?restB0
          case hyB0 => (intro W hW; obtain e1 := hW; go_simp; try with_reducible rfl)
          simp only [Act.put, List.setIfInBounds_toArray, List.set_cons_zero, List.set_cons_succ]
          refine wpAnyT_take (i := 1) (oi := _) (v := ?vB1) rfl (by kernel_rfl) (by kernel_rfl) (by kernel_rfl) (by kernel_rfl) (fun _ _ _ h => h) (Or.inl ⟨by rfl, ?hyB1⟩) hS ?restB1
          case hyB1 => (intro W hW; obtain e1 := hW; go_simp; try with_reducible rfl)
          simp only [Act.put, List.setIfInBounds_toArray, List.set_cons_zero, List.set_cons_succ]
          refine wpAnyT_take (i := 2) (oi := _) (v := ?vB2) rfl (by kernel_rfl) (by kernel_rfl) (by kernel_rfl) (by kernel_rfl) (fun _ _ _ h => h) (Or.inl ⟨by rfl, ?hyB2⟩) hS ?restB2
          case hyB2 => (intro W hW; obtain e1 := hW; go_simp; try with_reducible rfl)
          simp only [Act.put, List.setIfInBounds_toArray, List.set_cons_zero, List.set_cons_succ]
          refine wpAnyT_take (i := 3) (oi := _) (v := ?vB3) rfl (by kernel_rfl) (by kernel_rfl) (by kernel_rfl) (by kernel_rfl) (fun _ _ _ h => h) (Or.inl ⟨by rfl, ?hyB3⟩) hS ?restB3
          case hyB3 => (intro W hW; obtain e1 := hW; go_simp; try with_reducible rfl)
          simp only [Act.put, List.setIfInBounds_toArray, List.set_cons_zero, List.set_cons_succ]
          refine wpAnyT_take (i := 4) (oi := _) (v := ?vB4) rfl (by kernel_rfl) (by kernel_rfl) (by kernel_rfl) (by kernel_rfl) (fun _ _ _ h => h) (Or.inl ⟨by rfl, ?hyB4⟩) hS ?restB4
          case hyB4 => (intro W hW; obtain e1 := hW; go_simp; try with_reducible rfl)
          simp only [Act.put, List.setIfInBounds_toArray, List.set_cons_zero, List.set_cons_succ]
          refine wpAnyT_take (i := 5) (oi := _) (v := ?vB5) rfl (by kernel_rfl) (by kernel_rfl) (by kernel_rfl) (by kernel_rfl) (fun _ _ _ h => h) (Or.inl ⟨by rfl, ?hyB5⟩) hS ?restB5
          case hyB5 => (intro W hW; obtain e1 := hW; go_simp; try with_reducible rfl)
          simp only [Act.put, List.setIfInBounds_toArray, List.set_cons_zero, List.set_cons_succ]
          clear hS
          refine wpAnyT_one (i := 6) (o := _) rfl (by kernel_rfl) (fun K hK => ?_)
          go_simp
          refine hK.out _ _ (fun h => HT) ?_
          clear hK K
          try simp only [Act.put, List.setIfInBounds_toArray, List.set_cons_zero, List.set_cons_succ]
          refine wpAnyT_one (i := 7) (o := _) rfl (by kernel_rfl) (fun K hK => ?_)
          go_simp
          refine hK.out _ _ (fun h => HT) ?_
          clear hK K
          try simp only [Act.put, List.setIfInBounds_toArray, List.set_cons_zero, List.set_cons_succ]
          refine wpAnyT_one (i := 8) (o := _) rfl (by kernel_rfl) (fun K hK => ?_)
          go_simp
          refine hK.out _ _ (fun h => HT) ?_
          clear hK K
          try simp only [Act.put, List.setIfInBounds_toArray, List.set_cons_zero, List.set_cons_succ]
          refine wpAnyT_one (i := 9) (o := _) rfl (by kernel_rfl) (fun K hK => ?_)
          go_simp
          refine (HC.out _ _).mono ?_
          rintro e w7 ⟨rfl, k7'⟩
          have k7 := undrew k7'
          have t0 := cell_turn k7 hcx (by omega)
          have t4 := frozen_turn k7 hfr (by omega)
          have s7 := k7.size
          replace HT := t0
          refine hK.out _ _ (fun h => HT) ?_
          clear hK K
          try simp only [Act.put, List.setIfInBounds_toArray, List.set_cons_zero, List.set_cons_succ]
          refine wpAnyT_one (i := 10) (o := _) rfl (by kernel_rfl) (fun K hK => ?_)
          go_simp
          refine hK.out _ _ (fun h => HT) ?_
          clear hK K
          try simp only [Act.put, List.setIfInBounds_toArray, List.set_cons_zero, List.set_cons_succ]
          refine wpAnyT_one (i := 11) (o := _) rfl (by kernel_rfl) (fun K hK => ?_)
          go_simp
          refine hK.out _ _ (fun h => absurd rfl h) ?_
          clear hK K
          try simp only [Act.put, List.setIfInBounds_toArray, List.set_cons_zero, List.set_cons_succ]
          refine wpAnyT_done (by kernel_rfl) ?_ _
          have HOW7 := Lib.hid (owns_turn0 HBr.out k7)
          have K7 := Lib.hid (turn_setM (turn_trans HK.out k7 (by omega)) (g := w.heap.size) (i := k) (.int .u8 ((ixOf r c).toNat : Int)) (Nat.le_refl _))
          have HOW8 : Hid ((w7.setCell ⟨w.heap.size, k, none⟩ (.int .u8 ((ixOf r c).toNat : Int))).ownsRow w.heap.size 5 1 (.slice (some ⟨w.heap.size, 0, none⟩) n n) n (bys (mkd (moved (s.take (k + 1))) n))) := by
            show World.ownsRow _ _ _ _ _ _ _
            rw [HM1.out, ← mkd_next HML.out hlt]
            exact (HOW7.out.stored k (.int .u8 ((ixOf r c).toNat : Int))).1
          clear k7 k7' t0 t4 HBr HOW7 HT
          go_wp2_with fail
          refine (HW.out c _).mono ?_
          rintro e w8 ⟨rfl, k8⟩
          have HOW9 := Lib.hid (owns_turn0 HOW8.out k8)
          have K8 := Lib.hid (turn_trans K7.out k8 (by omega))
          clear HOW8 K7 k8
          go_wp2_with fail
          go_roundw
          case rel => exact ⟨k + 1, by omega, by go_num, by rw [HL1.out], HOW9, K8⟩
          case measure => simp [intOf]; omega
      · obtain rfl : k = n := by omega
        have hki : ¬ (k : Int) < (k : Int) := by omega
        rw [HTA.out, mkd_full HMA.out] at HBr
        go_wp2_with fail
        go_ret2
        exact ⟨_, rfl, ⟨by rw [HMA.out]; exact HBr.out, Nat.le_refl _, fun g e => (HBr.out.lt g e).2⟩, HK.out⟩
  · have HB : Hid (mvdB s.length = false) := by show _ = _; simp [mvdB]; omega
    have HO : Hid (mvdOk s = false) := HB.out
    have HR := Lib.hid (mvfR_no HO.out)
    rw [HR.out, HO.out]
    generalize s.length = n at *
    go_enter Try.func29, Try.ntmps29
    go_wp2_with fail
    refine (HG.out _).mono ?_
    rintro e w' ⟨rfl, rfl⟩
    rw [HB.out]
    go_wp2_with fail
    go_ret2
    exact ⟨_, rfl, OwnBytes.nil _ _ _, TurnIn.refl _⟩

end Go.Proofs.Ytdbgkpmdimapdaa
