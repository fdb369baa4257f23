/- The row of a node: nodeNumber, nodeFactor, hasNode, powerRow, MsrRow; the model's l5X, l5F, l5Short, l5Row, MsrRow. -/
import Derived.Deep.QuietTactic
import Derived.BigQuiet
import Derived.Test.YtlkoafnlklhaeaaDoorRowMath
import Derived.Test.YtlkoafnlklhaeaaDoorMsr
import Derived.Test.YtlkoafnlklhaeaaDoorSymRows
import Derived.Test.YtlkoafnlklhaeaaDoorVecScale
import Derived.Test.YtlkoafnlklhaeaaDoorSpecOwn
import Derived.Test.YtlkoafnlklhaeaaDoorTailHeld
set_option linter.unusedSimpArgs false
set_option linter.unusedVariables false
namespace G294
open Go Go.RowKit
def nodeOk (n k i : Int) : Bool := msrOk n k && decide (0 ≤ i ∧ i < n)
theorem nodeOk_b {n k i : Int} (h : nodeOk n k i = true) : msrOk n k = true ∧ 0 ≤ i ∧ i < n := by simpa [nodeOk] using h
def rowR (n k i : Int) : List UInt8 := if nodeOk n k i = true then rowL (k - 1).toNat i.toNat else []
theorem rowR_no {n k i : Int} (h : nodeOk n k i = false) : rowR n k i = [] := if_neg (by rw [h]; simp)
theorem rowR_yes {n : Int} {a i : Nat} (h : nodeOk n ((a : Int) + 1) i = true) : rowR n ((a : Int) + 1) i = rowL a i := by unfold rowR; rw [if_pos h]; congr 1; omega
theorem rowR_len (n k i : Int) : (rowR n k i).length ≤ 6 := by
  unfold rowR; split
  · rename_i h
    have := msrOk_b (nodeOk_b h).1
    rw [rowL_length]; omega
  · simp
end G294
namespace Go.Proofs.YtlkoafnlklhaeaaDoor
open Go.RowKit G294

set_option maxHeartbeats 1000000 in
theorem nodeNumber_any (i : Nat) (w : World) (hi : i ≤ 1000) (ht : Tab w) : Calls Tryd.prog 72 #[.int .i64 i] w fun e w' => e = .returned (.int .u8 ((nodX i).toNat : Int)) ∧ w = w' := by
  have HP : Hid (Calls Tryd.prog 140 #[.int .u8 3, .int .i64 ((i : Int) + 1)] w fun e w' => e = .returned (.int .u8 ((nodX i).toNat : Int)) ∧ w = w') := by
    have h := powerOf_any 3 (i + 1) (by omega) (by omega) w ht
    rw [show ((3 : Nat) : Int) = 3 from rfl, show ((i + 1 : Nat) : Int) = (i : Int) + 1 by omega] at h
    show Calls _ _ _ _ _
    unfold nodX; rw [powB_toNat]; exact h
  go_enter Tryd.func72, Tryd.ntmps72
  go_wp2_with fail
  refine HP.out.mono ?_
  rintro e w' ⟨rfl, rfl⟩
  go_wp2_with fail
  go_ret
  exact ⟨rfl, rfl⟩

set_option maxHeartbeats 1000000 in
theorem nodeFactor_any (i a : Nat) (w : World) (hi : i ≤ 1000) (ha : a ≤ 1000) (ht : Tab w) : Calls Tryd.prog 73 #[.int .i64 i, .int .i64 a] w fun e w' => e = .returned (.int .u8 ((nodF i a).toNat : Int)) ∧ w = w' := by
  have HP : Hid (Calls Tryd.prog 140 #[.int .u8 ((nodX i).toNat : Int), .int .i64 a] w fun e w' => e = .returned (.int .u8 ((nodF i a).toNat : Int)) ∧ w = w') := by
    have h := powerOf_any (nodX i).toNat a (nodX i).toNat_lt (by omega) w ht
    show Calls _ _ _ _ _
    unfold nodF; rw [powB_toNat]; exact h
  go_enter Tryd.func73, Tryd.ntmps73
  go_wp2_with fail
  refine (nodeNumber_any i w hi ht).mono ?_
  rintro e w' ⟨rfl, rfl⟩
  go_wp2_with fail
  refine HP.out.mono ?_
  rintro e w' ⟨rfl, rfl⟩
  go_wp2_with fail
  go_ret
  exact ⟨rfl, rfl⟩

set_option maxHeartbeats 1000000 in
theorem l5X_any (i : Nat) (w : World) (hi : i ≤ 1000) : Calls Tryd.prog 143 #[.int .i64 i] w fun e w' => e = .returned (.int .u8 ((nodX i).toNat : Int)) ∧ w = w' := by
  have HP : Hid (Calls Tryd.prog 142 #[.int .u8 3, .int .i64 ((i : Int) + 1)] w fun e w' => e = .returned (.int .u8 ((nodX i).toNat : Int)) ∧ w = w') := by
    have h := l1Power_any 3 (i + 1) (by omega) (by omega) w
    rw [show ((3 : Nat) : Int) = 3 from rfl, show ((i + 1 : Nat) : Int) = (i : Int) + 1 by omega] at h
    show Calls _ _ _ _ _
    unfold nodX; rw [powB_toNat]; exact h
  go_enter Tryd.func143, Tryd.ntmps143
  go_wp2_with fail
  refine HP.out.mono ?_
  rintro e w' ⟨rfl, rfl⟩
  go_wp2_with fail
  go_ret
  exact ⟨rfl, rfl⟩

theorem l1Power_u8 (x : UInt8) (a : Nat) (ha : a ≤ 1000) (w : World) : Calls Tryd.prog 142 #[.int .u8 (x.toNat : Int), .int .i64 a] w fun e w' => e = .returned (.int .u8 ((powB x a).toNat : Int)) ∧ w = w' := by
  have h := l1Power_any x.toNat a x.toNat_lt (by omega) w
  rw [powB_toNat]; exact h

theorem powerOf_u8 (x : UInt8) (a : Nat) (ha : a ≤ 1000) (w : World) (ht : Tab w) : Calls Tryd.prog 140 #[.int .u8 (x.toNat : Int), .int .i64 a] w fun e w' => e = .returned (.int .u8 ((powB x a).toNat : Int)) ∧ w = w' := by
  have h := powerOf_any x.toNat a x.toNat_lt (by omega) w ht
  rw [powB_toNat]; exact h

set_option maxRecDepth 100000 in
set_option maxHeartbeats 1000000 in
theorem l5F_any (n : Int) (a i : Nat) (w : World) (hi : i ≤ 1000) (ha : a ≤ 1000) : Calls Tryd.prog 93 #[msrV n ((a : Int) + 1), .int .i64 i] w (RetByte w (nodF i a)) := by
  have a1 := turn_alloc w (.cells #[.int .i64 n, .int .i64 ((a : Int) + 1)] 27)
  have ck := alloc_duo1 w (.int .i64 n) (.int .i64 ((a : Int) + 1)) 27
  go_enter Tryd.func93, Tryd.ntmps93
  go_wp2_with fail
  go_quiet (first | (go_at_call 143; exact quietly (l5X_any i _ hi)) | (go_at_call 142; exact quietly (l1Power_u8 (nodX i) a ha _)))
  go_wp2_with fail
  go_ret
  exact ⟨rfl, TurnIn.of_below (below_drewN a1.to_below _)⟩

set_option maxRecDepth 100000 in
set_option maxHeartbeats 1000000 in
theorem hasNode_any (n k i : Int) (w : World) : Calls Tryd.prog 69 #[msrV n k, .int .i64 i] w (RetBool w (nodeOk n k i)) := by
  have a1 := turn_alloc w (.cells #[.int .i64 n, .int .i64 k] 27)
  have l1 := alloc_lt w (.cells #[.int .i64 n, .int .i64 k] 27)
  have cn := alloc_duo0 w (.int .i64 n) (.int .i64 k) 27
  by_cases h : msrOk n k = true
  · have HO := Lib.hid h
    clear h
    by_cases h0 : 0 ≤ i
    · have hd : decide (0 ≤ i) = true := by simpa using h0
      have HV : Hid (nodeOk n k i = decide (i < n)) := by show nodeOk n k i = _; simp [nodeOk, HO.out, h0]
      go_enter Tryd.func69, Tryd.ntmps69
      go_wp2_with fail
      refine (goodMsr_any n k _).mono ?_
      rintro e w2 ⟨rfl, k2⟩
      rw [HO.out]
      replace cn := cell_turn k2 cn l1
      go_wp2_with fail
      go_ret
      exact ⟨by rw [HV.out]; rfl, turn_trans a1 k2 (by omega)⟩
    · have hd : decide (0 ≤ i) = false := by simpa using h0
      have HV : Hid (nodeOk n k i = false) := by show nodeOk n k i = _; simp [nodeOk, h0]
      go_enter Tryd.func69, Tryd.ntmps69
      go_wp2_with fail
      refine (goodMsr_any n k _).mono ?_
      rintro e w2 ⟨rfl, k2⟩
      rw [HO.out]
      go_wp2_with fail
      go_ret
      exact ⟨by rw [HV.out]; rfl, turn_trans a1 k2 (by omega)⟩
  · have HO : Hid (msrOk n k = false) := by show msrOk n k = false; simpa using h
    have HV : Hid (nodeOk n k i = false) := by show nodeOk n k i = _; simp only [nodeOk, HO.out, Bool.false_and]
    clear h
    go_enter Tryd.func69, Tryd.ntmps69
    go_wp2_with fail
    refine (goodMsr_any n k _).mono ?_
    rintro e w2 ⟨rfl, k2⟩
    rw [HO.out]
    go_wp2_with fail
    go_ret
    exact ⟨by rw [HV.out]; rfl, turn_trans a1 k2 (by omega)⟩

set_option maxRecDepth 100000 in
set_option maxHeartbeats 1000000 in
theorem l5Short_own (n : Int) (a i : Nat) (w : World) (hi : i ≤ 1000) (ha : a ≤ 1000) : Calls Tryd.prog 77 #[msrV n ((a : Int) + 1), .int .i64 i] w (RetBytes 5 w (shortL a i)) := by
  have a1 := turn_alloc w (.cells #[.int .i64 n, .int .i64 ((a : Int) + 1)] 27)
  have l1 := World.size_alloc w (.cells #[.int .i64 n, .int .i64 ((a : Int) + 1)] 27)
  have ck := alloc_duo1 w (.int .i64 n) (.int .i64 ((a : Int) + 1)) 27
  go_enter Tryd.func77, Tryd.ntmps77
  go_wp2_with fail
  generalize (w.alloc (.cells #[.int .i64 n, .int .i64 ((a : Int) + 1)] 27)) = w0 at *
  have hl1 : w.heap.size < w0.heap.size := by omega
  clear l1
  go_loopw [5, 6] (fun o j wr => ∃ m : Nat, m ≤ a ∧ j = .int .i64 m ∧ wr.ownsRow w0.heap.size 5 1 o m (bys (mkRow m (powB (nodX i)))) ∧ Below w0.heap.size w0 wr)
    (fun _ j _ => a - (intOf j).toNat)
  case atStart => exact ⟨0, Nat.zero_le _, rfl, World.ownsRow_nil _ _ _ _, Below.refl _ _⟩
  case round =>
    obtain ⟨m, hm, rfl, hown, hb⟩ := hrel
    have ckr := (hb.cell (p := ⟨w.heap.size, 1, none⟩) hl1).trans ck
    by_cases hlt : m < a
    · have hmi : (m : Int) < (a : Int) := by omega
      have HNX := Lib.hid (mkRow_succ m (powB (nodX i)))
      go_wp2_with fail
      refine (l5X_any i _ hi).mono ?_
      rintro e w' ⟨rfl, rfl⟩
      go_wp2_with fail
      refine (l1Power_u8 (nodX i) m (by omega) _).mono ?_
      rintro e w' ⟨rfl, rfl⟩
      go_wp2_with (at_builtin; refine wpList_append1 rfl _ _ _ rfl w0.heap.size 5 _ _ Tryd.underlying24 infoByte rfl _ m _ rfl (hown.alloc _) wr.heap.size (.int .u8 ((powB (nodX i) m).toNat : Int)) rfl ?c1 rfl ?c2 ?c3 ?c4 ?_)
      case c1 => simp
      case c2 => omega
      case c3 => omega
      case c4 => have := hb.size; simp; omega
      intro v' w' hown' hg' _
      have hb' : Below w0.heap.size w0 w' := below_append (hb.alloc hb.size _) (hown.alloc _) hg' (Nat.le_refl _) (by have := hb.size; simp; omega)
      have HO2 : Hid (w'.ownsRow w0.heap.size 5 1 v' (m + 1) (bys (mkRow (m + 1) (powB (nodX i))))) := by
        show World.ownsRow _ _ _ _ _ _ _
        rw [HNX.out, bys_append]; exact hown'
      clear hown' hg'
      go_wp2_with fail
      go_roundw
      case rel => exact ⟨m + 1, by omega, by go_num, HO2.out, hb'⟩
      case measure => simp [intOf]; omega
    · obtain rfl : m = a := by omega
      have hmi : ¬ (m : Int) < (m : Int) := by omega
      go_wp2_with fail
      go_ret
      have hbs := hb.size
      refine ⟨_, rfl, (OwnBytes.of_made (w := w0) (l := shortL m i) ?_).wider (by omega) (Nat.le_refl _) (Nat.le_refl _), turn_trans a1 (TurnIn.of_below hb) (by omega)⟩
      rw [shortL_length]; exact hown

set_option maxRecDepth 100000 in
set_option maxHeartbeats 2000000 in
theorem powerRow_own (x : UInt8) (a : Nat) (v : Value) (fs : List UInt8) (w : World) (hv : Seen w v (bys fs)) (ha : a ≤ 100) (hf : fs.length ≤ 100) (ht : Tab w) (h0 : 1 < w.heap.size) :
    Calls Tryd.prog 71 #[.int .u8 (x.toNat : Int), .int .i64 a, v] w (RetBytes 5 w (pRows x a fs)) := by
  obtain ⟨A, c, rfl, hlc, hcm, hx⟩ := hv
  rw [bys_length] at hlc hx
  simp only [bys_length]
  unfold maxLen at hcm
  generalize hnn : fs.length = n at *
  have HN := Lib.hid hnn
  have HX := Lib.hid hx
  have HT := Lib.hid ht
  clear hnn hx ht
  go_enter Tryd.func71, Tryd.ntmps71
  go_wp2_with fail
  go_loopw [7, 13] (fun o i wr => ∃ k : Nat, k ≤ n ∧ i = .int .i64 k ∧ wr.ownsRow w.heap.size 5 1 o (k * a) (bys (pRows x a (fs.take k))) ∧ Below w.heap.size w wr)
    (fun _ i _ => n - (intOf i).toNat)
  case atStart => exact ⟨0, Nat.zero_le _, rfl, by rw [Nat.zero_mul]; exact World.ownsRow_nil _ _ _ _, Below.refl _ _⟩
  case round =>
    obtain ⟨k, hk, rfl, hown, hb⟩ := hrel
    by_cases hlt : k < n
    · obtain ⟨b, off, rfl, hbl, hcell⟩ := HX.out (by omega)
      have hkl : k < fs.length := by rw [HN.out]; exact hlt
      have hcx : wr.cell? ⟨b, off + k, none⟩ = some (.int .u8 ((fs[k]).toNat : Int)) := (hb.cell (p := ⟨b, off + k, none⟩) hbl).trans (hcell k _ (bys_get fs k hkl))
      have HNX := Lib.hid (pRows_take x a fs k hkl)
      have hki : (k : Int) < (n : Int) := by omega
      have hka : k * a ≤ 10000 := Nat.le_trans (Nat.mul_le_mul (by omega) ha) (by omega)
      generalize fs[k] = f at *
      generalize hL : pRows x a (fs.take k) = L at *
      have HOWN := Lib.hid hown
      have HB := Lib.hid hb
      clear hcell hL hown hb
      generalize hka' : k * a = z at *
      have HKA := Lib.hid hka'
      clear hka'
      go_wp2_with fail
      go_loopw [7, 18] (fun o i wq => ∃ m : Nat, m ≤ a ∧ i = .int .i64 m ∧ wq.ownsRow w.heap.size 5 1 o (z + m) (bys (L ++ mkRow m (fun e => gmul f (powB x e)))) ∧ Below w.heap.size w wq)
        (fun _ i _ => a - (intOf i).toNat)
      case atStart => exact ⟨0, Nat.zero_le _, rfl, by simpa [mkRow] using HOWN.out, HB.out⟩
      case round =>
        obtain ⟨m, hm, rfl, hown, hb⟩ := hrel
        clear hcx
        by_cases hlm : m < a
        · have hmi : (m : Int) < (a : Int) := by omega
          have HNM := Lib.hid (mkRow_succ m (fun e => gmul f (powB x e)))
          have HTT := Lib.hid (HT.out.below hb h0)
          go_wp2_with fail
          refine (powerOf_u8 x m (by omega) _ HTT.out).mono ?_
          rintro e w' ⟨rfl, rfl⟩
          go_wp2_with fail
          refine (times_u8 f (powB x m) _ HTT.out).mono ?_
          rintro e w' ⟨rfl, rfl⟩
          go_wp2_with (at_builtin; refine wpList_append1 rfl _ _ _ rfl w.heap.size 5 _ _ Tryd.underlying24 infoByte rfl _ (z + m) _ rfl (hown.alloc _) wr.heap.size (.int .u8 ((gmul f (powB x m)).toNat : Int)) rfl ?c1 rfl ?c2 ?c3 ?c4 ?_)
          case c1 => simp
          case c2 => omega
          case c3 => omega
          case c4 => have := hb.size; simp; omega
          intro v' w' hown' hg' _
          have hb' : Below w.heap.size w w' := below_append (hb.alloc hb.size _) (hown.alloc _) hg' (Nat.le_refl _) (by have := hb.size; simp; omega)
          have HO2 : Hid (w'.ownsRow w.heap.size 5 1 v' (z + (m + 1)) (bys (L ++ mkRow (m + 1) (fun e => gmul f (powB x e))))) := by
            show World.ownsRow _ _ _ _ _ _ _
            rw [HNM.out, ← List.append_assoc, bys_append]; exact hown'
          clear hown' hg'
          go_wp2_with fail
          go_roundw
          case rel => exact ⟨m + 1, by omega, by go_num, HO2.out, hb'⟩
          case measure => simp [intOf]; omega
        · obtain rfl : m = a := by omega
          have hmi : ¬ (m : Int) < (m : Int) := by omega
          have HO2 : Hid (wr.ownsRow w.heap.size 5 1 u7 ((k + 1) * m) (bys (pRows x m (fs.take (k + 1))))) := by
            show World.ownsRow _ _ _ _ _ _ _
            rw [HNX.out, Nat.succ_mul, HKA.out]; exact hown
          go_wp2_with fail
          go_roundw
          case rel => exact ⟨k + 1, by omega, by go_num, HO2.out, hb⟩
          case measure => simp [intOf]; omega
    · obtain rfl : k = n := by omega
      have hki : ¬ (k : Int) < (k : Int) := by omega
      go_wp2_with fail
      go_ret
      refine ⟨_, rfl, OwnBytes.of_made ?_, TurnIn.of_below hb⟩
      rw [List.take_of_length_le (by rw [HN.out]; exact Nat.le_refl _)] at hown
      rw [pRows_length, HN.out]; exact hown

end Go.Proofs.YtlkoafnlklhaeaaDoor
