/- Chapter 12: the run at the front of an encoding, the program's. -/
import Derived.Test.YtdbgkpmdimapdaaRunWalks
import Derived.Test.YtdbgkpmdimapdaaRunApp
import Derived.Test.YtdbgkpmdimapdaaRlMath
import Derived.Test.YtdbgkpmdimapdaaMtfB
import Derived.Test.YtdbgkpmdimapdaaSplitMath
import Derived.Test.YtdbgkpmdimapdaaBoxes
import Derived.BigQuiet
import Derived.RegionTactic
import Derived.BigRegion
set_option linter.unusedSimpArgs false
set_option linter.unusedVariables false
namespace G294
open Go Go.RowKit
/-- what firstRun returns -/
def fstV (s : List UInt8) : Value :=
  match fstRun s with
  | none => .tuple #[.agg #[.int .u8 0, .int .i64 0], .string (str []), .bool false]
  | some (r, t) => .tuple #[.agg #[.int .u8 (r.1.toNat : Int), .int .i64 r.2], .string (str t), .bool true]
theorem fst_one' {s : List UInt8} (h : s.length = 1) : fstRun s = some ((s.getD 0 0, 1), s.drop 1) := by
  match s, h with
  | [a], _ => rfl
theorem fst_new {s : List UInt8} (h : 2 ≤ s.length) (hn : s.getD 1 0 ≠ s.getD 0 0) : fstRun s = some ((s.getD 0 0, 1), s.drop 1) := by
  match s, h, hn with
  | [a, b], _, hn => have : b ≠ a := hn; simp [fstRun, this]
  | a :: b :: c :: t, _, hn => have : b ≠ a := hn; simp [fstRun, this]
theorem fst_short {s : List UInt8} (h : s.length = 2) (hn : s.getD 1 0 = s.getD 0 0) : fstRun s = none := by
  match s, h, hn with
  | [a, b], _, hn => have : b = a := hn; simp [fstRun, this]
theorem fst_long {s : List UInt8} (h : 3 ≤ s.length) (hn : s.getD 1 0 = s.getD 0 0) : fstRun s = some ((s.getD 0 0, ((s.getD 2 0).toNat : Int) + 2), s.drop 3) := by
  match s, h, hn with
  | a :: b :: c :: t, _, hn => have : b = a := hn; simp [fstRun, this]
theorem fstV_some {s t : List UInt8} {b : UInt8} {y : Int} (h : fstRun s = some ((b, y), t)) : fstV s = .tuple #[.agg #[.int .u8 (b.toNat : Int), .int .i64 y], .string (str t), .bool true] := by simp [fstV, h]
theorem fstV_none {s : List UInt8} (h : fstRun s = none) : fstV s = .tuple #[.agg #[.int .u8 0, .int .i64 0], .string (str []), .bool false] := by simp [fstV, h]
theorem ext_drop (s : List UInt8) (k : Nat) : (str s).extract k s.length = str (s.drop k) := by
  rw [extract_str]
  congr 1
  rw [List.take_of_length_le]; simp
theorem below_run2 (w : World) (o : Obj) (m : Nat) (x y : Value) : Below w.heap.size w ((((w.alloc o).drewN m).setCell ⟨w.heap.size, 0, none⟩ x).setCell ⟨w.heap.size, 1, none⟩ y) :=
  ((below_drewN ((Below.refl _ _).alloc (Nat.le_refl _) o) m).setCell (p := ⟨w.heap.size, 0, none⟩) (Nat.le_refl _) x).setCell (p := ⟨w.heap.size, 1, none⟩) (Nat.le_refl _) y
end G294
namespace Go.Proofs.Ytdbgkpmdimapdaa
open Go.RowKit G294

set_option maxRecDepth 100000 in
set_option maxHeartbeats 2000000 in
theorem firstRun_own (s : List UInt8) (w : World) (h0 : 0 < s.length) (hs : s.length ≤ 1000000000000) : Calls Try.prog 81 #[.string (str s)] w (fun e w' => e = .returned (fstV s) ∧ TurnIn 0 0 w w') := by
  have hsz : (str s).size = s.length := str_size s
  have HSG := Lib.hid (fun k h => str_get s k h)
  have HE1 := ext_drop s 1
  have HE3 := ext_drop s 3
  have HV1 := Lib.hid (fun h => fstV_some (@fst_one' s h))
  have HV2 := Lib.hid (fun h hn => fstV_some (@fst_new s h hn))
  have HV3 := Lib.hid (fun h hn => fstV_none (@fst_short s h hn))
  have HV4 := Lib.hid (fun h hn => fstV_some (@fst_long s h hn))
  have KA := Lib.hid (turn_alloc w (.cells #[.int .u8 0, .int .i64 0] 86))
  generalize hnn : s.length = n at *
  have HLN := Lib.hid hnn
  clear hnn
  by_cases h1 : n = 1
  · have HV := Lib.hid (HV1.out h1)
    have hd : s.drop 1 = [] := by rw [List.drop_eq_nil_iff, HLN.out]; omega
    rw [HV.out, hd]
    have g0 := HSG.out 0 (by omega)
    have HEM : Hid (ByteArray.empty = str []) := Lib.hid rfl
    clear HV HV1 HV2 HV3 HV4 hd
    generalize s.getD 0 0 = c at *
    subst h1
    go_enter Try.func81, Try.ntmps81
    go_wp2_with fail
    go_quiet (fail)
    go_wp2_with fail
    go_region
    all_goals
      go_wp2_with fail
      (try simp only [Exit.inBlock, Exit.then])
      refine bodyPost_ret (v := .tuple #[.agg #[.int .u8 (c.toNat : Int), .int .i64 1], .string (str []), .bool true]) (by simp [results, Try.results81, go_sem, HEM.out]) rfl ?_
      refine ⟨rfl, TurnIn.of_below ?_⟩
      exact below_run2 _ _ _ _ _
  · have hn1 : ((n : Int) == 1) = false := by rw [beq_eq_false_iff_ne]; omega
    have g0 := HSG.out 0 (by omega)
    have g1 := HSG.out 1 (by omega)
    by_cases hb : s.getD 1 0 = s.getD 0 0
    · have hbb : (((s.getD 0 0).toNat : Int) != ((s.getD 0 0).toNat : Int)) = false := bne_self_eq_false _
      rw [hb] at g1
      by_cases h3 : n = 2
      · have HV := Lib.hid (HV3.out h3 hb)
        rw [HV.out]
        clear HV HV1 HV2 HV3 HV4
        generalize s.getD 0 0 = c at *
        subst h3
        go_enter Try.func81, Try.ntmps81
        go_wp2_with fail
        go_quiet (fail)
        go_wp2_with fail
        (try simp only [Exit.inBlock, Exit.then])
        refine bodyPost_ret (v := .tuple #[.agg #[.int .u8 0, .int .i64 0], .string (str []), .bool false]) (by simp [results, Try.results81, go_sem, str_nil]) rfl ?_
        refine ⟨rfl, TurnIn.of_below ?_⟩
        exact below_run2 _ _ _ _ _
      · have HV := Lib.hid (HV4.out (by omega) hb)
        rw [HV.out]
        clear HV HV1 HV2 HV3 HV4
        have g2 := HSG.out 2 (by omega)
        have hn2 : ((n : Int) == 2) = false := by rw [beq_eq_false_iff_ne]; omega
        have hx := (s.getD 2 0).toNat_lt
        generalize s.getD 2 0 = x at *
        generalize s.getD 0 0 = c at *
        go_enter Try.func81, Try.ntmps81
        go_wp2_with fail
        go_quiet (fail)
        go_wp2_with fail
        go_region
        all_goals
          go_wp2_with fail
          (try simp only [Exit.inBlock, Exit.then])
          refine bodyPost_ret (v := .tuple #[.agg #[.int .u8 (c.toNat : Int), .int .i64 ((x.toNat : Int) + 2)], .string (str (s.drop 3)), .bool true]) (by simp [results, Try.results81, go_sem, HE3]) rfl ?_
          refine ⟨rfl, TurnIn.of_below ?_⟩
          exact below_run2 _ _ _ _ _
    · have hbb : (((s.getD 1 0).toNat : Int) != ((s.getD 0 0).toNat : Int)) = true := by rw [bne_iff_ne]; intro e; exact hb (UInt8.toNat_inj.1 (by omega))
      have HV := Lib.hid (HV2.out (by omega) hb)
      rw [HV.out]
      clear HV HV1 HV2 HV3 HV4
      generalize s.getD 0 0 = c at *
      generalize s.getD 1 0 = x at *
      go_enter Try.func81, Try.ntmps81
      go_wp2_with fail
      go_quiet (fail)
      go_wp2_with fail
      go_region
      all_goals
        go_wp2_with fail
        (try simp only [Exit.inBlock, Exit.then])
        refine bodyPost_ret (v := .tuple #[.agg #[.int .u8 (c.toNat : Int), .int .i64 1], .string (str (s.drop 1)), .bool true]) (by simp [results, Try.results81, go_sem, HE1]) rfl ?_
        refine ⟨rfl, TurnIn.of_below ?_⟩
        exact below_run2 _ _ _ _ _

end Go.Proofs.Ytdbgkpmdimapdaa
