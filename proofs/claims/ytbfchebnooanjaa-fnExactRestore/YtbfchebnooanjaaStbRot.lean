/- Chapter 11: what compares rotations; ranges that change their places. -/
import Derived.Test.YtbfchebnooanjaaStbMem
import Derived.Lib.Bytealg
import Derived.Deep.RegionWith
set_option linter.unusedSimpArgs false
set_option linter.unusedVariables false
namespace G294
open Go Go.RowKit
theorem drop_two (s : List UInt8) {k : Nat} (h : k ≤ s.length) : ((s ++ s).drop k).take s.length = rotL s k := by
  rw [List.drop_append_of_le_length h, List.take_append, List.length_drop, List.take_of_length_le (by simp)]
  unfold rotL
  congr 2
  omega
def cmpZ (s : List UInt8) (i j : Nat) : Int := Lib.compareBytes (rotL s i) (rotL s j)
theorem cmpZ_lt (s : List UInt8) (i j : Nat) : cmpZ s i j < 0 ↔ lessT (rotL s i) (rotL s j) = true := by
  rw [← cmp_less]; simp [cmpZ]
theorem cmpZ_ge {s : List UInt8} {i j : Nat} (h : ¬ cmpZ s i j < 0) : lessT (rotL s i) (rotL s j) = false := by
  cases hh : lessT (rotL s i) (rotL s j) with
  | false => rfl
  | true => exact absurd ((cmpZ_lt s i j).2 hh) h
/-- the function value g compares the rotations of s at two numbers, in any world in which the row of the block B alone has turned -/
def CmpAt (P : Program) (g : Nat) (lb : Array Value) (B n : Nat) (s : List UInt8) (w : World) : Prop :=
  ∀ (W : World) (i j : Nat), TurnIn B (B + 1) w W → i < n → j < n → Calls P g (#[.int .i64 i, .int .i64 j] ++ lb) W fun e w' => e = .returned (.int .i64 (cmpZ s i j)) ∧ ∃ q, w' = W.drewN q
/-- such a call inside a region that only reads -/
theorem quietC {P : Program} {f : FuncId} {args : Array Value} {w : World} {n : Nat} {v : Value} (h : Calls P f args (w.drewN n) fun e w' => e = .returned v ∧ ∃ q, w' = (w.drewN n).drewN q) :
    Calls P f args (w.drewN n) fun e w' => e = .returned v ∧ ∃ m, w' = w.drewN m := h.mono fun _ _ ⟨he, q, hw⟩ => ⟨he, n + q, by rw [hw, World.drewN_drewN]⟩
theorem turn_drewN (w : World) (q : Nat) : TurnIn 0 0 w (w.drewN q) := ⟨rfl, rfl, rfl, Nat.le_refl _, fun _ _ _ => rfl⟩
theorem CmpAt.later {P : Program} {g : Nat} {lb : Array Value} {B n : Nat} {s : List UInt8} {w W : World} (h : CmpAt P g lb B n s w) (t : TurnIn B (B + 1) w W) : CmpAt P g lb B n s W :=
  fun W' i j t' hi hj => h W' i j (turn_trans t t' (by omega)) hi hj
end G294
namespace Go.Proofs.Ytbfchebnooanjaa
open Go.RowKit G294

set_option maxRecDepth 100000 in
set_option maxHeartbeats 2000000 in
theorem rotate_own (B N cp a m b : Nat) (f : Nat → Nat) (cv : Value) (w : World) (hr : OwnInts 3 w B (B + 1) (.slice (some ⟨B, 0, none⟩) N cp) (lstF N f)) (h1 : a < m) (h2 : m < b) (h3 : b ≤ N) (hN : N ≤ 1000) :
    Calls Try.prog 82 #[.slice (some ⟨B, 0, none⟩) N cp, .int .i64 a, .int .i64 m, .int .i64 b, cv] w (RetRow 3 w B N cp (rotF f a m b)) := by
  have HR0 := Lib.hid (RowF.start hr)
  have HSW := Lib.hid (fun a b n f W hr h1 h2 => swapRange_own B N cp a b n f cv W hr h1 h2 hN)
  have e1 : (m : Int) - (a : Int) = ((m - a : Nat) : Int) := by omega
  have e2 : (b : Int) - (m : Int) = ((b - m : Nat) : Int) := by omega
  have HG : Hid (rotF f (m - (m - a)) m (m + (b - m)) = rotF f a m b) := by show _ = _; congr 1 <;> omega
  clear hr
  have hi0 : 0 < m - a := by omega
  have hj0 : 0 < b - m := by omega
  have him : m - a ≤ m := by omega
  have hjN : m + (b - m) ≤ N := by omega
  generalize hI : m - a = I at *
  generalize hJ : b - m = J at *
  have HIJ := Lib.hid (And.intro hI hJ)
  clear hI hJ
  go_enter Try.func82, Try.ntmps82
  go_wp2_with fail
  go_loopw [10, 11] (fun x y wr => ∃ i j : Nat, 0 < i ∧ 0 < j ∧ i ≤ m ∧ m + j ≤ N ∧ i ≤ I ∧ j ≤ J ∧ x = .int .i64 i ∧ y = .int .i64 j ∧ ∃ g, Hid (RowF 3 w wr B N cp g) ∧ Hid (rotF g (m - i) m (m + j) = rotF f a m b))
    (fun x y _ => (intOf x).toNat + (intOf y).toNat)
  case atStart => exact ⟨I, J, hi0, hj0, him, hjN, Nat.le_refl _, Nat.le_refl _, rfl, rfl, f, HR0, HG⟩
  case round =>
    obtain ⟨i, j, hi, hj, him2, hjN2, hiI, hjJ, rfl, rfl, g, HR, HE⟩ := hrel
    clear HR0 HG hi0 hj0 him hjN
    have e3 : (m : Int) - (i : Int) = ((m - i : Nat) : Int) := by omega
    by_cases hij : i = j
    · subst hij
      have hb : ((i : Int) != (i : Int)) = false := by simp
      have HC := Lib.hid (HSW.out (m - i) m i g wr HR.out.own (by omega) (by omega))
      have HF := Lib.hid ((rot_same g m i him2).trans HE.out)
      go_wp2_with fail
      refine HC.out.mono ?_
      rintro e w2 ⟨rfl, HR2⟩
      go_wp2_with fail
      go_end0
      exact ⟨rfl, (HR.out.trans HR2).congr HF.out⟩
    · have hb : ((i : Int) != (j : Int)) = true := by simp; omega
      by_cases hlt : j < i
      · have hlti : (j : Int) < (i : Int) := by omega
        have HC := Lib.hid (HSW.out (m - i) m j g wr HR.out.own (by omega) (by omega))
        have HF := Lib.hid ((rot_more g m i j him2 hlt).trans HE.out)
        have e4 : (i : Int) - (j : Int) = ((i - j : Nat) : Int) := by omega
        go_wp2_with fail
        refine HC.out.mono ?_
        rintro e w2 ⟨rfl, HR2⟩
        have HR3 := Lib.hid (HR.out.trans HR2)
        clear HR2
        go_wp2_with fail
        go_roundw
        case rel => exact ⟨i - j, j, by omega, hj, by omega, hjN2, by omega, hjJ, by go_num, rfl, _, HR3, HF⟩
        case measure => simp [intOf]; omega
      · have hlti : ¬ (j : Int) < (i : Int) := by omega
        have e5 : (m : Int) + (j : Int) - (i : Int) = ((m + j - i : Nat) : Int) := by omega
        have HC := Lib.hid (HSW.out (m - i) (m + j - i) i g wr HR.out.own (by omega) (by omega))
        have HF := Lib.hid ((rot_less g m i j him2 (by omega)).trans HE.out)
        have e4 : (j : Int) - (i : Int) = ((j - i : Nat) : Int) := by omega
        go_wp2_with fail
        refine HC.out.mono ?_
        rintro e w2 ⟨rfl, HR2⟩
        have HR3 := Lib.hid (HR.out.trans HR2)
        clear HR2
        go_wp2_with fail
        go_roundw
        case rel => exact ⟨i, j - i, hi, by omega, him2, by omega, hiI, by omega, rfl, by go_num, _, HR3, HF⟩
        case measure => simp [intOf]; omega

set_option maxRecDepth 100000 in
set_option maxHeartbeats 1000000 in
theorem compareString_any (a b : List UInt8) (w : World) : Calls Try.prog 59 #[.string (str a), .string (str b)] w fun e w' => e = .returned (.int .i64 (Lib.compareBytes a b)) ∧ w' = w := by
  go_enter Try.func59, Try.ntmps59
  go_wp2
  rw [run_callFunc_extern Try.func67 (by kernel_rfl) (by kernel_rfl) (by kernel_rfl) (e := Extern.BytealgCompare.compare) (by kernel_rfl), Lib.run_compareString]
  simp only [Result.andThen]
  rw [Oper.upon_value]
  go_wp2
  go_ret
  exact ⟨rfl, rfl⟩

set_option maxHeartbeats 1000000 in
theorem compare_any (a b : List UInt8) (w : World) : Calls Try.prog 44 #[.string (str a), .string (str b)] w fun e w' => e = .returned (.int .i64 (Lib.compareBytes a b)) ∧ w = w' := by
  go_enter Try.func44, Try.ntmps44
  go_wp2_with fail
  refine (compareString_any a b _).mono ?_
  rintro e w' ⟨rfl, rfl⟩
  go_wp2_with fail
  go_ret
  exact ⟨rfl, rfl⟩

set_option maxHeartbeats 1000000 in
theorem rotationIn_any (s : List UInt8) (k : Nat) (w : World) (hk : k ≤ s.length) (hs : s.length ≤ 1000) : Calls Try.prog 45 #[.string (str (s ++ s)), .int .i64 k] w fun e w' => e = .returned (.string (str (rotL s k))) ∧ w = w' := by
  have hsz : (str (s ++ s)).size = 2 * s.length := by rw [str_size]; simp; omega
  have hq : (2 * (s.length : Int)).tdiv 2 = (s.length : Int) := Int.mul_tdiv_cancel_left _ (by decide)
  have HE : Hid ((str (s ++ s)).extract k (k + s.length) = str (rotL s k)) := by
    show _ = _
    rw [← drop_two s hk]
    unfold str
    apply ByteArray.ext
    simp [ByteArray.data_extract]
  generalize hnn : s.length = n at *
  go_enter Try.func45, Try.ntmps45
  go_wp2_with fail
  go_ret
  exact ⟨by rw [HE.out]; rfl, rfl⟩

set_option maxRecDepth 100000 in
set_option maxHeartbeats 1000000 in
theorem turnsCmp_at (s : List UInt8) (Bd B : Nat) (w : World) (hs : s.length ≤ 1000) (hB : Bd < w.heap.size) (hne : Bd ≠ B) (hv : w.cell? ⟨Bd, 0, none⟩ = some (.string (str (s ++ s)))) :
    CmpAt Try.prog 43 #[.pointer (some ⟨Bd, 0, none⟩)] B s.length s w := by
  intro W i j t hi hj
  have hv' : W.cell? ⟨Bd, 0, none⟩ = some (.string (str (s ++ s))) := (World.cell?_of_block (t.block Bd hB (by omega))).trans hv
  have HL : Hid (Lib.compareBytes (rotL s i) (rotL s j) = cmpZ s i j) := Lib.hid rfl
  have HA := Lib.hid (fun W => rotationIn_any s i W (by omega) hs)
  have HB := Lib.hid (fun W => rotationIn_any s j W (by omega) hs)
  generalize rotL s i = x at *
  generalize rotL s j = y at *
  clear hv t
  go_enter Try.func43, Try.ntmps43
  go_wp2_with fail
  go_quiet (first | (go_at_call 44; exact quietly (compare_any x y _)) | (go_at_call_of 45 (Value.int .i64 i); exact quietly (HA.out _)) | (go_at_call 45; exact quietly (HB.out _)))
  go_wp2_with fail
  go_ret
  exact ⟨by rw [← HL.out]; rfl, _, rfl⟩
end Go.Proofs.Ytbfchebnooanjaa
