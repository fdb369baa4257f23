/- Chapter 12: the program's lists by recency: values behind an interface; indexOf, byteAt, withFront. -/
import Derived.Test.YtdbgkpmdimapdaaMtfB
import Derived.Test.YtdbgkpmdimapdaaMtfMath
import Derived.Test.YtdbgkpmdimapdaaMatI
import Derived.Test.YtdbgkpmdimapdaaBoxes
import Derived.Handy
set_option linter.unusedSimpArgs false
set_option linter.unusedVariables false
namespace G294
open Go Go.RowKit
theorem ub_eq {a b : UInt8} : ((a.toNat : Int) == (b.toNat : Int)) = decide (a = b) := by
  by_cases h : a = b
  · subst h; simp
  · rw [decide_eq_false h, beq_eq_false_iff_ne]
    intro e
    exact h (UInt8.toNat_inj.1 (by omega))
theorem ub_succ {a k : UInt8} (h : a.toNat < k.toNat) : ((a + 1).toNat : Int) = (a.toNat : Int) + 1 := by
  have := u8_succ (show a < k from h)
  omega
theorem ub_pred {i : UInt8} (h : i ≠ 0) : ((i - 1).toNat : Int) = (i.toNat : Int) - 1 := by
  have := u8_pred h
  omega
theorem alloc_t0 (w : World) (x y z : Value) (T : TypeId) : (w.alloc (.cells #[x, y, z] T)).cell? ⟨w.heap.size, 0, none⟩ = some x := by simp
theorem alloc_t1 (w : World) (x y z : Value) (T : TypeId) : (w.alloc (.cells #[x, y, z] T)).cell? ⟨w.heap.size, 1, none⟩ = some y := by simp
theorem alloc_t2 (w : World) (x y z : Value) (T : TypeId) : (w.alloc (.cells #[x, y, z] T)).cell? ⟨w.heap.size, 2, none⟩ = some z := by simp
theorem alloc_tL (w : World) (o : Obj) : w.heap.size < (w.alloc o).heap.size := by rw [World.size_alloc]; omega
end G294
namespace Go.Proofs.Ytdbgkpmdimapdaa
open Go.RowKit G294

def tyR : Rec → TypeId
  | .inc => 77
  | .mv _ _ _ => 101

def payR : Rec → Value
  | .inc => .agg #[]
  | .mv f k r => .agg #[.int .u8 (f.toNat : Int), .int .u8 (k.toNat : Int), .iface (tyR r) (payR r)]

def ixF : Rec → FuncId
  | .inc => 144
  | .mv _ _ _ => 146

def atF : Rec → FuncId
  | .inc => 143
  | .mv _ _ _ => 145

theorem methIxI (x : Value) (w : World) : (method 250 77 x "loop.example/g00294/impl.indexOf").run Try.prog w = .ok (144, x) w := by kernel_rfl

theorem methIxM (x : Value) (w : World) : (method 250 101 x "loop.example/g00294/impl.indexOf").run Try.prog w = .ok (146, x) w := by kernel_rfl

theorem methAtI (x : Value) (w : World) : (method 250 77 x "loop.example/g00294/impl.byteAt").run Try.prog w = .ok (143, x) w := by kernel_rfl

theorem methAtM (x : Value) (w : World) : (method 250 101 x "loop.example/g00294/impl.byteAt").run Try.prog w = .ok (145, x) w := by kernel_rfl

theorem assI (x : Value) (w : World) : (Instr.typeAssert (.iface 77 x) 79 101 true).run Try.prog w = .ok (.tuple #[.agg #[.int .u8 0, .int .u8 0, .nilIface], .bool false]) w := by kernel_rfl

theorem assM (x : Value) (w : World) : (Instr.typeAssert (.iface 101 x) 79 101 true).run Try.prog w = .ok (.tuple #[x, .bool true]) w := by kernel_rfl

theorem methIx (r : Rec) (w : World) : (method 250 (tyR r) (payR r) "loop.example/g00294/impl.indexOf").run Try.prog w = .ok (ixF r, payR r) w := by
  cases r with
  | inc => exact methIxI _ w
  | mv f k r => exact methIxM _ w

theorem methAt (r : Rec) (w : World) : (method 250 (tyR r) (payR r) "loop.example/g00294/impl.byteAt").run Try.prog w = .ok (atF r, payR r) w := by
  cases r with
  | inc => exact methAtI _ w
  | mv f k r => exact methAtM _ w

set_option maxRecDepth 100000 in
set_option maxHeartbeats 1000000 in
theorem ixInc_own (b : UInt8) (w : World) : Calls Try.prog 144 #[.agg #[], .int .u8 (b.toNat : Int)] w (RetByte w b) := by
  have kk : TurnIn 0 0 w (w.alloc (.cells #[] 77)) := turn_alloc _ _
  go_enter Try.func144, Try.ntmps144
  go_wp2_with fail
  go_ret
  exact ⟨rfl, kk⟩

set_option maxRecDepth 100000 in
set_option maxHeartbeats 1000000 in
theorem atInc_own (b : UInt8) (w : World) : Calls Try.prog 143 #[.agg #[], .int .u8 (b.toNat : Int)] w (RetByte w b) := by
  have kk : TurnIn 0 0 w (w.alloc (.cells #[] 77)) := turn_alloc _ _
  go_enter Try.func143, Try.ntmps143
  go_wp2_with fail
  go_ret
  exact ⟨rfl, kk⟩

set_option maxRecDepth 100000 in
set_option maxHeartbeats 2000000 in
theorem ixMv_I (f k b i : UInt8) (p : Value) (HC : Hid (∀ w, Calls Try.prog 144 #[p, .int .u8 (b.toNat : Int)] w (RetByte w i))) (w : World) : Calls Try.prog 146 #[.agg #[.int .u8 (f.toNat : Int), .int .u8 (k.toNat : Int), .iface 77 p], .int .u8 (b.toNat : Int)] w (RetByte w (if b = f then 0 else if i < k then i + 1 else i)) := by
    have hm := methIxI p
    obtain ⟨R, hX0⟩ : ∃ R, R = (if b = f then 0 else if i < k then i + 1 else i) := ⟨_, rfl⟩
    have hX := Lib.hid hX0
    rw [← hX0]
    clear hX0
    have d0 := alloc_t0 w (.int .u8 (f.toNat : Int)) (.int .u8 (k.toNat : Int)) (.iface 77 p) 101
    have d1 := alloc_t1 w (.int .u8 (f.toNat : Int)) (.int .u8 (k.toNat : Int)) (.iface 77 p) 101
    have d2 := alloc_t2 w (.int .u8 (f.toNat : Int)) (.int .u8 (k.toNat : Int)) (.iface 77 p) 101
    have kk := turn_alloc w (.cells #[.int .u8 (f.toNat : Int), .int .u8 (k.toNat : Int), .iface 77 p] 101)
    have ll := alloc_tL w (.cells #[.int .u8 (f.toNat : Int), .int .u8 (k.toNat : Int), .iface 77 p] 101)
    by_cases hb : b = f
    · have h1 : ((b.toNat : Int) == (f.toNat : Int)) = true := by rw [ub_eq]; exact decide_eq_true hb
      have hE : Hid (R = 0) := by show _ = _; rw [hX.out, if_pos hb]
      clear hb
      go_enter Try.func146, Try.ntmps146
      go_wp2_with fail
      go_ret
      exact ⟨by rw [hE.out]; rfl, kk⟩
    · have h1 : ((b.toNat : Int) == (f.toNat : Int)) = false := by rw [ub_eq]; exact decide_eq_false hb
      have hX2 : Hid (R = if i < k then i + 1 else i) := by show _ = _; rw [hX.out, if_neg hb]
      clear hb
      go_enter Try.func146, Try.ntmps146
      go_wp2_with fail
      refine (HC.out _).mono ?_
      rintro e w2 ⟨rfl, k2⟩
      have c1 := cell_turn k2 d1 ll
      have KF := Lib.hid (turn_trans kk k2 (by omega))
      clear d0 d1 d2 kk k2
      by_cases hi : i.toNat < k.toNat
      · have hlt := k.toNat_lt
        have hE : Hid (R = i + 1) := by show _ = _; rw [hX2.out, if_pos (show i < k from hi)]
        have HU := Lib.hid (ub_succ hi)
        go_wp2_with fail
        go_ret
        exact ⟨by rw [hE.out, HU.out]; rfl, KF.out⟩
      · have hE : Hid (R = i) := by show _ = _; rw [hX2.out, if_neg (show ¬ i < k from hi)]
        go_wp2_with fail
        go_ret
        exact ⟨by rw [hE.out]; rfl, KF.out⟩

set_option maxRecDepth 100000 in
set_option maxHeartbeats 2000000 in
theorem ixMv_M (f k b i : UInt8) (p : Value) (HC : Hid (∀ w, Calls Try.prog 146 #[p, .int .u8 (b.toNat : Int)] w (RetByte w i))) (w : World) : Calls Try.prog 146 #[.agg #[.int .u8 (f.toNat : Int), .int .u8 (k.toNat : Int), .iface 101 p], .int .u8 (b.toNat : Int)] w (RetByte w (if b = f then 0 else if i < k then i + 1 else i)) := by
    have hm := methIxM p
    obtain ⟨R, hX0⟩ : ∃ R, R = (if b = f then 0 else if i < k then i + 1 else i) := ⟨_, rfl⟩
    have hX := Lib.hid hX0
    rw [← hX0]
    clear hX0
    have d0 := alloc_t0 w (.int .u8 (f.toNat : Int)) (.int .u8 (k.toNat : Int)) (.iface 101 p) 101
    have d1 := alloc_t1 w (.int .u8 (f.toNat : Int)) (.int .u8 (k.toNat : Int)) (.iface 101 p) 101
    have d2 := alloc_t2 w (.int .u8 (f.toNat : Int)) (.int .u8 (k.toNat : Int)) (.iface 101 p) 101
    have kk := turn_alloc w (.cells #[.int .u8 (f.toNat : Int), .int .u8 (k.toNat : Int), .iface 101 p] 101)
    have ll := alloc_tL w (.cells #[.int .u8 (f.toNat : Int), .int .u8 (k.toNat : Int), .iface 101 p] 101)
    by_cases hb : b = f
    · have h1 : ((b.toNat : Int) == (f.toNat : Int)) = true := by rw [ub_eq]; exact decide_eq_true hb
      have hE : Hid (R = 0) := by show _ = _; rw [hX.out, if_pos hb]
      clear hb
      go_enter Try.func146, Try.ntmps146
      go_wp2_with fail
      go_ret
      exact ⟨by rw [hE.out]; rfl, kk⟩
    · have h1 : ((b.toNat : Int) == (f.toNat : Int)) = false := by rw [ub_eq]; exact decide_eq_false hb
      have hX2 : Hid (R = if i < k then i + 1 else i) := by show _ = _; rw [hX.out, if_neg hb]
      clear hb
      go_enter Try.func146, Try.ntmps146
      go_wp2_with fail
      refine (HC.out _).mono ?_
      rintro e w2 ⟨rfl, k2⟩
      have c1 := cell_turn k2 d1 ll
      have KF := Lib.hid (turn_trans kk k2 (by omega))
      clear d0 d1 d2 kk k2
      by_cases hi : i.toNat < k.toNat
      · have hlt := k.toNat_lt
        have hE : Hid (R = i + 1) := by show _ = _; rw [hX2.out, if_pos (show i < k from hi)]
        have HU := Lib.hid (ub_succ hi)
        go_wp2_with fail
        go_ret
        exact ⟨by rw [hE.out, HU.out]; rfl, KF.out⟩
      · have hE : Hid (R = i) := by show _ = _; rw [hX2.out, if_neg (show ¬ i < k from hi)]
        go_wp2_with fail
        go_ret
        exact ⟨by rw [hE.out]; rfl, KF.out⟩

set_option maxRecDepth 100000 in
set_option maxHeartbeats 2000000 in
theorem atMv_I (f k b : UInt8) (i : UInt8 → UInt8) (p : Value) (HC : Hid (∀ b w, Calls Try.prog 143 #[p, .int .u8 (UInt8.toNat b : Int)] w (RetByte w (i b)))) (w : World) : Calls Try.prog 145 #[.agg #[.int .u8 (f.toNat : Int), .int .u8 (k.toNat : Int), .iface 77 p], .int .u8 (b.toNat : Int)] w (RetByte w (if b = 0 then f else if b ≤ k then i (b - 1) else i b)) := by
    have hm := methAtI p
    obtain ⟨R, hX0⟩ : ∃ R, R = (if b = 0 then f else if b ≤ k then i (b - 1) else i b) := ⟨_, rfl⟩
    have hX := Lib.hid hX0
    rw [← hX0]
    clear hX0
    have d0 := alloc_t0 w (.int .u8 (f.toNat : Int)) (.int .u8 (k.toNat : Int)) (.iface 77 p) 101
    have d1 := alloc_t1 w (.int .u8 (f.toNat : Int)) (.int .u8 (k.toNat : Int)) (.iface 77 p) 101
    have d2 := alloc_t2 w (.int .u8 (f.toNat : Int)) (.int .u8 (k.toNat : Int)) (.iface 77 p) 101
    have kk := turn_alloc w (.cells #[.int .u8 (f.toNat : Int), .int .u8 (k.toNat : Int), .iface 77 p] 101)
    by_cases hb : b = 0
    · have h1 : ((b.toNat : Int) == 0) = true := by rw [hb]; rfl
      have hE : Hid (R = f) := by show _ = _; rw [hX.out, if_pos hb]
      clear hb
      go_enter Try.func145, Try.ntmps145
      go_wp2_with fail
      go_ret
      exact ⟨by rw [hE.out]; rfl, kk⟩
    · have h1 : ((b.toNat : Int) == 0) = false := by rw [beq_eq_false_iff_ne]; intro e; exact hb (UInt8.toNat_inj.1 (by simp; omega))
      have hX2 : Hid (R = if b ≤ k then i (b - 1) else i b) := by show _ = _; rw [hX.out, if_neg hb]
      by_cases hi : b.toNat ≤ k.toNat
      · have hlt := b.toNat_lt
        have hpos : 0 < b.toNat := by
          rcases Nat.eq_zero_or_pos b.toNat with h | h
          · exact absurd (UInt8.toNat_inj.1 (by rw [h]; rfl)) hb
          · exact h
        have hE : Hid (R = i (b - 1)) := by show _ = _; rw [hX2.out, if_pos (show b ≤ k from hi)]
        have HC2 := Lib.hid (HC.out (b - 1))
        rw [ub_pred hb] at HC2
        clear hb
        go_enter Try.func145, Try.ntmps145
        go_wp2_with fail
        refine (HC2.out _).mono ?_
        rintro e w2 ⟨rfl, k2⟩
        have KF := Lib.hid (turn_trans kk k2 (by omega))
        clear d0 d1 d2 kk k2
        go_wp2_with fail
        go_ret
        exact ⟨by rw [hE.out]; rfl, KF.out⟩
      · have hE : Hid (R = i b) := by show _ = _; rw [hX2.out, if_neg (show ¬ b ≤ k from hi)]
        clear hb
        go_enter Try.func145, Try.ntmps145
        go_wp2_with fail
        refine (HC.out b _).mono ?_
        rintro e w2 ⟨rfl, k2⟩
        have KF := Lib.hid (turn_trans kk k2 (by omega))
        clear d0 d1 d2 kk k2
        go_wp2_with fail
        go_ret
        exact ⟨by rw [hE.out]; rfl, KF.out⟩

set_option maxRecDepth 100000 in
set_option maxHeartbeats 2000000 in
theorem atMv_M (f k b : UInt8) (i : UInt8 → UInt8) (p : Value) (HC : Hid (∀ b w, Calls Try.prog 145 #[p, .int .u8 (UInt8.toNat b : Int)] w (RetByte w (i b)))) (w : World) : Calls Try.prog 145 #[.agg #[.int .u8 (f.toNat : Int), .int .u8 (k.toNat : Int), .iface 101 p], .int .u8 (b.toNat : Int)] w (RetByte w (if b = 0 then f else if b ≤ k then i (b - 1) else i b)) := by
    have hm := methAtM p
    obtain ⟨R, hX0⟩ : ∃ R, R = (if b = 0 then f else if b ≤ k then i (b - 1) else i b) := ⟨_, rfl⟩
    have hX := Lib.hid hX0
    rw [← hX0]
    clear hX0
    have d0 := alloc_t0 w (.int .u8 (f.toNat : Int)) (.int .u8 (k.toNat : Int)) (.iface 101 p) 101
    have d1 := alloc_t1 w (.int .u8 (f.toNat : Int)) (.int .u8 (k.toNat : Int)) (.iface 101 p) 101
    have d2 := alloc_t2 w (.int .u8 (f.toNat : Int)) (.int .u8 (k.toNat : Int)) (.iface 101 p) 101
    have kk := turn_alloc w (.cells #[.int .u8 (f.toNat : Int), .int .u8 (k.toNat : Int), .iface 101 p] 101)
    by_cases hb : b = 0
    · have h1 : ((b.toNat : Int) == 0) = true := by rw [hb]; rfl
      have hE : Hid (R = f) := by show _ = _; rw [hX.out, if_pos hb]
      clear hb
      go_enter Try.func145, Try.ntmps145
      go_wp2_with fail
      go_ret
      exact ⟨by rw [hE.out]; rfl, kk⟩
    · have h1 : ((b.toNat : Int) == 0) = false := by rw [beq_eq_false_iff_ne]; intro e; exact hb (UInt8.toNat_inj.1 (by simp; omega))
      have hX2 : Hid (R = if b ≤ k then i (b - 1) else i b) := by show _ = _; rw [hX.out, if_neg hb]
      by_cases hi : b.toNat ≤ k.toNat
      · have hlt := b.toNat_lt
        have hpos : 0 < b.toNat := by
          rcases Nat.eq_zero_or_pos b.toNat with h | h
          · exact absurd (UInt8.toNat_inj.1 (by rw [h]; rfl)) hb
          · exact h
        have hE : Hid (R = i (b - 1)) := by show _ = _; rw [hX2.out, if_pos (show b ≤ k from hi)]
        have HC2 := Lib.hid (HC.out (b - 1))
        rw [ub_pred hb] at HC2
        clear hb
        go_enter Try.func145, Try.ntmps145
        go_wp2_with fail
        refine (HC2.out _).mono ?_
        rintro e w2 ⟨rfl, k2⟩
        have KF := Lib.hid (turn_trans kk k2 (by omega))
        clear d0 d1 d2 kk k2
        go_wp2_with fail
        go_ret
        exact ⟨by rw [hE.out]; rfl, KF.out⟩
      · have hE : Hid (R = i b) := by show _ = _; rw [hX2.out, if_neg (show ¬ b ≤ k from hi)]
        clear hb
        go_enter Try.func145, Try.ntmps145
        go_wp2_with fail
        refine (HC.out b _).mono ?_
        rintro e w2 ⟨rfl, k2⟩
        have KF := Lib.hid (turn_trans kk k2 (by omega))
        clear d0 d1 d2 kk k2
        go_wp2_with fail
        go_ret
        exact ⟨by rw [hE.out]; rfl, KF.out⟩

theorem ix_own : ∀ (r : Rec) (b : UInt8) (w : World), Calls Try.prog (ixF r) #[payR r, .int .u8 (b.toNat : Int)] w (RetByte w (ixOf r b))
  | .inc, b, w => ixInc_own b w
  | .mv f k .inc, b, w => ixMv_I f k b (ixOf .inc b) (payR .inc) (Lib.hid fun w => ix_own .inc b w) w
  | .mv f k (.mv f' k' r), b, w => ixMv_M f k b (ixOf (.mv f' k' r) b) (payR (.mv f' k' r)) (Lib.hid fun w => ix_own (.mv f' k' r) b w) w

theorem at_own : ∀ (r : Rec) (b : UInt8) (w : World), Calls Try.prog (atF r) #[payR r, .int .u8 (b.toNat : Int)] w (RetByte w (atOf r b))
  | .inc, b, w => atInc_own b w
  | .mv f k .inc, b, w => atMv_I f k b (atOf .inc) (payR .inc) (Lib.hid fun b w => at_own .inc b w) w
  | .mv f k (.mv f' k' r), b, w => atMv_M f k b (atOf (.mv f' k' r)) (payR (.mv f' k' r)) (Lib.hid fun b w => at_own (.mv f' k' r) b w) w

set_option maxRecDepth 100000 in
set_option maxHeartbeats 2000000 in
theorem withFront_own (b : UInt8) (r : Rec) (w : World) : Calls Try.prog 74 #[.int .u8 (b.toNat : Int), .iface (tyR r) (payR r)] w (fun e w' => e = .returned (.iface (tyR (frontR b r)) (payR (frontR b r))) ∧ TurnIn 0 0 w w') := by
  have HC := Lib.hid (fun w => ix_own r b w)
  have hm := methIx r
  cases r with
  | inc =>
    have HE : Hid (frontR b .inc = .mv b (ixOf .inc b) .inc) := Lib.hid rfl
    rw [HE.out]
    show Calls Try.prog 74 #[.int .u8 (b.toNat : Int), .iface 77 (.agg #[])] w (fun e w' => e = .returned (.iface 101 (.agg #[.int .u8 (b.toNat : Int), .int .u8 ((ixOf .inc b).toNat : Int), .iface 77 (.agg #[])])) ∧ TurnIn 0 0 w w')
    have HC' : Hid (∀ w, Calls Try.prog 144 #[.agg #[], .int .u8 (b.toNat : Int)] w (RetByte w (ixOf .inc b))) := HC
    have hm' := methIxI
    have ha := assI
    have kk := turn_alloc w (.cells #[.int .u8 0, .int .u8 0, .nilIface] 101)
    generalize ixOf .inc b = i at *
    clear hm HC
    go_enter Try.func74, Try.ntmps74
    go_wp2_with fail
    refine (HC'.out _).mono ?_
    rintro e w2 ⟨rfl, k2⟩
    have KF := Lib.hid (turn_trans kk k2 (by omega))
    clear kk k2
    go_wp2_with fail
    go_ret
    exact ⟨rfl, KF.out⟩
  | mv f k r =>
    have HC' : Hid (∀ w, Calls Try.prog 146 #[.agg #[.int .u8 (f.toNat : Int), .int .u8 (k.toNat : Int), .iface (tyR r) (payR r)], .int .u8 (b.toNat : Int)] w (RetByte w (ixOf (.mv f k r) b))) := HC
    have hm' := methIxM
    have ha := assM
    by_cases hb : f = b
    · have HE : Hid (frontR b (.mv f k r) = .mv f k r) := by show _ = _; simp [frontR, isFront, hb]
      rw [HE.out]
      show Calls Try.prog 74 #[.int .u8 (b.toNat : Int), .iface 101 (.agg #[.int .u8 (f.toNat : Int), .int .u8 (k.toNat : Int), .iface (tyR r) (payR r)])] w (fun e w' => e = .returned (.iface 101 (.agg #[.int .u8 (f.toNat : Int), .int .u8 (k.toNat : Int), .iface (tyR r) (payR r)])) ∧ TurnIn 0 0 w w')
      have h1 : ((f.toNat : Int) == (b.toNat : Int)) = true := by rw [ub_eq]; exact decide_eq_true hb
      clear hm HC HC' HE hb
      generalize payR r = p at *
      generalize tyR r = t at *
      have kk := turn_alloc w (.cells #[.int .u8 (f.toNat : Int), .int .u8 (k.toNat : Int), .iface t p] 101)
      have d0 := alloc_t0 w (.int .u8 (f.toNat : Int)) (.int .u8 (k.toNat : Int)) (.iface t p) 101
      go_enter Try.func74, Try.ntmps74
      go_wp2_with fail
      go_ret
      exact ⟨rfl, kk⟩
    · have HE : Hid (frontR b (.mv f k r) = .mv b (ixOf (.mv f k r) b) (.mv f k r)) := by show _ = _; simp [frontR, isFront, hb]
      rw [HE.out]
      show Calls Try.prog 74 #[.int .u8 (b.toNat : Int), .iface 101 (.agg #[.int .u8 (f.toNat : Int), .int .u8 (k.toNat : Int), .iface (tyR r) (payR r)])] w (fun e w' => e = .returned (.iface 101 (.agg #[.int .u8 (b.toNat : Int), .int .u8 ((ixOf (.mv f k r) b).toNat : Int), .iface 101 (.agg #[.int .u8 (f.toNat : Int), .int .u8 (k.toNat : Int), .iface (tyR r) (payR r)])])) ∧ TurnIn 0 0 w w')
      have h1 : ((f.toNat : Int) == (b.toNat : Int)) = false := by rw [ub_eq]; exact decide_eq_false hb
      clear hm HC HE hb
      generalize payR r = p at *
      generalize tyR r = t at *
      generalize ixOf (.mv f k r) b = i at *
      have kk := turn_alloc w (.cells #[.int .u8 (f.toNat : Int), .int .u8 (k.toNat : Int), .iface t p] 101)
      have d0 := alloc_t0 w (.int .u8 (f.toNat : Int)) (.int .u8 (k.toNat : Int)) (.iface t p) 101
      go_enter Try.func74, Try.ntmps74
      go_wp2_with fail
      refine (HC'.out _).mono ?_
      rintro e w2 ⟨rfl, k2⟩
      have KF := Lib.hid (turn_trans kk k2 (by omega))
      clear kk k2 d0
      go_wp2_with fail
      go_ret
      exact ⟨rfl, KF.out⟩

end Go.Proofs.Ytdbgkpmdimapdaa
