/- Pieces and helps in the laws: converted, measured, compared; opened from a law's arguments. -/
import Derived.Test.YtlkoafnlklhaeaaDoorHelpI
import Derived.Test.YtlkoafnlklhaeaaDoorMatArgs
import Derived.Test.YtlkoafnlklhaeaaDoorBytesOwn
import Derived.Test.YtlkoafnlklhaeaaDoorOpenArgs
import Derived.Test.YtlkoafnlklhaeaaDoorOpenMsr
set_option linter.unusedSimpArgs false
set_option linter.unusedVariables false
namespace G294
open Go Go.RowKit
/-- a new piece is returned: its bytes are of the call's own -/
def RetPiece (E : TypeId) (w : World) (p : Int) (l : List UInt8) (e : Ending) (w' : World) : Prop := ∃ v, e = .returned (pieV p v) ∧ OwnBytes E w' w.heap.size w'.heap.size v l ∧ TurnIn 0 0 w w'
end G294
namespace Go.Proofs.YtlkoafnlklhaeaaDoor
open Go.RowKit G294

set_option maxRecDepth 100000 in
set_option maxHeartbeats 1000000 in
theorem szPiece_yes (p : Int) (v : Value) (l : List UInt8) (left : Nat) (w : World) (hv : Seen w v (bys l)) (h : l.length ≤ left) (hl : left ≤ 1048576) :
    Calls Tryd.prog 18 #[pieV p v, .int .i64 left] w fun e w' => e = .returned (.int .i64 ((left - l.length : Nat) : Int)) ∧ TurnIn 0 0 w w' := by
  obtain ⟨A, c, hvv⟩ := hv.len
  rw [bys_length] at hvv
  subst hvv
  have a1 := turn_alloc w (.cells #[.int .i64 p, .slice A l.length c] 33)
  have cv := alloc_duo1 w (.int .i64 p) (.slice A l.length c) 33
  have HS := Lib.hid (hv.touch a1)
  clear hv
  obtain ⟨z, hz⟩ : ∃ z, z = left - l.length := ⟨_, rfl⟩
  have HZ := Lib.hid hz
  have hz0 : ¬ (z : Int) < 0 := by omega
  rw [← hz]
  clear hz
  go_enter Tryd.func18, Tryd.ntmps18
  go_wp2_with fail
  refine (szByteS_yes _ l left _ HS.out h hl).mono ?_
  rintro e w' ⟨rfl, rfl⟩
  rw [← HZ.out]
  go_wp2_with fail
  go_ret
  exact ⟨rfl, a1⟩

set_option maxRecDepth 100000 in
set_option maxHeartbeats 1000000 in
theorem szPiece_no (p : Int) (v : Value) (l : List UInt8) (left : Nat) (w : World) (hv : Seen w v (bys l)) (h : left < l.length) (hl : left ≤ 1048576) :
    Calls Tryd.prog 18 #[pieV p v, .int .i64 left] w fun e w' => e = .returned (.int .i64 (-1)) ∧ TurnIn 0 0 w w' := by
  obtain ⟨A, c, hvv⟩ := hv.len
  rw [bys_length] at hvv
  subst hvv
  have a1 := turn_alloc w (.cells #[.int .i64 p, .slice A l.length c] 33)
  have cv := alloc_duo1 w (.int .i64 p) (.slice A l.length c) 33
  have HS := Lib.hid (hv.touch a1)
  clear hv
  go_enter Tryd.func18, Tryd.ntmps18
  go_wp2_with fail
  refine (szByteS_no _ l left _ HS.out h hl).mono ?_
  rintro e w' ⟨rfl, rfl⟩
  go_wp2_with fail
  go_ret
  exact ⟨rfl, a1⟩

set_option maxRecDepth 100000 in
set_option maxHeartbeats 2000000 in
theorem toPiece_own (p : Int) (v : Value) (l : List UInt8) (w : World) (hv : Seen w v (bys l)) (hn : l.length ≤ 1048576) : Calls Tryd.prog 20 #[pieV p v] w (RetPiece 5 w p l) := by
  obtain ⟨A, c, hvv⟩ := hv.len
  rw [bys_length] at hvv
  subst hvv
  have kb : TurnIn 0 0 w (((w.alloc (.cells #[.int .i64 p, .slice A l.length c] 33)).alloc (.cells #[.int .i64 0, .slice none 0 0] 39)).alloc (.cells #[.int .i64 p, .slice none 0 0] 39)) := turn_trans (turn_trans (turn_alloc _ _) (turn_alloc _ _) (by omega)) (turn_alloc _ _) (by omega)
  have z0 : (((w.alloc (.cells #[.int .i64 p, .slice A l.length c] 33)).alloc (.cells #[.int .i64 0, .slice none 0 0] 39)).alloc (.cells #[.int .i64 p, .slice none 0 0] 39)).heap.size = w.heap.size + 3 := by simp
  have kc := turn_alloc ((w.alloc (.cells #[.int .i64 p, .slice A l.length c] 33)).alloc (.cells #[.int .i64 0, .slice none 0 0] 39)) (.cells #[.int .i64 p, .slice none 0 0] 39)
  have r0 := cell_turn kc (alloc_duo0 (w.alloc (.cells #[.int .i64 p, .slice A l.length c] 33)) (.int .i64 0) (.slice none 0 0) 39) (alloc_lt _ _)
  have r1 := cell_turn kc (alloc_duo1 (w.alloc (.cells #[.int .i64 p, .slice A l.length c] 33)) (.int .i64 0) (.slice none 0 0) 39) (alloc_lt _ _)
  have g0 := frozen_turn kc (alloc_frz (w.alloc (.cells #[.int .i64 p, .slice A l.length c] 33)) #[.int .i64 0, .slice none 0 0] 39 0) (alloc_lt _ _)
  have g1 := frozen_turn kc (alloc_frz (w.alloc (.cells #[.int .i64 p, .slice A l.length c] 33)) #[.int .i64 0, .slice none 0 0] 39 1) (alloc_lt _ _)
  have o0 := alloc_duo0 ((w.alloc (.cells #[.int .i64 p, .slice A l.length c] 33)).alloc (.cells #[.int .i64 0, .slice none 0 0] 39)) (.int .i64 p) (.slice none 0 0) 39
  have o1 := alloc_duo1 ((w.alloc (.cells #[.int .i64 p, .slice A l.length c] 33)).alloc (.cells #[.int .i64 0, .slice none 0 0] 39)) (.int .i64 p) (.slice none 0 0) 39
  have f1 := alloc_frz ((w.alloc (.cells #[.int .i64 p, .slice A l.length c] 33)).alloc (.cells #[.int .i64 0, .slice none 0 0] 39)) #[.int .i64 p, .slice none 0 0] 39 1
  rw [World.size_alloc] at r0 r1 g0 g1
  rw [World.size_alloc, World.size_alloc] at o0 o1 f1
  clear kc
  have HS := Lib.hid (hv.touch kb)
  clear hv
  go_enter Tryd.func20, Tryd.ntmps20
  go_wp2_with fail
  refine (toByteS_own _ l _ HS.out hn).mono ?_
  rintro e w2 ⟨u, rfl, hu, k2⟩
  have s2 := k2.size
  replace r0 := cell_turn k2 r0 (by omega)
  replace r1 := cell_turn k2 r1 (by omega)
  replace g0 := frozen_turn k2 g0 (by omega)
  replace g1 := frozen_turn k2 g1 (by omega)
  replace o0 := cell_turn k2 o0 (by omega)
  replace o1 := cell_turn k2 o1 (by omega)
  replace f1 := frozen_turn k2 f1 (by omega)
  obtain ⟨A2, n2, c2, rfl⟩ := own_isSlice hu.1
  have HU := Lib.hid hu
  have hb2 := (turn_trans kb k2 (by omega)).to_below
  have ks := turn_setCell w2 (w.heap.size + 1 + 1) 1 (.slice A2 n2 c2)
  have hb3 : Below w.heap.size w (w2.setCell ⟨w.heap.size + 1 + 1, 1, none⟩ (.slice A2 n2 c2)) := hb2.setCell (show w.heap.size ≤ w.heap.size + 1 + 1 by omega) _
  have q1 : (w2.setCell ⟨w.heap.size + 1 + 1, 1, none⟩ (.slice A2 n2 c2)).cell? ⟨w.heap.size + 1 + 1, 1, none⟩ = some (.slice A2 n2 c2) := World.cell?_setCell_same _ _ _ o1
  have q0 : (w2.setCell ⟨w.heap.size + 1 + 1, 1, none⟩ (.slice A2 n2 c2)).cell? ⟨w.heap.size + 1 + 1, 0, none⟩ = some (.int .i64 p) := (World.cell?_setCell_other _ _ _ _ (by simp)).trans o0
  have t0 := (cell_set_other w2 (B := w.heap.size + 1 + 1) (B' := w.heap.size + 1) 1 0 (.slice A2 n2 c2) (by omega)).trans r0
  have t1 := (cell_set_other w2 (B := w.heap.size + 1 + 1) (B' := w.heap.size + 1) 1 1 (.slice A2 n2 c2) (by omega)).trans r1
  have u0 := (frozen_set_other w2 (B := w.heap.size + 1 + 1) (B' := w.heap.size + 1) 1 0 (.slice A2 n2 c2) (by omega)).trans g0
  have u1 := (frozen_set_other w2 (B := w.heap.size + 1 + 1) (B' := w.heap.size + 1) 1 1 (.slice A2 n2 c2) (by omega)).trans g1
  clear hu
  go_wp2_with fail
  refine bodyPost_ret (v := pieV p (.slice A2 n2 c2)) (by simp [results, Tryd.results20, go_sem, t0, t1, u0, u1]) rfl ?_
  have kk0 := turn_setCell (w2.setCell ⟨w.heap.size + 1 + 1, 1, none⟩ (.slice A2 n2 c2)) (w.heap.size + 1) 0 (.int .i64 p)
  have kk1 := turn_setCell ((w2.setCell ⟨w.heap.size + 1 + 1, 1, none⟩ (.slice A2 n2 c2)).setCell ⟨w.heap.size + 1, 0, none⟩ (.int .i64 p)) (w.heap.size + 1) 1 (.slice A2 n2 c2)
  refine ⟨_, rfl, (((HU.out.keep ks (by omega)).keep kk0 (by omega)).keep kk1 (by omega)).wider (by omega) (by simp) (by simp), TurnIn.of_below ?_⟩
  exact (hb3.setCell (p := ⟨w.heap.size + 1, 0, none⟩) (show w.heap.size ≤ w.heap.size + 1 by omega) _).setCell (p := ⟨w.heap.size + 1, 1, none⟩) (show w.heap.size ≤ w.heap.size + 1 by omega) _

set_option maxRecDepth 100000 in
set_option maxHeartbeats 1000000 in
theorem eqPiece_same (p : Int) (v u : Value) (l : List UInt8) (w : World) (hv : Seen w v (bys l)) (hu : Seen w u (bys l)) : Calls Tryd.prog 23 #[pieV p v, pieV p u] w (RetBool w true) := by
  obtain ⟨A, c, hvv⟩ := hv.len
  rw [bys_length] at hvv
  subst hvv
  obtain ⟨A2, c2, huu⟩ := hu.len
  rw [bys_length] at huu
  subst huu
  have kb : TurnIn 0 0 w ((w.alloc (.cells #[.int .i64 p, .slice A l.length c] 39)).alloc (.cells #[.int .i64 p, .slice A2 l.length c2] 39)) := turn_trans (turn_alloc _ _) (turn_alloc _ _) (by omega)
  have c0 := cell_turn (turn_alloc (w.alloc (.cells #[.int .i64 p, .slice A l.length c] 39)) (.cells #[.int .i64 p, .slice A2 l.length c2] 39)) (alloc_duo0 w (.int .i64 p) (.slice A l.length c) 39) (alloc_lt _ _)
  have c1 := cell_turn (turn_alloc (w.alloc (.cells #[.int .i64 p, .slice A l.length c] 39)) (.cells #[.int .i64 p, .slice A2 l.length c2] 39)) (alloc_duo1 w (.int .i64 p) (.slice A l.length c) 39) (alloc_lt _ _)
  have d0 := alloc_duo0 (w.alloc (.cells #[.int .i64 p, .slice A l.length c] 39)) (.int .i64 p) (.slice A2 l.length c2) 39
  have d1 := alloc_duo1 (w.alloc (.cells #[.int .i64 p, .slice A l.length c] 39)) (.int .i64 p) (.slice A2 l.length c2) 39
  rw [World.size_alloc] at d0 d1
  have HV := Lib.hid (hv.touch kb)
  have HU := Lib.hid (hu.touch kb)
  clear hv hu
  have hne : (p != p) = false := by simp
  go_enter Tryd.func23, Tryd.ntmps23
  go_wp2_with fail
  refine (eqByteS_same _ _ l _ HV.out HU.out).mono ?_
  rintro e w2 ⟨rfl, k2⟩
  go_wp2_with fail
  go_ret
  exact ⟨rfl, turn_trans kb k2 (by omega)⟩

set_option maxRecDepth 100000 in
set_option maxHeartbeats 1000000 in
theorem eqHelp_same (a : Int) (b : UInt8) (w : World) : Calls Tryd.prog 22 #[.agg #[.int .i64 a, .int .u8 (b.toNat : Int)], .agg #[.int .i64 a, .int .u8 (b.toNat : Int)]] w (RetBool w true) := by
  have kb : TurnIn 0 0 w ((w.alloc (.cells #[.int .i64 a, .int .u8 (b.toNat : Int)] 36)).alloc (.cells #[.int .i64 a, .int .u8 (b.toNat : Int)] 36)) := turn_trans (turn_alloc _ _) (turn_alloc _ _) (by omega)
  have hne : (a != a) = false := by simp
  have hnb : (((b.toNat : Nat) : Int) != ((b.toNat : Nat) : Int)) = false := by simp
  go_enter Tryd.func22, Tryd.ntmps22
  go_wp2_with fail
  go_ret
  exact ⟨rfl, kb⟩

end Go.Proofs.YtlkoafnlklhaeaaDoor
