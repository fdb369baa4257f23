/- Joined texts: Conv, Turned, FieldWalks, FieldWalksB, Good, MatI, Cur3. -/
import Derived.Test.YtlkoafnlklhaeabDoorBd02
import Derived.Test.YtlkoafnlklhaeabDoorProg
import Derived.WalkKit
import Derived.WalkSpells
import Derived.WalkLawsBesides
import Derived.Lib.Hide
import Derived.Test.YtlkoafnlklhaeabDoorBd01
import Derived.Deep.QuietTactic
import Derived.BigQuiet
import Derived.Deep.RegionHeld3
import Derived.Test.YtlkoafnlklhaeabDoorBd00
set_option linter.unusedSimpArgs false
set_option linter.unusedVariables false
/- identityGrid and converted, on bytes and on field bytes. -/
namespace Go.Proofs.YtlkoafnlklhaeabDoor
open Go.RowKit G294

set_option maxHeartbeats 1000000 in
theorem identAtB (r c B : Nat) (w : World) (hB : B < w.heap.size) (hv : w.cell? ⟨B, 0, none⟩ = some (.int .u8 1)) :
    GivesAt Tryd.prog 81 #[.pointer (some ⟨B, 0, none⟩)] r c idF w := by
  intro W i j hb hi hj
  have hv' := (hb.cell (p := ⟨B, 0, none⟩) hB).trans hv
  clear hv
  by_cases he : i = j
  · have hbb : ((i : Int) == (j : Int)) = true := by simp [he]
    have HF : Hid (idF i j = 1) := by show idF i j = 1; simp [idF, he]
    clear he
    go_enter Tryd.func81, Tryd.ntmps81
    go_wp2_with fail
    go_ret
    exact ⟨by rw [HF.out]; rfl, 0, rfl⟩
  · have hbb : ((i : Int) == (j : Int)) = false := by simp; omega
    have HF : Hid (idF i j = 0) := by show idF i j = 0; simp [idF, he]
    clear he
    go_enter Tryd.func81, Tryd.ntmps81
    go_wp2_with fail
    go_ret
    exact ⟨by rw [HF.out]; rfl, 0, rfl⟩

set_option maxHeartbeats 1000000 in
theorem identityGridB (n : Nat) (w : World) (hn : n ≤ 1000) :
    Calls Tryd.prog 65 #[.int .i64 n, .int .u8 1] w (RetM 5 22 w (mkM n n idF)) := by
  have hb1 : Below w.heap.size w (w.alloc (.cells #[.int .u8 1] 5)) := (Below.refl _ _).alloc (Nat.le_refl _) _
  have HG := Lib.hid (identAtB n n w.heap.size (w.alloc (.cells #[.int .u8 1] 5)) (by simp) (by simp))
  have eg := enters_of Tryd.func81 (by kernel_rfl) rfl
  have HB1 := Lib.hid hb1
  clear hb1
  go_enter Tryd.func65, Tryd.ntmps65
  go_wp2_with fail
  refine (newGridB n n _ _ _ _ eg HG.out hn hn).mono ?_
  rintro e w' ⟨v', vs', rfl, hM, ht⟩
  go_wp2_with fail
  go_ret
  exact RetM.base ⟨_, _, rfl, hM, ht⟩ HB1.out

set_option maxHeartbeats 400000 in
theorem toB (x : UInt8) (w : World) : Calls Tryd.prog 93 #[.int .u8 (x.toNat : Int)] w fun e w' => e = .returned (.int .u8 (x.toNat : Int)) ∧ w = w' := by
  go_enter Tryd.func93, Tryd.ntmps93
  go_wp2_with fail
  go_ret
  exact ⟨rfl, rfl⟩

set_option maxHeartbeats 1000000 in
theorem convertedAtB (r c Bt Bg : Nat) (F : Ents) (v : Value) (w : World) (hBt : Bt < w.heap.size) (hBg : Bg < w.heap.size) (hvt : w.cell? ⟨Bt, 0, none⟩ = some (.func (.func 93) #[] #[])) (hv : w.cell? ⟨Bg, 0, none⟩ = some v) (hs : SeenM w v (mkM r c F)) :
    GivesAt Tryd.prog 104 #[.pointer (some ⟨Bt, 0, none⟩), .pointer (some ⟨Bg, 0, none⟩)] r c F w := by
  intro W i j hb hi hj
  have hv' := (hb.cell (p := ⟨Bg, 0, none⟩) hBg).trans hv
  have hvt' := (hb.cell (p := ⟨Bt, 0, none⟩) hBt).trans hvt
  obtain ⟨bb, off, cp, b', off', c', rfl, hl1, h1, h2, h3, hl2, h4⟩ := (hs.below hb).cellF i j hi hj
  unfold maxLen at hl1 hl2
  have hi0 : (0 : Int) ≤ (i : Int) := Int.natCast_nonneg _
  have hj0 : (0 : Int) ≤ (j : Int) := Int.natCast_nonneg _
  have hi' : (i : Int) < (r : Int) := by omega
  have hj' : (j : Int) < (c : Int) := by omega
  clear hv hs hvt
  go_enter Tryd.func104, Tryd.ntmps104
  go_wp2_with fail
  go_quiet ((go_at_call 93; exact quietly (toB _ _)))
  go_wp2_with fail
  go_ret
  exact ⟨rfl, _, rfl⟩

set_option maxHeartbeats 1000000 in
theorem convertedB (r c : Nat) (F : Ents) (v : Value) (w : World) (hs : SeenM w v (mkM r c F)) (hr : 1 ≤ r) (hr2 : r ≤ 1000) (hc : c ≤ 1000) :
    Calls Tryd.prog 92 #[v, .func (.func 93) #[] #[]] w (RetM 109 122 w (mkM r c F)) := by
  have hb0 : Below w.heap.size w (w.alloc (.cells #[v] 95)) := (Below.refl _ _).alloc (Nat.le_refl _) _
  have hb1 : Below w.heap.size w ((w.alloc (.cells #[v] 95)).alloc (.cells #[.func (.func 93) #[] #[]] 125)) := hb0.alloc (by simp) _
  have hG := convertedAtB r c (w.heap.size + 1) w.heap.size F v ((w.alloc (.cells #[v] 95)).alloc (.cells #[.func (.func 93) #[] #[]] 125)) (by simp) (by simp; omega) (by simp) (by simp) (hs.below hb1)
  have HG := Lib.hid hG
  obtain ⟨bb, off, cp, A, c', rfl, hl1, h1, h2, hl2, h3⟩ := hs.rowF 0 (by omega)
  have eg := enters_of Tryd.func104 (by kernel_rfl) rfl
  have HB1 := Lib.hid hb1
  unfold maxLen at hl1 hl2
  rw [Nat.add_zero] at h2
  have h0 : 0 < r := hr
  have hne : bb ≠ w.heap.size := by omega
  have hne' : w.heap.size ≠ bb := by omega
  have hq1 : ((w.alloc (.cells #[.slice (some ⟨bb, off, none⟩) r cp] 95)).alloc (.cells #[.func (.func 93) #[] #[]] 125)).cell? ⟨w.heap.size, 0, none⟩ = some (.slice (some ⟨bb, off, none⟩) r cp) := by simp
  have hq2 : ((w.alloc (.cells #[.slice (some ⟨bb, off, none⟩) r cp] 95)).alloc (.cells #[.func (.func 93) #[] #[]] 125)).cell? ⟨bb, off, none⟩ = some (.slice A c c') := (HB1.out.cell (p := ⟨bb, off, none⟩) h1).trans h2
  have hsz : w.heap.size < ((w.alloc (.cells #[.slice (some ⟨bb, off, none⟩) r cp] 95)).alloc (.cells #[.func (.func 93) #[] #[]] 125)).heap.size := by simp; omega
  clear hG hb1 hb0
  go_enter Tryd.func92, Tryd.ntmps92
  go_wp2_with fail
  generalize ((w.alloc (.cells #[.slice (some ⟨bb, off, none⟩) r cp] 95)).alloc (.cells #[.func (.func 93) #[] #[]] 125)) = w1 at *
  go_region_held3 (fun w' => w'.cell? ⟨w.heap.size, 0, none⟩ = some (.slice (some ⟨bb, off, none⟩) r cp) ∧ w'.cell? ⟨bb, off, none⟩ = some (.slice A c c'))
    (first | exact ⟨hq1, hq2⟩ | exact ⟨q1, q2⟩)
    ((go_at_call 90; refine (newGridF r c _ _ _ w1.drew eg (HG.out.later (Below.refl _ _).drew) (by omega) (by omega)).mono ?_; rintro e w' ⟨v', vs', rfl, hM, ht⟩; have q1 := (ht.to_below.cell (p := ⟨w.heap.size, 0, none⟩) hsz).trans hq1; have q2 := (ht.to_below.cell (p := ⟨bb, off, none⟩) (Nat.lt_trans h1 hsz)).trans hq2))
  go_wp2_with fail
  go_ret
  exact RetM.base ⟨_, _, rfl, hM, ht⟩ HB1.out.drew

set_option maxHeartbeats 1000000 in
theorem identAtF (r c B : Nat) (w : World) (hB : B < w.heap.size) (hv : w.cell? ⟨B, 0, none⟩ = some (.int .u8 1)) :
    GivesAt Tryd.prog 94 #[.pointer (some ⟨B, 0, none⟩)] r c idF w := by
  intro W i j hb hi hj
  have hv' := (hb.cell (p := ⟨B, 0, none⟩) hB).trans hv
  clear hv
  by_cases he : i = j
  · have hbb : ((i : Int) == (j : Int)) = true := by simp [he]
    have HF : Hid (idF i j = 1) := by show idF i j = 1; simp [idF, he]
    clear he
    go_enter Tryd.func94, Tryd.ntmps94
    go_wp2_with fail
    go_ret
    exact ⟨by rw [HF.out]; rfl, 0, rfl⟩
  · have hbb : ((i : Int) == (j : Int)) = false := by simp; omega
    have HF : Hid (idF i j = 0) := by show idF i j = 0; simp [idF, he]
    clear he
    go_enter Tryd.func94, Tryd.ntmps94
    go_wp2_with fail
    go_ret
    exact ⟨by rw [HF.out]; rfl, 0, rfl⟩

set_option maxHeartbeats 1000000 in
theorem identityGridF (n : Nat) (w : World) (hn : n ≤ 1000) :
    Calls Tryd.prog 79 #[.int .i64 n, .int .u8 1] w (RetM 109 122 w (mkM n n idF)) := by
  have hb1 : Below w.heap.size w (w.alloc (.cells #[.int .u8 1] 109)) := (Below.refl _ _).alloc (Nat.le_refl _) _
  have HG := Lib.hid (identAtF n n w.heap.size (w.alloc (.cells #[.int .u8 1] 109)) (by simp) (by simp))
  have eg := enters_of Tryd.func94 (by kernel_rfl) rfl
  have HB1 := Lib.hid hb1
  clear hb1
  go_enter Tryd.func79, Tryd.ntmps79
  go_wp2_with fail
  refine (newGridF n n _ _ _ _ eg HG.out hn hn).mono ?_
  rintro e w' ⟨v', vs', rfl, hM, ht⟩
  go_wp2_with fail
  go_ret
  exact RetM.base ⟨_, _, rfl, hM, ht⟩ HB1.out

set_option maxHeartbeats 400000 in
theorem toF (x : UInt8) (w : World) : Calls Tryd.prog 96 #[.int .u8 (x.toNat : Int)] w fun e w' => e = .returned (.int .u8 (x.toNat : Int)) ∧ w = w' := by
  go_enter Tryd.func96, Tryd.ntmps96
  go_wp2_with fail
  go_ret
  exact ⟨rfl, rfl⟩

set_option maxHeartbeats 1000000 in
theorem convertedAtF (r c Bt Bg : Nat) (F : Ents) (v : Value) (w : World) (hBt : Bt < w.heap.size) (hBg : Bg < w.heap.size) (hvt : w.cell? ⟨Bt, 0, none⟩ = some (.func (.func 96) #[] #[])) (hv : w.cell? ⟨Bg, 0, none⟩ = some v) (hs : SeenM w v (mkM r c F)) :
    GivesAt Tryd.prog 105 #[.pointer (some ⟨Bt, 0, none⟩), .pointer (some ⟨Bg, 0, none⟩)] r c F w := by
  intro W i j hb hi hj
  have hv' := (hb.cell (p := ⟨Bg, 0, none⟩) hBg).trans hv
  have hvt' := (hb.cell (p := ⟨Bt, 0, none⟩) hBt).trans hvt
  obtain ⟨bb, off, cp, b', off', c', rfl, hl1, h1, h2, h3, hl2, h4⟩ := (hs.below hb).cellF i j hi hj
  unfold maxLen at hl1 hl2
  have hi0 : (0 : Int) ≤ (i : Int) := Int.natCast_nonneg _
  have hj0 : (0 : Int) ≤ (j : Int) := Int.natCast_nonneg _
  have hi' : (i : Int) < (r : Int) := by omega
  have hj' : (j : Int) < (c : Int) := by omega
  clear hv hs hvt
  go_enter Tryd.func105, Tryd.ntmps105
  go_wp2_with fail
  go_quiet ((go_at_call 96; exact quietly (toF _ _)))
  go_wp2_with fail
  go_ret
  exact ⟨rfl, _, rfl⟩

set_option maxHeartbeats 1000000 in
theorem convertedF (r c : Nat) (F : Ents) (v : Value) (w : World) (hs : SeenM w v (mkM r c F)) (hr : 1 ≤ r) (hr2 : r ≤ 1000) (hc : c ≤ 1000) :
    Calls Tryd.prog 95 #[v, .func (.func 96) #[] #[]] w (RetM 5 22 w (mkM r c F)) := by
  have hb0 : Below w.heap.size w (w.alloc (.cells #[v] 106)) := (Below.refl _ _).alloc (Nat.le_refl _) _
  have hb1 : Below w.heap.size w ((w.alloc (.cells #[v] 106)).alloc (.cells #[.func (.func 96) #[] #[]] 127)) := hb0.alloc (by simp) _
  have hG := convertedAtF r c (w.heap.size + 1) w.heap.size F v ((w.alloc (.cells #[v] 106)).alloc (.cells #[.func (.func 96) #[] #[]] 127)) (by simp) (by simp; omega) (by simp) (by simp) (hs.below hb1)
  have HG := Lib.hid hG
  obtain ⟨bb, off, cp, A, c', rfl, hl1, h1, h2, hl2, h3⟩ := hs.rowF 0 (by omega)
  have eg := enters_of Tryd.func105 (by kernel_rfl) rfl
  have HB1 := Lib.hid hb1
  unfold maxLen at hl1 hl2
  rw [Nat.add_zero] at h2
  have h0 : 0 < r := hr
  have hne : bb ≠ w.heap.size := by omega
  have hne' : w.heap.size ≠ bb := by omega
  have hq1 : ((w.alloc (.cells #[.slice (some ⟨bb, off, none⟩) r cp] 106)).alloc (.cells #[.func (.func 96) #[] #[]] 127)).cell? ⟨w.heap.size, 0, none⟩ = some (.slice (some ⟨bb, off, none⟩) r cp) := by simp
  have hq2 : ((w.alloc (.cells #[.slice (some ⟨bb, off, none⟩) r cp] 106)).alloc (.cells #[.func (.func 96) #[] #[]] 127)).cell? ⟨bb, off, none⟩ = some (.slice A c c') := (HB1.out.cell (p := ⟨bb, off, none⟩) h1).trans h2
  have hsz : w.heap.size < ((w.alloc (.cells #[.slice (some ⟨bb, off, none⟩) r cp] 106)).alloc (.cells #[.func (.func 96) #[] #[]] 127)).heap.size := by simp; omega
  clear hG hb1 hb0
  go_enter Tryd.func95, Tryd.ntmps95
  go_wp2_with fail
  generalize ((w.alloc (.cells #[.slice (some ⟨bb, off, none⟩) r cp] 106)).alloc (.cells #[.func (.func 96) #[] #[]] 127)) = w1 at *
  go_region_held3 (fun w' => w'.cell? ⟨w.heap.size, 0, none⟩ = some (.slice (some ⟨bb, off, none⟩) r cp) ∧ w'.cell? ⟨bb, off, none⟩ = some (.slice A c c'))
    (first | exact ⟨hq1, hq2⟩ | exact ⟨q1, q2⟩)
    ((go_at_call 66; refine (newGridB r c _ _ _ w1.drew eg (HG.out.later (Below.refl _ _).drew) (by omega) (by omega)).mono ?_; rintro e w' ⟨v', vs', rfl, hM, ht⟩; have q1 := (ht.to_below.cell (p := ⟨w.heap.size, 0, none⟩) hsz).trans hq1; have q2 := (ht.to_below.cell (p := ⟨bb, off, none⟩) (Nat.lt_trans h1 hsz)).trans hq2))
  go_wp2_with fail
  go_ret
  exact RetM.base ⟨_, _, rfl, hM, ht⟩ HB1.out.drew

end Go.Proofs.YtlkoafnlklhaeabDoor

/- turned and identityGrid, on bytes and on field bytes. -/
namespace Go.Proofs.YtlkoafnlklhaeabDoor
open Go.RowKit G294

end Go.Proofs.YtlkoafnlklhaeabDoor

/- Contracts of chapter 1's functions, the program's and the model's: what each call returns; the world is left as it was. -/
namespace Go.Proofs.YtlkoafnlklhaeabDoor
open Go.RowKit

/-- the table of remainders, as the program's text lays it -/
def Tab (w : World) : Prop := ∀ k, k < 7 → w.cell? ⟨0, k, none⟩ = some (.int .u8 (G294.tabN k : Nat))
theorem Tab.below {w w' : World} (h : Tab w) (hb : Below w.heap.size w w') (h0 : 0 < w.heap.size) : Tab w' := fun k hk => (hb.cell (p := ⟨0, k, none⟩) h0).trans (h k hk)
theorem ret_int {k : IntKind} {a b : Int} (h : a = b) : Ending.returned (.int k a) = .returned (.int k b) := by rw [h]

theorem and1_u8 (b : Nat) (hb : b < 256) (k : Nat) : bits BinOp.and IntKind.u8 ((b : Int) / 2 ^ k) 1 = ((G294.bit b k : Nat) : Int) := by
  have h1 : ((b : Int) / 2 ^ k) = ((b / 2 ^ k : Nat) : Int) := by simp
  have h2 : b / 2 ^ k < 256 := Nat.lt_of_le_of_lt (Nat.div_le_self _ _) hb
  rw [h1]
  have := u8_and_nat (b / 2 ^ k) 1 h2 (by omega)
  rw [show ((1 : Nat) : Int) = 1 from rfl] at this
  rw [this]; simp [G294.bit, Nat.and_one_is_mod]
theorem and1_u16 (b : Nat) (hb : b < 65536) (k : Nat) : bits BinOp.and IntKind.u16 ((b : Int) / 2 ^ k) 1 = ((G294.bit b k : Nat) : Int) := by
  have h1 : ((b : Int) / 2 ^ k) = ((b / 2 ^ k : Nat) : Int) := by simp
  have h2 : b / 2 ^ k < 65536 := Nat.lt_of_le_of_lt (Nat.div_le_self _ _) hb
  rw [h1]
  have := u16_and_nat (b / 2 ^ k) 1 h2 (by omega)
  rw [show ((1 : Nat) : Int) = 1 from rfl] at this
  rw [this]; simp [G294.bit, Nat.and_one_is_mod]
theorem test_bit {b k : Nat} {x : Bool} (e : (((G294.bit b k : Nat) : Int) == 1) = x) : (x = true ∧ G294.bit b k = 1) ∨ (x = false ∧ ¬ G294.bit b k = 1) := by
  cases x
  · right; exact ⟨rfl, by intro h; simp [h] at e⟩
  · left; refine ⟨rfl, ?_⟩; have := beq_iff_eq.1 e; omega

theorem pp_yes {a b k : Nat} (ha : a < 256) (hb : b < 256) (hk : k < 8) (h : (bits BinOp.and IntKind.u8 ((b : Int) / 2 ^ k) 1 == 1) = true) :
    bits BinOp.xor IntKind.u16 ((G294.pp a b k : Nat) : Int) (IntKind.u16.wrap ((a : Int) * 2 ^ k)) = ((G294.pp a b (k + 1) : Nat) : Int) := by
  rw [and1_u8 b hb] at h
  have hbit : G294.bit b k = 1 := by have := beq_iff_eq.1 h; omega
  have h1 : ((a : Int) * 2 ^ k) = ((a * 2 ^ k : Nat) : Int) := by simp
  have h2 := G294.shl_lt ha hk
  rw [h1, IntKind.wrap_u16]
  have h3 : ((a * 2 ^ k : Nat) : Int) % 65536 = ((a * 2 ^ k : Nat) : Int) := by omega
  rw [h3, u16_xor_nat _ _ (G294.pp_lt ha b k (by omega)) h2]
  simp [G294.pp, hbit]
theorem pp_no {a b k : Nat} (hb : b < 256) (h : (bits BinOp.and IntKind.u8 ((b : Int) / 2 ^ k) 1 == 1) = false) :
    ((G294.pp a b k : Nat) : Int) = ((G294.pp a b (k + 1) : Nat) : Int) := by
  rw [and1_u8 b hb] at h
  have hbit : ¬ G294.bit b k = 1 := by intro e; simp [e] at h
  simp [G294.pp, hbit]

set_option maxHeartbeats 400000 in
theorem pp_any (a b : Nat) (ha : a < 256) (hb : b < 256) (w : World) :
    Calls Tryd.prog 86 #[.int .u8 a, .int .u8 b] w fun e w' => e = .returned (.int .u16 (G294.pp a b 8 : Nat)) ∧ w = w' := by
  go_enter Tryd.func86, Tryd.ntmps86
  go_wp2
  go_loop [5, 7] (fun p i => ∃ k : Nat, k ≤ 8 ∧ i = .int .i64 k ∧ p = .int .u16 (G294.pp a b k : Nat)) (fun _ i => 8 - (intOf i).toNat)
  case atStart => exact ⟨0, by omega, rfl, rfl⟩
  case round =>
    obtain ⟨k, hk, rfl, rfl⟩ := hrel
    by_cases hlt : k < 8
    · go_wp2
      · have hy := pp_yes ha hb hlt ‹_›
        go_round
        case rel => exact ⟨k + 1, by omega, by go_num, by rw [hy]⟩
        case measure => simp [intOf]; omega
      · have hy := pp_no (a := a) hb ‹_›
        go_round
        case rel => exact ⟨k + 1, by omega, by go_num, by rw [hy]⟩
        case measure => simp [intOf]; omega
    · obtain rfl : k = 8 := by omega
      go_wp2
      go_ret
      exact ⟨rfl, rfl⟩

theorem rd_yes {p k : Nat} (hp : p < 65536) (hk : k < 7) (h : (bits BinOp.and IntKind.u16 ((p : Int) / 2 ^ (8 + k)) 1 == 1) = true) :
    bits BinOp.xor IntKind.u8 ((G294.rd p k : Nat) : Int) ((G294.tabN k : Nat) : Int) = ((G294.rd p (k + 1) : Nat) : Int) := by
  rw [and1_u16 p hp] at h
  have hbit : G294.bit p (8 + k) = 1 := by have := beq_iff_eq.1 h; omega
  rw [u8_xor_nat _ _ (G294.rd_lt p k) (G294.tabN_lt k)]
  simp [G294.rd, hbit]
theorem rd_no {p k : Nat} (hp : p < 65536) (h : (bits BinOp.and IntKind.u16 ((p : Int) / 2 ^ (8 + k)) 1 == 1) = false) :
    ((G294.rd p k : Nat) : Int) = ((G294.rd p (k + 1) : Nat) : Int) := by
  rw [and1_u16 p hp] at h
  have hbit : ¬ G294.bit p (8 + k) = 1 := by intro e; simp [e] at h
  simp [G294.rd, hbit]

set_option maxHeartbeats 400000 in
theorem rd_any (p : Nat) (hp : p < 65536) (w : World) (ht : Tab w) :
    Calls Tryd.prog 85 #[.int .u16 p] w fun e w' => e = .returned (.int .u8 (G294.rd p 7 : Nat)) ∧ w = w' := by
  go_enter Tryd.func85, Tryd.ntmps85
  go_wp2
  go_loop [3, 7] (fun r i => ∃ k : Nat, k ≤ 7 ∧ i = .int .i64 k ∧ r = .int .u8 (G294.rd p k : Nat)) (fun _ i => 7 - (intOf i).toNat)
  case atStart => exact ⟨0, by omega, rfl, by simp [G294.rd]⟩
  case round =>
    obtain ⟨k, hk, rfl, rfl⟩ := hrel
    by_cases hlt : k < 7
    · have hc := ht k hlt
      go_wp2
      · have hy := rd_yes hp hlt ‹_›
        go_round
        case rel => exact ⟨k + 1, by omega, by go_num, by rw [hy]⟩
        case measure => simp [intOf]; omega
      · have hy := rd_no hp ‹_›
        go_round
        case rel => exact ⟨k + 1, by omega, by go_num, by rw [hy]⟩
        case measure => simp [intOf]; omega
    · obtain rfl : k = 7 := by omega
      go_wp2
      go_ret
      exact ⟨rfl, rfl⟩

set_option maxHeartbeats 400000 in
theorem times_any (a b : Nat) (ha : a < 256) (hb : b < 256) (w : World) (ht : Tab w) :
    Calls Tryd.prog 75 #[.int .u8 a, .int .u8 b] w fun e w' => e = .returned (.int .u8 (G294.gm a b : Nat)) ∧ w = w' := by
  have hr := G294.rd_pp8 ha b
  have HR := Lib.hid hr
  clear hr
  go_enter Tryd.func75, Tryd.ntmps75
  go_wp2_with fail
  refine (pp_any a b ha hb _).mono ?_
  rintro e w' ⟨rfl, rfl⟩
  go_wp2_with fail
  refine (rd_any _ (G294.pp_lt ha b 8 (by omega)) _ ht).mono ?_
  rintro e w' ⟨rfl, rfl⟩
  go_wp2_with fail
  go_ret
  exact ⟨ret_int (by rw [HR.out]), rfl⟩

theorem bit_i64 {n : Nat} (hn : n < 9223372036854775808) : bits BinOp.and IntKind.i64 (n : Int) 1 = ((n % 2 : Nat) : Int) := by
  have ho : ∀ a : Nat, a < 9223372036854775808 → (BitVec.ofInt 64 (a : Int)).toNat = a := fun a ha => by
    rw [BitVec.ofInt_natCast, BitVec.toNat_ofNat]; exact Nat.mod_eq_of_lt (by omega)
  show IntKind.i64.wrap ((BitVec.ofInt 64 (n : Int) &&& BitVec.ofInt 64 ((1 : Nat) : Int)).toNat : Int) = _
  rw [BitVec.toNat_and, ho n hn, ho 1 (by omega), IntKind.wrap_i64, Nat.and_one_is_mod]
  omega

set_option maxHeartbeats 1000000 in
theorem powerOf_any (a n : Nat) (ha : a < 256) (hn : n ≤ 10000) (w : World) (ht : Tab w) :
    Calls Tryd.prog 82 #[.int .u8 a, .int .i64 n] w fun e w' => e = .returned (.int .u8 (G294.gp a n : Nat)) ∧ w = w' := by
  go_enter Tryd.func82, Tryd.ntmps82
  go_wp2
  go_loop [0, 1, 5] (fun x y p => ∃ b m q : Nat, b < 256 ∧ m ≤ 10000 ∧ q < 256 ∧ x = .int .u8 b ∧ y = .int .i64 m ∧ p = .int .u8 q ∧ Hid (G294.gm q (G294.gp b m) = G294.gp a n)) (fun _ y _ => (intOf y).toNat)
  case atStart => exact ⟨a, n, 1, ha, hn, by omega, rfl, rfl, rfl, by rw [G294.gm_one_left (G294.gp_lt ha n)]; rfl⟩
  case round =>
    obtain ⟨b, m, q, hb, hm, hq, rfl, rfl, rfl, HE⟩ := hrel
    by_cases hlt : 0 < m
    · have HS := Lib.hid (G294.gp_step (a := b) (n := m) (p := q) hb hq hlt)
      by_cases hodd : m % 2 = 1
      · have hbit : (bits BinOp.and IntKind.i64 (m : Int) 1 == 1) = true := by rw [bit_i64 (by omega), hodd]; rfl
        have HO := Lib.hid hodd
        clear hodd
        go_wp2_with fail
        refine (times_any q b hq hb _ ht).mono ?_
        rintro e w' ⟨rfl, rfl⟩
        go_wp2_with fail
        refine (times_any b b hb hb _ ht).mono ?_
        rintro e w' ⟨rfl, rfl⟩
        go_wp2_with fail
        go_round
        case rel => exact ⟨G294.gm b b, m / 2, G294.gm q b, G294.gm_lt hb b, by omega, G294.gm_lt hq b, rfl, by go_num, rfl, by have h := HS.out; rw [HE.out, if_pos HO.out] at h; exact h.symm⟩
        case measure => simp [intOf]; omega
      · have hbit : (bits BinOp.and IntKind.i64 (m : Int) 1 == 1) = false := by
          have : m % 2 = 0 := by omega
          rw [bit_i64 (by omega), this]; rfl
        have HO := Lib.hid hodd
        clear hodd
        go_wp2_with fail
        refine (times_any b b hb hb _ ht).mono ?_
        rintro e w' ⟨rfl, rfl⟩
        go_wp2_with fail
        go_round
        case rel => exact ⟨G294.gm b b, m / 2, q, G294.gm_lt hb b, by omega, hq, rfl, by go_num, rfl, by have h := HS.out; rw [HE.out, if_neg HO.out] at h; exact h.symm⟩
        case measure => simp [intOf]; omega
    · obtain rfl : m = 0 := by omega
      go_wp2_with fail
      go_ret
      exact ⟨ret_int (by have h := HE.out; simp only [G294.gp, G294.gm_one_right] at h; rw [h]), rfl⟩

set_option maxHeartbeats 400000 in
theorem inverse_any (a : Nat) (ha : a < 256) (w : World) (ht : Tab w) :
    Calls Tryd.prog 68 #[.int .u8 a] w fun e w' => e = .returned (.int .u8 (G294.gi a : Nat)) ∧ w = w' := by
  go_enter Tryd.func68, Tryd.ntmps68
  go_wp2_with fail
  refine (powerOf_any a 254 ha (by omega) _ ht).mono ?_
  rintro e w' ⟨rfl, rfl⟩
  go_wp2_with fail
  go_ret
  exact ⟨rfl, rfl⟩
end Go.Proofs.YtlkoafnlklhaeabDoor

/- Contracts of chapter 1: LogOf, and the model's functions. -/
namespace Go.Proofs.YtlkoafnlklhaeabDoor
open Go.RowKit

/-- what LogOf returns -/
def logV (a : Nat) : Value := if a = 0 then .tuple #[.int .i64 0, .bool false] else .tuple #[.int .i64 (G294.gl a : Nat), .bool true]

theorem xor_i64 {a b : Nat} (ha : a < 9223372036854775808) (hb : b < 9223372036854775808) : bits BinOp.xor IntKind.i64 (a : Int) (b : Int) = ((a ^^^ b : Nat) : Int) := by
  have ho : ∀ a : Nat, a < 9223372036854775808 → (BitVec.ofInt 64 (a : Int)).toNat = a := fun a ha => by
    rw [BitVec.ofInt_natCast, BitVec.toNat_ofNat]; exact Nat.mod_eq_of_lt (by omega)
  have hx : a ^^^ b < 2 ^ 63 := Nat.xor_lt_two_pow (by omega) (by omega)
  show IntKind.i64.wrap ((BitVec.ofInt 64 (a : Int) ^^^ BitVec.ofInt 64 (b : Int)).toNat : Int) = _
  rw [BitVec.toNat_xor, ho a ha, ho b hb, IntKind.wrap_i64]
  omega

set_option maxHeartbeats 1000000 in
theorem l1Times_any (a b : Nat) (ha : a < 256) (hb : b < 256) (w : World) :
    Calls Tryd.prog 54 #[.int .u8 a, .int .u8 b] w fun e w' => e = .returned (.int .u8 (G294.gm a b : Nat)) ∧ w = w' := by
  go_enter Tryd.func54, Tryd.ntmps54
  go_wp2
  go_loop [5, 6, 7] (fun o x y => ∃ k q p m : Nat, k ≤ 8 ∧ q < 256 ∧ p < 256 ∧ m < 256 ∧ o = .int .i64 q ∧ x = .int .i64 p ∧ y = .int .i64 m ∧ Hid (q = G294.st a b k) ∧ Hid (p = G294.xts k a) ∧ Hid (m = b / 2 ^ k)) (fun _ _ y => (intOf y).toNat)
  case atStart => exact ⟨0, 0, a, b, by omega, by omega, ha, hb, rfl, by simp, by simp, rfl, rfl, by show b = b / 2 ^ 0; omega⟩
  case round =>
    obtain ⟨k, q, p, m, hk, hq, hp, hm, rfl, rfl, rfl, HQ, HP, HM⟩ := hrel
    by_cases hlt : 0 < m
    · have hk8 : k < 8 := G294.k_lt_8 hb (by rw [← HM.out]; exact hlt)
      have HX := Lib.hid (xor_i64 (a := q) (b := p) (by omega) (by omega))
      have HXs := Lib.hid (G294.xs_xt p hp)
      have HX2 := Lib.hid (xor_i64 (a := p * 2) (b := 283) (by omega) (by omega))
      have hqp : q ^^^ p < 256 := G294.xor_lt hq hp
      have HM2 : Hid (m / 2 = b / 2 ^ (k + 1)) := by show m / 2 = _; rw [HM.out, G294.div_step]
      have HB : Hid (G294.bit b k = m % 2) := by show G294.bit b k = _; rw [HM.out]; rfl
      by_cases hodd : m % 2 = 1
      · have hbit : (bits BinOp.and IntKind.i64 (m : Int) 1 == 1) = true := by rw [bit_i64 (by omega), hodd]; rfl
        have HQ2 : Hid (q ^^^ p = G294.st a b (k + 1)) := by
          show q ^^^ p = _
          rw [G294.st, if_pos (by rw [HB.out]; exact hodd), ← HQ.out, ← HP.out]
        clear hodd
        by_cases hov : 255 < p * 2
        · have HPn : Hid (bits BinOp.xor IntKind.i64 ((p : Int) * 2) 283 = ((G294.xt p : Nat) : Int)) := by
            show bits BinOp.xor IntKind.i64 ((p : Int) * 2) 283 = _
            have h := HX2.out
            rw [← HXs.out, G294.xs, if_pos hov, ← h]; rfl
          go_wp2_with fail
          go_round
          case rel => exact ⟨k + 1, q ^^^ p, G294.xt p, m / 2, by omega, hqp, G294.xt_lt p, by omega, by rw [HX.out], by rw [HPn.out], by go_num, HQ2, by show G294.xt p = _; rw [HP.out]; rfl, HM2⟩
          case measure => simp [intOf]; omega
        · have HPn : Hid ((p : Int) * 2 = ((G294.xt p : Nat) : Int)) := by
            show (p : Int) * 2 = _
            rw [← HXs.out, G294.xs, if_neg hov]; simp
          go_wp2_with fail
          go_round
          case rel => exact ⟨k + 1, q ^^^ p, G294.xt p, m / 2, by omega, hqp, G294.xt_lt p, by omega, by rw [HX.out], by rw [HPn.out], by go_num, HQ2, by show G294.xt p = _; rw [HP.out]; rfl, HM2⟩
          case measure => simp [intOf]; omega
      · have hbit : (bits BinOp.and IntKind.i64 (m : Int) 1 == 1) = false := by
          have : m % 2 = 0 := by omega
          rw [bit_i64 (by omega), this]; rfl
        have HQ2 : Hid (q = G294.st a b (k + 1)) := by
          show q = _
          rw [G294.st, if_neg (by rw [HB.out]; exact hodd), ← HQ.out]
        clear hodd
        by_cases hov : 255 < p * 2
        · have HPn : Hid (bits BinOp.xor IntKind.i64 ((p : Int) * 2) 283 = ((G294.xt p : Nat) : Int)) := by
            show bits BinOp.xor IntKind.i64 ((p : Int) * 2) 283 = _
            have h := HX2.out
            rw [← HXs.out, G294.xs, if_pos hov, ← h]; rfl
          go_wp2_with fail
          go_round
          case rel => exact ⟨k + 1, q, G294.xt p, m / 2, by omega, hq, G294.xt_lt p, by omega, rfl, by rw [HPn.out], by go_num, HQ2, by show G294.xt p = _; rw [HP.out]; rfl, HM2⟩
          case measure => simp [intOf]; omega
        · have HPn : Hid ((p : Int) * 2 = ((G294.xt p : Nat) : Int)) := by
            show (p : Int) * 2 = _
            rw [← HXs.out, G294.xs, if_neg hov]; simp
          go_wp2_with fail
          go_round
          case rel => exact ⟨k + 1, q, G294.xt p, m / 2, by omega, hq, G294.xt_lt p, by omega, rfl, by rw [HPn.out], by go_num, HQ2, by show G294.xt p = _; rw [HP.out]; rfl, HM2⟩
          case measure => simp [intOf]; omega
    · obtain rfl : m = 0 := by omega
      go_wp2_with fail
      go_ret
      exact ⟨ret_int (by rw [HQ.out, G294.st_end a b k hk HM.out.symm]), rfl⟩

set_option maxHeartbeats 400000 in
theorem l1Power_any (a n : Nat) (ha : a < 256) (hn : n ≤ 10000) (w : World) :
    Calls Tryd.prog 84 #[.int .u8 a, .int .i64 n] w fun e w' => e = .returned (.int .u8 (G294.gp a n : Nat)) ∧ w = w' := by
  go_enter Tryd.func84, Tryd.ntmps84
  go_wp2
  go_loop [1, 5] (fun y p => ∃ m q : Nat, m ≤ n ∧ q < 256 ∧ y = .int .i64 m ∧ p = .int .u8 q ∧ Hid (q = G294.gp a (n - m))) (fun y _ => (intOf y).toNat)
  case atStart => exact ⟨n, 1, by omega, by omega, rfl, rfl, by show 1 = _; rw [Nat.sub_self]; rfl⟩
  case round =>
    obtain ⟨m, q, hm, hq, rfl, rfl, HQ⟩ := hrel
    by_cases hlt : 0 < m
    · have HQ2 : Hid (G294.gm q a = G294.gp a (n - (m - 1))) := by
        show G294.gm q a = _
        rw [HQ.out, show n - (m - 1) = (n - m) + 1 by omega]; rfl
      go_wp2_with fail
      refine (l1Times_any q a hq ha _).mono ?_
      rintro e w' ⟨rfl, rfl⟩
      go_wp2_with fail
      go_round
      case rel => exact ⟨m - 1, G294.gm q a, by omega, G294.gm_lt hq a, by go_num, rfl, HQ2⟩
      case measure => simp [intOf]; omega
    · obtain rfl : m = 0 := by omega
      go_wp2_with fail
      go_ret
      exact ⟨ret_int (by rw [HQ.out]; rfl), rfl⟩

set_option maxHeartbeats 400000 in
theorem l1Inverse_any (a : Nat) (ha : a < 256) (w : World) :
    Calls Tryd.prog 73 #[.int .u8 a] w fun e w' => e = .returned (.int .u8 (G294.gi a : Nat)) ∧ w = w' := by
  by_cases h0 : a = 0
  · subst h0
    have HZ := Lib.hid G294.gi_zero
    go_enter Tryd.func73, Tryd.ntmps73
    go_wp2_with fail
    go_ret
    exact ⟨ret_int (by rw [HZ.out]; rfl), rfl⟩
  · have hb : ((a : Int) == 0) = false := by simp; omega
    clear h0
    go_enter Tryd.func73, Tryd.ntmps73
    go_wp2_with fail
    refine (l1Power_any a 254 ha (by omega) _).mono ?_
    rintro e w' ⟨rfl, rfl⟩
    go_wp2_with fail
    go_ret
    exact ⟨rfl, rfl⟩

/-- l1In -/
def inB (n lo hi : Int) : Bool := decide (lo ≤ n ∧ n ≤ hi)
set_option maxHeartbeats 400000 in
theorem l1In_any (n lo hi : Int) (w : World) :
    Calls Tryd.prog 30 #[.int .i64 n, .int .i64 lo, .int .i64 hi] w fun e w' => e = .returned (.bool (inB n lo hi)) ∧ w = w' := by
  by_cases h1 : lo ≤ n
  · have hd : decide (lo ≤ n) = true := by simpa using h1
    by_cases h2 : n ≤ hi
    · have HV : Hid (inB n lo hi = true) := by show inB n lo hi = true; simp [inB, h1, h2]
      go_enter Tryd.func30, Tryd.ntmps30
      go_wp2_with fail
      go_ret
      exact ⟨by rw [HV.out]; simp [h2], rfl⟩
    · have HV : Hid (inB n lo hi = false) := by show inB n lo hi = false; simp [inB, h2]
      go_enter Tryd.func30, Tryd.ntmps30
      go_wp2_with fail
      go_ret
      exact ⟨by rw [HV.out]; simp [h2], rfl⟩
  · have hd : decide (lo ≤ n) = false := by simpa using h1
    have HV : Hid (inB n lo hi = false) := by show inB n lo hi = false; simp [inB, h1]
    go_enter Tryd.func30, Tryd.ntmps30
    go_wp2_with fail
    go_ret
    exact ⟨by rw [HV.out]; rfl, rfl⟩
end Go.Proofs.YtlkoafnlklhaeabDoor

/- GoodMatrix, the program's and the model's. -/
namespace G294
theorem goodI_nat (n : Nat) : goodI (n : Int) = decide (1 ≤ n ∧ n ≤ 16) := by
  unfold goodI; rw [decide_eq_decide]; omega
theorem goodM_no1 {L : Mat} (h : goodI L.length = false) : goodM L = false := by
  rw [goodI_nat] at h; simp at h
  rw [Bool.eq_false_iff]; intro e
  have := (goodM_iff L).1 e
  omega
theorem goodM_no2 {L : Mat} (h : goodI (wid L) = false) : goodM L = false := by
  rw [goodI_nat] at h; simp at h
  rw [Bool.eq_false_iff]; intro e
  have := (goodM_iff L).1 e
  omega
theorem goodM_no3 {L : Mat} {k : Nat} (hk : k < L.length) (h : (L.getD k []).length ≠ wid L) : goodM L = false := by
  rw [Bool.eq_false_iff]; intro e
  exact h (((goodM_iff L).1 e).2.2.2.2 k hk)
theorem goodM_yes {L : Mat} (h1 : goodI L.length = true) (h2 : goodI (wid L) = true) (h : ∀ i, i < L.length → (L.getD i []).length = wid L) : goodM L = true := by
  rw [goodI_nat] at h1 h2; simp at h1 h2
  exact (goodM_iff L).2 ⟨h1.1, h1.2, h2.1, h2.2, h⟩
end G294
namespace Go.Proofs.YtlkoafnlklhaeabDoor
open Go.RowKit G294

set_option maxHeartbeats 400000 in
theorem goodSide_any (n : Int) (w : World) : Calls Tryd.prog 64 #[.int .i64 n] w fun e w' => e = .returned (.bool (goodI n)) ∧ w = w' := by
  by_cases h1 : 1 ≤ n
  · have hd : decide (1 ≤ n) = true := by simpa using h1
    by_cases h2 : n ≤ 16
    · have HV : Hid (goodI n = true) := by show goodI n = true; simp [goodI, h1, h2]
      go_enter Tryd.func64, Tryd.ntmps64
      go_wp2_with fail
      go_ret
      exact ⟨by rw [HV.out]; simp [h2], rfl⟩
    · have HV : Hid (goodI n = false) := by show goodI n = false; simp [goodI, h2]
      go_enter Tryd.func64, Tryd.ntmps64
      go_wp2_with fail
      go_ret
      exact ⟨by rw [HV.out]; simp [h2], rfl⟩
  · have hd : decide (1 ≤ n) = false := by simpa using h1
    have HV : Hid (goodI n = false) := by show goodI n = false; simp [goodI, h1]
    go_enter Tryd.func64, Tryd.ntmps64
    go_wp2_with fail
    go_ret
    exact ⟨by rw [HV.out]; rfl, rfl⟩

theorem l1In_side (n : Int) (w : World) : Calls Tryd.prog 30 #[.int .i64 n, .int .i64 1, .int .i64 16] w fun e w' => e = .returned (.bool (goodI n)) ∧ w = w' := l1In_any n 1 16 w

set_option maxRecDepth 100000 in
set_option maxHeartbeats 1000000 in
theorem igood_any (v : Value) (L : Mat) (w : World) (hs : SeenM w v L) :
    Calls Tryd.prog 87 #[.agg #[v]] w (RetBool w (goodM L)) := by
  have hb1 : Below w.heap.size w (w.alloc (.cells #[v] 52)) := (Below.refl _ _).alloc (Nat.le_refl _) _
  have HB1 := Lib.hid (TurnIn.of_below hb1)
  obtain ⟨A, c, rfl, hlc, hcm⟩ := hs.len
  unfold maxLen at hcm
  by_cases h1 : goodI L.length = true
  · have H1 := Lib.hid h1
    have hn : 1 ≤ L.length ∧ L.length ≤ 16 := by rw [goodI_nat] at h1; simpa using h1
    have HSM := Lib.hid hs
    obtain ⟨bb, off, c', u0, hv, _, _, hbl, hc0, hs0⟩ := hs.row 0 (by omega)
    obtain ⟨rfl, rfl⟩ : A = some ⟨bb, off, none⟩ ∧ c = c' := by simpa using hv
    obtain ⟨A0, c0, rfl, hl0, hm0, _⟩ := hs0
    rw [bys_length] at hc0 hl0
    rw [Nat.add_zero] at hc0
    unfold maxLen at hm0
    have hw1 : (w.alloc (.cells #[.slice (some ⟨bb, off, none⟩) L.length c] 52)).cell? ⟨bb, off, none⟩ = some (.slice A0 (L.getD 0 []).length c0) := (hb1.cell (p := ⟨bb, off, none⟩) hbl).trans hc0
    have hbx : (w.alloc (.cells #[.slice (some ⟨bb, off, none⟩) L.length c] 52)).cell? ⟨w.heap.size, 0, none⟩ = some (.slice (some ⟨bb, off, none⟩) L.length c) := by simp
    have HBW := Lib.hid hb1
    have hpos : 0 < L.length := by omega
    have hne : bb ≠ w.heap.size := by omega
    have HW : Hid (wid L = (L.getD 0 []).length) := rfl
    clear hv h1 hb1 hs
    generalize hll : L.length = n at *
    generalize hww : (L.getD 0 []).length = n0 at *
    have HLL := Lib.hid hll
    have HWW := Lib.hid hww
    clear hll hww
    by_cases h2 : goodI n0 = true
    · have H2 := Lib.hid h2
      clear h2
      go_enter Tryd.func87, Tryd.ntmps87
      go_wp2_with fail
      refine (goodSide_any _ _).mono ?_
      rintro e w' ⟨rfl, rfl⟩
      rw [H1.out]
      go_wp2_with fail
      refine (goodSide_any _ _).mono ?_
      rintro e w' ⟨rfl, rfl⟩
      rw [H2.out]
      go_wp2_with fail
      generalize w.alloc (.cells #[.slice (some ⟨bb, off, none⟩) n c] 52) = w1 at *
      go_loop [22] (fun i => ∃ k : Nat, k ≤ n ∧ i = .int .i64 k ∧ Hid (∀ i, i < k → (L.getD i []).length = n0)) (fun i => n - (intOf i).toNat)
      case atStart => exact ⟨0, Nat.zero_le _, rfl, fun i h => by omega⟩
      case round =>
        obtain ⟨k, hk, rfl, HK⟩ := hrel
        by_cases hlt : k < n
        · have hki : (k : Int) < (n : Int) := by omega
          obtain ⟨bb2, off2, c2, uk, hv, _, _, hbl2, hck, ⟨Ak, ck, rfl, hlk, hmk, _⟩⟩ := HSM.out.row k (by rw [HLL.out]; exact hlt)
          simp only [Value.slice.injEq, Option.some.injEq, Addr.mk.injEq, and_true] at hv
          obtain ⟨⟨rfl, rfl⟩, _, rfl⟩ := hv
          rw [bys_length] at hck hlk
          have hck' := (HBW.out.cell (p := ⟨bb, off + k, none⟩) hbl2).trans hck
          clear hck
          unfold maxLen at hmk
          by_cases he : (L.getD k []).length = n0
          · have hbb : (((L.getD k []).length : Int) != (n0 : Int)) = false := by rw [he]; simp
            have HK2 : Hid (∀ i, i < k + 1 → (L.getD i []).length = n0) := fun i hi => by
              by_cases e : i = k
              · rw [e]; exact he
              · exact HK.out i (by omega)
            clear he
            generalize (L.getD k []).length = nk at *
            go_wp2_with fail
            go_round
            case rel => exact ⟨k + 1, by omega, by go_num, HK2⟩
            case measure => simp [intOf]; omega
          · have hbb : (((L.getD k []).length : Int) != (n0 : Int)) = true := bne_iff_ne.2 (fun e => he (Int.natCast_inj.1 e))
            have HF := Lib.hid (goodM_no3 (L := L) (k := k) (by rw [HLL.out]; exact hlt) (by rw [HW.out]; exact he))
            clear he
            generalize (L.getD k []).length = nk at *
            go_wp2_with fail
            go_ret
            exact ⟨by rw [HF.out]; rfl, HB1.out⟩
        · obtain rfl : k = n := by omega
          have hki : ¬ (k : Int) < (k : Int) := by omega
          have HF := Lib.hid (goodM_yes (L := L) (by rw [HLL.out]; exact H1.out) (by rw [HW.out]; exact H2.out) (fun i hi => by rw [HW.out]; exact HK.out i (by rw [← HLL.out]; exact hi)))
          go_wp2_with fail
          go_ret
          exact ⟨by rw [HF.out]; rfl, HB1.out⟩
    · have H2 : Hid (goodI n0 = false) := by show goodI n0 = false; simpa using h2
      have HF := Lib.hid (goodM_no2 (L := L) (by rw [HW.out]; exact H2.out))
      clear h2
      go_enter Tryd.func87, Tryd.ntmps87
      go_wp2_with fail
      refine (goodSide_any _ _).mono ?_
      rintro e w' ⟨rfl, rfl⟩
      rw [H1.out]
      go_wp2_with fail
      refine (goodSide_any _ _).mono ?_
      rintro e w' ⟨rfl, rfl⟩
      rw [H2.out]
      go_wp2_with fail
      go_ret
      exact ⟨by rw [HF.out]; rfl, HB1.out⟩
  · have H1 : Hid (goodI L.length = false) := by show goodI L.length = false; simpa using h1
    have HF := Lib.hid (goodM_no1 H1.out)
    clear h1 hs hb1
    generalize L.length = n at *
    go_enter Tryd.func87, Tryd.ntmps87
    go_wp2_with fail
    refine (goodSide_any _ _).mono ?_
    rintro e w' ⟨rfl, rfl⟩
    rw [H1.out]
    go_wp2_with fail
    go_ret
    exact ⟨by rw [HF.out]; rfl, HB1.out⟩

end Go.Proofs.YtlkoafnlklhaeabDoor

/- The program's Identity, Transposed, Vandermonde and Cauchy. -/
namespace G294
open Go Go.RowKit
theorem turn_setCell (w : World) (B o : Nat) (x : Value) : TurnIn B (B + 1) w (w.setCell ⟨B, o, none⟩ x) :=
  ⟨rfl, rfl, rfl, by simp, fun k hk hd => heap_setCell_other w ⟨B, o, none⟩ k x (by intro e; simp at e; omega)⟩
theorem cell_set_other (w : World) {B B' : Nat} (o o' : Nat) (x : Value) (h : B ≠ B') : (w.setCell ⟨B, o, none⟩ x).cell? ⟨B', o', none⟩ = w.cell? ⟨B', o', none⟩ :=
  World.cell?_of_block (heap_setCell_other w ⟨B, o, none⟩ B' x (by intro e; simp at e; omega))
theorem frozen_set_other (w : World) {B B' : Nat} (o o' : Nat) (x : Value) (h : B ≠ B') : (w.setCell ⟨B, o, none⟩ x).frozen? ⟨B', o', none⟩ = w.frozen? ⟨B', o', none⟩ :=
  World.frozen?_of_block (heap_setCell_other w ⟨B, o, none⟩ B' x (by intro e; simp at e; omega))
/-- a result is stored into a variable that the call made ahead of it -/
theorem ret_store {E EE : TypeId} {w w1 w' : World} {v : Value} {L : Mat} {vs : List Value} (hb : Below w.heap.size w w1) (hM : OwnM E EE w' w1.heap.size w'.heap.size v L vs) (ht : TurnIn 0 0 w1 w') (B o : Nat) (h1 : w.heap.size ≤ B) (h2 : B < w1.heap.size) (x : Value) :
    OwnM E EE (w'.setCell ⟨B, o, none⟩ x) w.heap.size (w'.setCell ⟨B, o, none⟩ x).heap.size v L vs ∧ TurnIn 0 0 w (w'.setCell ⟨B, o, none⟩ x) := by
  have k := turn_setCell w' B o x
  have hs := k.size
  refine ⟨(hM.keep k (by omega)).wider (by have := hb.size; omega) hs (Nat.le_refl _), TurnIn.of_below ?_⟩
  have h3 : Below w.heap.size w w' := ht.base hb hb.size (by omega)
  exact h3.setCell h1 _
theorem cell_turn {w w' : World} (t : TurnIn 0 0 w w') {B o : Nat} {x : Value} (h : w.cell? ⟨B, o, none⟩ = some x) (hB : B < w.heap.size) : w'.cell? ⟨B, o, none⟩ = some x := (t.to_below.cell (p := ⟨B, o, none⟩) hB).trans h
theorem frozen_turn {w w' : World} (t : TurnIn 0 0 w w') {B o : Nat} {x : Bool} (h : w.frozen? ⟨B, o, none⟩ = x) (hB : B < w.heap.size) : w'.frozen? ⟨B, o, none⟩ = x := (t.to_below.frozen (p := ⟨B, o, none⟩) hB).trans h
end G294
namespace Go.Proofs.YtlkoafnlklhaeabDoor
open Go.RowKit G294

set_option maxHeartbeats 1000000 in
theorem identity_own (n : Int) (w : World) : Calls Tryd.prog 47 #[.int .i64 n] w (RetMatOk 5 22 w (idR n) (idOk n)) := by
  have hb1 : Below w.heap.size w (w.alloc (.cells #[.slice none 0 0] 52)) := (Below.refl _ _).alloc (Nat.le_refl _) _
  by_cases h : goodI n = true
  · have HO := Lib.hid h
    have h2 : 1 ≤ n ∧ n ≤ 16 := by simpa [goodI] using h
    obtain ⟨m, rfl⟩ := Int.eq_ofNat_of_zero_le (show 0 ≤ n by omega)
    have HR : Hid (idR m = mkM m m idF) := by show idR m = _; unfold idR; rw [if_pos HO.out]; simp
    clear h
    go_enter Tryd.func47, Tryd.ntmps47
    go_wp2_with fail
    refine (goodSide_any _ _).mono ?_
    rintro e w' ⟨rfl, rfl⟩
    rw [HO.out]
    go_wp2_with fail
    refine (identityGridB m _ (by omega)).mono ?_
    rintro e w' ⟨v', vs', rfl, hM, ht⟩
    obtain ⟨A', n', c', rfl⟩ := hM.isSlice
    have hq := cell_turn ht (B := w.heap.size) (o := 0) (x := .slice none 0 0) (by simp) (by simp)
    have hqf := frozen_turn ht (B := w.heap.size) (o := 0) (x := false) (by simp) (by simp)
    have HF := Lib.hid (ret_store hb1 hM ht w.heap.size 0 (Nat.le_refl _) (by simp) (.slice A' n' c'))
    clear hM ht hb1
    go_wp2_with fail
    refine bodyPost_ret (v := .tuple #[.agg #[.slice A' n' c'], .bool true]) (by simp [results, Tryd.results47, go_sem, hq]) rfl ?_
    exact ⟨.slice A' n' c', vs', by show _ = Ending.returned (.tuple #[.agg #[.slice A' n' c'], .bool (idOk m)]); unfold idOk; rw [HO.out], by rw [HR.out]; exact HF.out.1, HF.out.2⟩
  · have HO : Hid (goodI n = false) := by show goodI n = false; simpa using h
    have HR : Hid (idR n = []) := if_neg h
    clear h
    go_enter Tryd.func47, Tryd.ntmps47
    go_wp2_with fail
    refine (goodSide_any _ _).mono ?_
    rintro e w' ⟨rfl, rfl⟩
    rw [HO.out]
    go_wp2_with fail
    refine bodyPost_ret (v := .tuple #[.agg #[.slice none 0 0], .bool false]) (by simp [results, Tryd.results47, go_sem]) rfl ?_
    exact ⟨_, [], by unfold idOk; rw [HO.out], by rw [HR.out]; exact OwnM.nil _ _ _ _, TurnIn.of_below hb1⟩

theorem vand_u8 (i j : Nat) (hi : i < 256) : ((vandF i j).toNat : Int) = (gp i j : Nat) := by
  unfold vandF; rw [UInt8.toNat_ofNat', Nat.mod_eq_of_lt (gp_lt hi j)]

theorem cau_u8 (c i j : Nat) (h1 : c + i < 256) (h2 : j < 256) : ((cauF c i j).toNat : Int) = (gi ((c + i) ^^^ j) : Nat) := by
  unfold cauF; rw [UInt8.toNat_ofNat', Nat.mod_eq_of_lt (gi_lt (xor_lt h1 h2))]

set_option maxHeartbeats 1000000 in
theorem cauAt (r c B : Nat) (w : World) (hr : r ≤ 16) (hc : c ≤ 16) (hB : B < w.heap.size) (hv : w.cell? ⟨B, 0, none⟩ = some (.int .i64 c)) (ht : Tab w) (h0 : 0 < w.heap.size) :
    GivesAt Tryd.prog 67 #[.pointer (some ⟨B, 0, none⟩)] r c (cauF c) w := by
  intro W i j hb hi hj
  have hv' := (hb.cell (p := ⟨B, 0, none⟩) hB).trans hv
  have htW : Tab W := ht.below hb h0
  have HV := Lib.hid (cau_u8 c i j (by omega) (by omega))
  have HX : Hid (bits BinOp.xor IntKind.u8 ((c : Int) + (i : Int)) (j : Int) = (((c + i) ^^^ j : Nat) : Int)) := by
    show bits BinOp.xor IntKind.u8 ((c : Int) + (i : Int)) (j : Int) = _
    rw [← Int.natCast_add]; exact u8_xor_nat (c + i) j (by omega) (by omega)
  clear ht hv
  go_enter Tryd.func67, Tryd.ntmps67
  go_wp2_with fail
  rw [HX.out]
  refine (inverse_any ((c + i) ^^^ j) (xor_lt (by omega) (by omega)) _ htW).mono ?_
  rintro e w' ⟨rfl, rfl⟩
  go_wp2_with fail
  go_ret
  exact ⟨by rw [HV.out]; rfl, 0, rfl⟩

set_option maxRecDepth 100000 in
set_option maxHeartbeats 1000000 in
theorem cauchy_own (n m : Int) (w : World) (ht : Tab w) (h0 : 0 < w.heap.size) :
    Calls Tryd.prog 48 #[.int .i64 n, .int .i64 m] w (RetMatOk 5 22 w (cauR n m) (sidesOk n m)) := by
  have hb0 : Below w.heap.size w (w.alloc (.cells #[.int .i64 m] 3)) := (Below.refl _ _).alloc (Nat.le_refl _) _
  have hb1 : Below w.heap.size w ((w.alloc (.cells #[.int .i64 m] 3)).alloc (.cells #[.slice none 0 0] 52)) := hb0.alloc (by simp) _
  have HT := Lib.hid (ht.below hb1 h0)
  have HOdef : Hid (sidesOk n m = (goodI n && goodI m)) := rfl
  clear ht hb0
  by_cases h : goodI n = true
  · have H1 := Lib.hid h
    by_cases h' : goodI m = true
    · have H2 := Lib.hid h'
      have HO : Hid (sidesOk n m = true) := by show sidesOk n m = true; rw [HOdef.out, h, h']; rfl
      have b1 : 1 ≤ n ∧ n ≤ 16 := by simpa [goodI] using h
      have b2 : 1 ≤ m ∧ m ≤ 16 := by simpa [goodI] using h'
      obtain ⟨r, rfl⟩ := Int.eq_ofNat_of_zero_le (show 0 ≤ n by omega)
      obtain ⟨c, rfl⟩ := Int.eq_ofNat_of_zero_le (show 0 ≤ m by omega)
      have HR : Hid (cauR r c = mkM r c (cauF c)) := by show cauR r c = _; unfold cauR; rw [if_pos HO.out]; simp
      have eg := enters_of Tryd.func67 (by kernel_rfl) rfl
      have HG := Lib.hid (cauAt r c w.heap.size _ (by omega) (by omega) (by simp; omega) (by simp) HT.out (by simp <;> omega))
      clear h h'
      go_enter Tryd.func48, Tryd.ntmps48
      go_wp2_with fail
      refine (goodSide_any _ _).mono ?_
      rintro e w' ⟨rfl, rfl⟩
      rw [H1.out]
      go_wp2_with fail
      refine (goodSide_any _ _).mono ?_
      rintro e w' ⟨rfl, rfl⟩
      rw [H2.out]
      go_wp2_with fail
      refine (newGridB r c _ _ _ _ eg HG.out (by omega) (by omega)).mono ?_
      rintro e w' ⟨v', vs', rfl, hM, ht⟩
      obtain ⟨A', n', c', rfl⟩ := hM.isSlice
      have hq := cell_turn ht (B := w.heap.size + 1) (o := 0) (x := .slice none 0 0) (by simp) (by simp)
      have hqf := frozen_turn ht (B := w.heap.size + 1) (o := 0) (x := false) (by simp) (by simp)
      have HF := Lib.hid (ret_store hb1 hM ht (w.heap.size + 1) 0 (Nat.le_succ _) (by simp) (.slice A' n' c'))
      clear hM ht hb1
      go_wp2_with fail
      refine bodyPost_ret (v := .tuple #[.agg #[.slice A' n' c'], .bool true]) (by simp [results, Tryd.results48, go_sem, hq]) rfl ?_
      exact ⟨.slice A' n' c', vs', by rw [HO.out], by rw [HR.out]; exact HF.out.1, HF.out.2⟩
    · have H2 : Hid (goodI m = false) := by show goodI m = false; simpa using h'
      have HO : Hid (sidesOk n m = false) := by show sidesOk n m = false; rw [HOdef.out, H2.out]; simp
      have HR : Hid (cauR n m = []) := if_neg (by rw [HO.out]; simp)
      clear h h'
      go_enter Tryd.func48, Tryd.ntmps48
      go_wp2_with fail
      refine (goodSide_any _ _).mono ?_
      rintro e w' ⟨rfl, rfl⟩
      rw [H1.out]
      go_wp2_with fail
      refine (goodSide_any _ _).mono ?_
      rintro e w' ⟨rfl, rfl⟩
      rw [H2.out]
      go_wp2_with fail
      refine bodyPost_ret (v := .tuple #[.agg #[.slice none 0 0], .bool false]) (by simp [results, Tryd.results48, go_sem]) rfl ?_
      exact ⟨_, [], by rw [HO.out], by rw [HR.out]; exact OwnM.nil _ _ _ _, TurnIn.of_below hb1⟩
  · have H1 : Hid (goodI n = false) := by show goodI n = false; simpa using h
    have HO : Hid (sidesOk n m = false) := by show sidesOk n m = false; rw [HOdef.out, H1.out]; simp
    have HR : Hid (cauR n m = []) := if_neg (by rw [HO.out]; simp)
    clear h
    go_enter Tryd.func48, Tryd.ntmps48
    go_wp2_with fail
    refine (goodSide_any _ _).mono ?_
    rintro e w' ⟨rfl, rfl⟩
    rw [H1.out]
    go_wp2_with fail
    refine bodyPost_ret (v := .tuple #[.agg #[.slice none 0 0], .bool false]) (by simp [results, Tryd.results48, go_sem]) rfl ?_
    exact ⟨_, [], by rw [HO.out], by rw [HR.out]; exact OwnM.nil _ _ _ _, TurnIn.of_below hb1⟩
end Go.Proofs.YtlkoafnlklhaeabDoor

/- The cursor's shapes and data, and the drawn arguments of EncodeShards. -/
namespace Go.Proofs.YtlkoafnlklhaeabDoor
open Go.RowKit G294

set_option maxRecDepth 100000 in
set_option maxHeartbeats 1000000 in
theorem shape_any (g : Nat) (cv : Value) (m : Nat) (w : World) (hc : CurAt w g cv m) (hm : m ≤ 1000000000) :
    Calls Tryd.prog 40 #[.pointer (some ⟨g, 0, none⟩)] w fun e w' => ∃ a b : Int, e = .returned (.tuple #[.int .i64 a, .int .i64 b]) ∧ (0 ≤ a ∧ a ≤ 9) ∧ (0 ≤ b ∧ b ≤ 7) ∧ CurAt w' g cv (m + 6) ∧ TurnIn g (g + 1) w w' := by
  go_enter Tryd.func40, Tryd.ntmps40
  go_wp2_with fail
  refine (one_any g cv m 20 _ hc (by omega)).mono ?_
  rintro e w1 ⟨b, rfl, hc1, k1⟩
  have hg1 := hc1.lt
  have s1 := k1.size
  cases b
  · go_wp2_with fail
    refine (pick_any g cv _ 4 _ hc1 (by omega)).mono ?_
    rintro e w2 ⟨r, rfl, r0, r1, hc2, k2⟩
    have hr : r ≤ 3 := by simpa [pickHi] using r1
    clear r1
    go_wp2_with fail
    refine (pick_any g cv _ 3 _ hc2 (by omega)).mono ?_
    rintro e w3 ⟨q, rfl, q0, q1, hc3, k3⟩
    have hq : q ≤ 2 := by simpa [pickHi] using q1
    clear q1
    go_wp2_with fail
    refine bodyPost_ret (v := .tuple #[.int .i64 (1 + r), .int .i64 (1 + q)]) (by simp [results, Tryd.results40, go_sem]) rfl ?_
    exact ⟨1 + r, 1 + q, rfl, by omega, by omega, hc3, turn_trans (turn_trans k1 k2 (by omega)) k3 (by omega)⟩
  · go_wp2_with fail
    have k2 := turn_alloc w1 (.cells #[.int .i64 0, .int .i64 8, .int .i64 9] 3)
    refine (among_any g cv (m + 2) w1.heap.size 3 [0, 8, 9] _ (hc1.keep k2 (by omega)) (by omega) (by simp) (by simp) (by simp) (by omega) (by omega) (by simp) ?_).mono ?_
    · intro i u hu
      rw [cell_of_row _ w1.heap.size i _ _ _ (heap_alloc_new w1 _)]
      simpa [ints] using hu
    rintro e w3 ⟨r, rfl, hr, hc3, k3⟩
    have hr' : 0 ≤ r ∧ r ≤ 9 := by simp at hr; omega
    have hg3 := hc3.lt
    have s3 := k3.size
    clear hr
    go_wp2_with fail
    have k4 := turn_alloc w3 (.cells #[.int .i64 0, .int .i64 1, .int .i64 6, .int .i64 7] 3)
    refine (among_any g cv (m + 4) w3.heap.size 4 [0, 1, 6, 7] _ (hc3.keep k4 (by omega)) (by omega) (by simp) (by simp) (by simp) (by omega) (by omega) (by simp) ?_).mono ?_
    · intro i u hu
      rw [cell_of_row _ w3.heap.size i _ _ _ (heap_alloc_new w3 _)]
      simpa [ints] using hu
    rintro e w5 ⟨q, rfl, hq, hc5, k5⟩
    have hq' : 0 ≤ q ∧ q ≤ 7 := by simp at hq; omega
    clear hq
    go_wp2_with fail
    refine bodyPost_ret (v := .tuple #[.int .i64 r, .int .i64 q]) (by simp [results, Tryd.results40, go_sem]) rfl ?_
    exact ⟨r, q, rfl, hr', hq', hc5.more (by omega), turn_trans (turn_trans (turn_trans (turn_trans k1 k2 (by omega)) k3 (by omega)) k4 (by omega)) k5 (by omega)⟩

set_option maxRecDepth 100000 in
set_option maxHeartbeats 1000000 in
theorem text_any (g : Nat) (cv : Value) (m n : Nat) (w : World) (hc : CurAt w g cv m) (hm : m + 4 * n ≤ 1000000000) :
    Calls Tryd.prog 36 #[.pointer (some ⟨g, 0, none⟩), .int .i64 n] w fun e w' => ∃ l : List UInt8, e = .returned (.string (str l)) ∧ l.length = n ∧ CurAt w' g cv (m + 4 * n) ∧ TurnIn g (g + 1) w w' := by
  go_enter Tryd.func36, Tryd.ntmps36
  go_wp2_with fail
  refine (vector_any g cv m n _ hc hm).mono ?_
  rintro e w1 ⟨v, l, rfl, hl, ho, hc1, k1⟩
  have r1 := run_string_seen (P := Tryd.prog) 22 5 9 Tryd.underlying22 Tryd.underlying5 Tryd.underlying9 (Seen.of_own ho)
  obtain ⟨A, c, N, rfl⟩ := own_isSlice ho
  have HL := Lib.hid hl
  clear hl ho
  go_wp2_with fail
  go_ret
  exact ⟨l, rfl, HL.out, hc1, k1⟩

theorem infoStr3 : (Tryd.prog.info? 9).map (fun i => (i.zero, i.size, i.bytes)) = some (some (.string ⟨#[]⟩), 1, 16) := by kernel_rfl

/-- some texts are drawn -/
def DrawsStrs (w : World) (g : Nat) (cv : Value) (m : Nat) (e : Ending) (w' : World) : Prop := ∃ (v : Value) (T : List (List UInt8)), e = .returned v ∧ Seen w' v (strs T) ∧ CurAt w' g cv m ∧ TurnIn g (g + 1) w w'

set_option maxRecDepth 100000 in
set_option maxHeartbeats 4000000 in
theorem data_any (g : Nat) (cv : Value) (m k : Nat) (w : World) (hc : CurAt w g cv m) (hm : m ≤ 100000000) (hk : k ≤ 9) :
    Calls Tryd.prog 41 #[.pointer (some ⟨g, 0, none⟩), .int .i64 k] w (DrawsStrs w g cv (m + 10 + 200 * k)) := by
  have hgw := hc.lt
  go_enter Tryd.func41, Tryd.ntmps41
  go_wp2_with fail
  refine (pick_any g cv m 5 _ hc (by omega)).mono ?_
  rintro e w1 ⟨r, rfl, r0, r1, hc1, k1⟩
  have hr : r ≤ 4 := by simpa [pickHi] using r1
  have s1 := k1.size
  clear r1
  go_wp2_with fail
  refine (one_any g cv _ 20 _ hc1 (by omega)).mono ?_
  rintro e w2 ⟨b, rfl, hc2, k2⟩
  have s2 := k2.size
  cases b
  · obtain ⟨n, rfl⟩ := Int.eq_ofNat_of_zero_le r0
    have hcS := hc2
    have kS := turn_trans k1 k2 (by omega)
    clear hc1 hc2 k1 k2
    go_wp2_with fail
    go_loopw [1, 6] (fun y o wr => ∃ (j : Nat) (T : List (List UInt8)), j ≤ k ∧ y = .int .i64 j ∧ Hid (T.length + j = k ∧ ∀ s ∈ T, s.length = n) ∧ wr.ownsRow w.heap.size 9 1 o T.length (strs T) ∧ CurAt wr g cv (m + 6 + 200 * (k - j)) ∧ TurnIn g (g + 1) w wr)
      (fun y _ _ => (intOf y).toNat)
    case atStart => exact ⟨k, [], Nat.le_refl _, rfl, ⟨by simp, by simp⟩, World.ownsRow_nil _ _ _ _, hcS.more (by omega), kS⟩
    case round =>
      clear hcS kS
      obtain ⟨j, T, hj, rfl, HL, hown, hcr, kr⟩ := hrel
      have hsr := kr.size
      have hgr := hcr.lt
      by_cases hlt : 0 < j
      · go_wp2_with fail
        refine (text_any g cv _ n _ hcr (by omega)).mono ?_
        rintro e w5 ⟨x, rfl, hx, hc5, k5⟩
        have hs5 := k5.size
        have hown5 : w5.ownsRow w.heap.size 9 1 u6 T.length (strs T) := by
          refine ⟨hown.1, ?_⟩
          rcases hown.2 with hn | ⟨g', cap, cur, e1, hbg, hg', rest⟩
          · exact .inl hn
          · refine .inr ⟨g', cap, cur, e1, hbg, ?_, rest⟩
            rw [k5.block g' (Array.getElem?_eq_some_iff.1 hg').1 (by omega)]
            exact hg'
        have hll : T.length ≤ 1000 := by have := HL.out.1; omega
        have HX := Lib.hid hx
        clear hx
        go_wp2_with (at_builtin; refine wpList_append1 rfl _ _ _ rfl w.heap.size 9 _ _ Tryd.underlying35 infoStr3 rfl _ T.length _ rfl (hown5.alloc _) w5.heap.size (.string (str x)) rfl ?c1 rfl ?c2 ?c3 ?c4 ?_)
        case c1 => simp
        case c2 => omega
        case c3 => omega
        case c4 => simp; omega
        intro v' w6 hown6 hg6 _
        have ka := turn_alloc w5 (.cells #[.string (str x)] 9)
        have ko := turn_own (hown5.alloc (.cells #[.string (str x)] 9)) hg6
        have hc6 := (hc5.keep ka (by omega)).keep ko (by omega)
        have k6 : TurnIn g (g + 1) w w6 := turn_trans (turn_trans (turn_trans kr k5 (by omega)) ka (by omega)) ko (by omega)
        have hown7 : w6.ownsRow w.heap.size 9 1 v' (T ++ [x]).length (strs (T ++ [x])) := by
          rw [strs_append, List.length_append]; exact hown6
        clear hown6 hg6 hown5 ka ko hc5 k5 hown hcr kr
        go_wp2_with fail
        go_roundw
        case rel => exact ⟨j - 1, T ++ [x], by omega, by go_num, ⟨by have := HL.out.1; rw [List.length_append, List.length_singleton]; omega, fun s hs => by rcases List.mem_append.1 hs with h | h; exact HL.out.2 s h; rw [List.mem_singleton] at h; rw [h]; exact HX.out⟩, hown7, hc6.more (by omega), k6⟩
        case measure => simp [intOf]; omega
      · obtain rfl : j = 0 := by omega
        obtain ⟨A6, n6, c6, rfl⟩ := own_isSlice hown
        have hn6 : n6 = T.length := by
          rcases hown.2 with ⟨hh, h0⟩ | ⟨g', c', cur, hh, _⟩
          · simp at hh; omega
          · simp at hh; exact hh.2.1
        subst hn6
        have hTk : T.length = k := by have := HL.out.1; omega
        subst hTk
        by_cases hk0 : T.length = 0
        · have hz : decide ((0 : Int) < (T.length : Int)) = false := decide_eq_false (by omega)
          have HOWN := Lib.hid hown
          clear hown
          go_wp2_with fail
          go_ret
          exact ⟨_, T, rfl, Seen.of_own HOWN.out, hcr.more (by omega), kr⟩
        · have hz : decide ((0 : Int) < (T.length : Int)) = true := decide_eq_true (by omega)
          go_wp2_with fail
          refine (one_any g cv _ 30 _ hcr (by omega)).mono ?_
          rintro e w7 ⟨b7, rfl, hc7, k7⟩
          have hs7 := k7.size
          have hown7 : w7.ownsRow w.heap.size 9 1 (.slice A6 T.length c6) T.length (strs T) := owns_turn (hi := wr.heap.size) hown (fun x hx => (hown.lt x hx).2) k7 (by omega)
          cases b7
          · have HOWN := Lib.hid hown7
            clear hown7 hown
            go_wp2_with fail
            go_ret
            exact ⟨_, T, rfl, Seen.of_own HOWN.out, hc7.more (by omega), turn_trans kr k7 (by omega)⟩
          · obtain ⟨g', rfl, hbg⟩ : ∃ g', A6 = some ⟨g', 0, none⟩ ∧ w.heap.size ≤ g' := by
              rcases hown7.2 with ⟨hh, h0⟩ | ⟨g', c', cur, hh, hbg, _⟩
              · omega
              · simp at hh; exact ⟨g', hh.1, hbg⟩
            have hT0 : 0 < T.length := by omega
            have cc := hown7.cells (g := g') rfl 0 _ (strs_get T 0 hT0)
            rw [Addr.add_lit, Nat.zero_add] at cc
            have hfz := hown7.frozenAt 0
            have hts := str_size T[0]
            rw [HL.out.2 T[0] (List.getElem_mem hT0)] at hts
            generalize hx0 : T[0] = x0 at *
            have hst := fun y => (hown7.stored 0 y).1
            have ks := fun y => turn_setCell w7 g' 0 y
            have HST := Lib.hid hst
            have HKS := Lib.hid ks
            clear hst ks hown7 hown hx0
            go_wp2_with fail
            go_ret
            generalize hs : (str x0 ++ { data := #[120] } : ByteArray) = sx
            refine ⟨_, T.set 0 sx.data.toList, rfl, ?_, (hc7.keep (HKS.out _) (by omega)).more (by omega), turn_trans (turn_trans kr k7 (by omega)) (HKS.out _) (by omega)⟩
            have e1 : strs (T.set 0 sx.data.toList) = (strs T).set 0 (.string sx) := by
              simp only [strs, List.map_set, ← str_eq]
            rw [e1]
            exact Seen.of_own (HST.out _)
  · go_wp2_with fail
    refine (pick_any g cv _ 2 _ hc2 (by omega)).mono ?_
    rintro e w3 ⟨q, rfl, q0, q1, hc3, k3⟩
    have hq : q ≤ 1 := by simpa [pickHi] using q1
    have s3 := k3.size
    clear q1
    obtain ⟨n, hn⟩ : ∃ n : Nat, (40 : Int) + q = (n : Int) := Int.eq_ofNat_of_zero_le (by omega)
    have hn41 : n ≤ 41 := by omega
    have hcS := hc3
    have kS := turn_trans (turn_trans k1 k2 (by omega)) k3 (by omega)
    clear hc1 hc2 hc3 k1 k2 k3
    go_wp2_with fail
    go_loopw [1, 6] (fun y o wr => ∃ (j : Nat) (T : List (List UInt8)), j ≤ k ∧ y = .int .i64 j ∧ Hid (T.length + j = k ∧ ∀ s ∈ T, s.length = n) ∧ wr.ownsRow w.heap.size 9 1 o T.length (strs T) ∧ CurAt wr g cv (m + 6 + 200 * (k - j)) ∧ TurnIn g (g + 1) w wr)
      (fun y _ _ => (intOf y).toNat)
    case atStart => exact ⟨k, [], Nat.le_refl _, rfl, ⟨by simp, by simp⟩, World.ownsRow_nil _ _ _ _, hcS.more (by omega), kS⟩
    case round =>
      clear hcS kS
      obtain ⟨j, T, hj, rfl, HL, hown, hcr, kr⟩ := hrel
      have hsr := kr.size
      have hgr := hcr.lt
      by_cases hlt : 0 < j
      · go_wp2_with fail
        refine (text_any g cv _ n _ hcr (by omega)).mono ?_
        rintro e w5 ⟨x, rfl, hx, hc5, k5⟩
        have hs5 := k5.size
        have hown5 : w5.ownsRow w.heap.size 9 1 u6 T.length (strs T) := by
          refine ⟨hown.1, ?_⟩
          rcases hown.2 with hn | ⟨g', cap, cur, e1, hbg, hg', rest⟩
          · exact .inl hn
          · refine .inr ⟨g', cap, cur, e1, hbg, ?_, rest⟩
            rw [k5.block g' (Array.getElem?_eq_some_iff.1 hg').1 (by omega)]
            exact hg'
        have hll : T.length ≤ 1000 := by have := HL.out.1; omega
        have HX := Lib.hid hx
        clear hx
        go_wp2_with (at_builtin; refine wpList_append1 rfl _ _ _ rfl w.heap.size 9 _ _ Tryd.underlying35 infoStr3 rfl _ T.length _ rfl (hown5.alloc _) w5.heap.size (.string (str x)) rfl ?c1 rfl ?c2 ?c3 ?c4 ?_)
        case c1 => simp
        case c2 => omega
        case c3 => omega
        case c4 => simp; omega
        intro v' w6 hown6 hg6 _
        have ka := turn_alloc w5 (.cells #[.string (str x)] 9)
        have ko := turn_own (hown5.alloc (.cells #[.string (str x)] 9)) hg6
        have hc6 := (hc5.keep ka (by omega)).keep ko (by omega)
        have k6 : TurnIn g (g + 1) w w6 := turn_trans (turn_trans (turn_trans kr k5 (by omega)) ka (by omega)) ko (by omega)
        have hown7 : w6.ownsRow w.heap.size 9 1 v' (T ++ [x]).length (strs (T ++ [x])) := by
          rw [strs_append, List.length_append]; exact hown6
        clear hown6 hg6 hown5 ka ko hc5 k5 hown hcr kr
        go_wp2_with fail
        go_roundw
        case rel => exact ⟨j - 1, T ++ [x], by omega, by go_num, ⟨by have := HL.out.1; rw [List.length_append, List.length_singleton]; omega, fun s hs => by rcases List.mem_append.1 hs with h | h; exact HL.out.2 s h; rw [List.mem_singleton] at h; rw [h]; exact HX.out⟩, hown7, hc6.more (by omega), k6⟩
        case measure => simp [intOf]; omega
      · obtain rfl : j = 0 := by omega
        obtain ⟨A6, n6, c6, rfl⟩ := own_isSlice hown
        have hn6 : n6 = T.length := by
          rcases hown.2 with ⟨hh, h0⟩ | ⟨g', c', cur, hh, _⟩
          · simp at hh; omega
          · simp at hh; exact hh.2.1
        subst hn6
        have hTk : T.length = k := by have := HL.out.1; omega
        subst hTk
        by_cases hk0 : T.length = 0
        · have hz : decide ((0 : Int) < (T.length : Int)) = false := decide_eq_false (by omega)
          have HOWN := Lib.hid hown
          clear hown
          go_wp2_with fail
          go_ret
          exact ⟨_, T, rfl, Seen.of_own HOWN.out, hcr.more (by omega), kr⟩
        · have hz : decide ((0 : Int) < (T.length : Int)) = true := decide_eq_true (by omega)
          go_wp2_with fail
          refine (one_any g cv _ 30 _ hcr (by omega)).mono ?_
          rintro e w7 ⟨b7, rfl, hc7, k7⟩
          have hs7 := k7.size
          have hown7 : w7.ownsRow w.heap.size 9 1 (.slice A6 T.length c6) T.length (strs T) := owns_turn (hi := wr.heap.size) hown (fun x hx => (hown.lt x hx).2) k7 (by omega)
          cases b7
          · have HOWN := Lib.hid hown7
            clear hown7 hown
            go_wp2_with fail
            go_ret
            exact ⟨_, T, rfl, Seen.of_own HOWN.out, hc7.more (by omega), turn_trans kr k7 (by omega)⟩
          · obtain ⟨g', rfl, hbg⟩ : ∃ g', A6 = some ⟨g', 0, none⟩ ∧ w.heap.size ≤ g' := by
              rcases hown7.2 with ⟨hh, h0⟩ | ⟨g', c', cur, hh, hbg, _⟩
              · omega
              · simp at hh; exact ⟨g', hh.1, hbg⟩
            have hT0 : 0 < T.length := by omega
            have cc := hown7.cells (g := g') rfl 0 _ (strs_get T 0 hT0)
            rw [Addr.add_lit, Nat.zero_add] at cc
            have hfz := hown7.frozenAt 0
            have hts := str_size T[0]
            rw [HL.out.2 T[0] (List.getElem_mem hT0)] at hts
            generalize hx0 : T[0] = x0 at *
            have hst := fun y => (hown7.stored 0 y).1
            have ks := fun y => turn_setCell w7 g' 0 y
            have HST := Lib.hid hst
            have HKS := Lib.hid ks
            clear hst ks hown7 hown hx0
            go_wp2_with fail
            go_ret
            generalize hs : (str x0 ++ { data := #[120] } : ByteArray) = sx
            refine ⟨_, T.set 0 sx.data.toList, rfl, ?_, (hc7.keep (HKS.out _) (by omega)).more (by omega), turn_trans (turn_trans kr k7 (by omega)) (HKS.out _) (by omega)⟩
            have e1 : strs (T.set 0 sx.data.toList) = (strs T).set 0 (.string sx) := by
              simp only [strs, List.map_set, ← str_eq]
            rw [e1]
            exact Seen.of_own (HST.out _)

set_option maxRecDepth 100000 in
set_option maxHeartbeats 1000000 in
theorem drawEnc_any (v : Value) (l : List UInt8) (w : World) (hv : Seen w v (bys l)) :
    Calls Tryd.prog 16 #[v] w fun e w' => ∃ (u : Value) (T : List (List UInt8)) (b : Int), e = .returned (.tuple #[u, .int .i64 b]) ∧ (0 ≤ b ∧ b ≤ 7) ∧ Seen w' u (strs T) ∧ TurnIn 0 0 w w' := by
  obtain ⟨A, c, hvv⟩ := hv.len
  rw [bys_length] at hvv
  subst hvv
  have hc := cur_new hv
  have k0 := turn_alloc w (.cells #[.slice A l.length c, .int .i64 0, .int .u64 0] 60)
  have s0 := k0.size
  clear hv
  go_enter Tryd.func16, Tryd.ntmps16
  go_wp2_with fail
  refine (shape_any _ _ 0 _ hc (by omega)).mono ?_
  rintro e w1 ⟨a, b, rfl, ⟨a0, a1⟩, hb, hc1, k1⟩
  obtain ⟨k, rfl⟩ := Int.eq_ofNat_of_zero_le a0
  have s1 := k1.size
  go_wp2_with fail
  refine (data_any _ _ _ k _ hc1 (by omega) (by omega)).mono ?_
  rintro e w2 ⟨u, T, rfl, hT, hc2, k2⟩
  go_wp2_with fail
  refine bodyPost_ret (v := .tuple #[u, .int .i64 b]) (by simp [results, Tryd.results16, go_sem]) rfl ?_
  have kk := turn_trans k1 k2 (by omega)
  exact ⟨u, T, b, rfl, hb, hT, turn_trans k0 kk (by omega)⟩

end Go.Proofs.YtlkoafnlklhaeabDoor
