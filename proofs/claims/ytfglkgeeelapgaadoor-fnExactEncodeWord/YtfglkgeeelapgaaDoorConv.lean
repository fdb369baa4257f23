/- identityGrid and converted, on bytes and on field bytes. -/
import Derived.Test.YtfglkgeeelapgaaDoorNewGrid
set_option linter.unusedSimpArgs false
set_option linter.unusedVariables false
namespace Go.Proofs.YtfglkgeeelapgaaDoor
open Go.RowKit G294

set_option maxHeartbeats 400000 in
theorem toB (x : UInt8) (w : World) : Calls Tryd.prog 149 #[.int .u8 (x.toNat : Int)] w fun e w' => e = .returned (.int .u8 (x.toNat : Int)) ∧ w = w' := by
  go_enter Tryd.func149, Tryd.ntmps149
  go_wp2_with fail
  go_ret
  exact ⟨rfl, rfl⟩

set_option maxHeartbeats 1000000 in
theorem convertedAtB (r c Bt Bg : Nat) (F : Ents) (v : Value) (w : World) (hBt : Bt < w.heap.size) (hBg : Bg < w.heap.size) (hvt : w.cell? ⟨Bt, 0, none⟩ = some (.func (.func 149) #[] #[])) (hv : w.cell? ⟨Bg, 0, none⟩ = some v) (hs : SeenM w v (mkM r c F)) :
    GivesAt Tryd.prog 157 #[.pointer (some ⟨Bt, 0, none⟩), .pointer (some ⟨Bg, 0, none⟩)] r c F w := by
  intro W i j hb hi hj
  have hv' := (hb.cell (p := ⟨Bg, 0, none⟩) hBg).trans hv
  have hvt' := (hb.cell (p := ⟨Bt, 0, none⟩) hBt).trans hvt
  obtain ⟨bb, off, cp, b', off', c', rfl, hl1, h1, h2, h3, hl2, h4⟩ := (hs.below hb).cellF i j hi hj
  unfold maxLen at hl1 hl2
  have hi0 : (0 : Int) ≤ (i : Int) := Int.natCast_nonneg _
  have hj0 : (0 : Int) ≤ (j : Int) := Int.natCast_nonneg _
  have hi' : (i : Int) < (r : Int) := by omega
  have hj' : (j : Int) < (c : Int) := by omega
  clear hv hs hvt
  go_enter Tryd.func157, Tryd.ntmps157
  go_wp2_with fail
  go_quiet ((go_at_call 149; exact quietly (toB _ _)))
  go_wp2_with fail
  go_ret
  exact ⟨rfl, _, rfl⟩

set_option maxHeartbeats 1000000 in
theorem convertedB (r c : Nat) (F : Ents) (v : Value) (w : World) (hs : SeenM w v (mkM r c F)) (hr : 1 ≤ r) (hr2 : r ≤ 1000) (hc : c ≤ 1000) :
    Calls Tryd.prog 148 #[v, .func (.func 149) #[] #[]] w (RetM 143 169 w (mkM r c F)) := by
  have hb0 : Below w.heap.size w (w.alloc (.cells #[v] 83)) := (Below.refl _ _).alloc (Nat.le_refl _) _
  have hb1 : Below w.heap.size w ((w.alloc (.cells #[v] 83)).alloc (.cells #[.func (.func 149) #[] #[]] 172)) := hb0.alloc (by simp) _
  have hG := convertedAtB r c (w.heap.size + 1) w.heap.size F v ((w.alloc (.cells #[v] 83)).alloc (.cells #[.func (.func 149) #[] #[]] 172)) (by simp) (by simp; omega) (by simp) (by simp) (hs.below hb1)
  have HG := Lib.hid hG
  obtain ⟨bb, off, cp, A, c', rfl, hl1, h1, h2, hl2, h3⟩ := hs.rowF 0 (by omega)
  have eg := enters_of Tryd.func157 (by kernel_rfl) rfl
  have HB1 := Lib.hid hb1
  unfold maxLen at hl1 hl2
  rw [Nat.add_zero] at h2
  have h0 : 0 < r := hr
  have hne : bb ≠ w.heap.size := by omega
  have hne' : w.heap.size ≠ bb := by omega
  have hq1 : ((w.alloc (.cells #[.slice (some ⟨bb, off, none⟩) r cp] 83)).alloc (.cells #[.func (.func 149) #[] #[]] 172)).cell? ⟨w.heap.size, 0, none⟩ = some (.slice (some ⟨bb, off, none⟩) r cp) := by simp
  have hq2 : ((w.alloc (.cells #[.slice (some ⟨bb, off, none⟩) r cp] 83)).alloc (.cells #[.func (.func 149) #[] #[]] 172)).cell? ⟨bb, off, none⟩ = some (.slice A c c') := (HB1.out.cell (p := ⟨bb, off, none⟩) h1).trans h2
  have hsz : w.heap.size < ((w.alloc (.cells #[.slice (some ⟨bb, off, none⟩) r cp] 83)).alloc (.cells #[.func (.func 149) #[] #[]] 172)).heap.size := by simp; omega
  clear hG hb1 hb0
  go_enter Tryd.func148, Tryd.ntmps148
  go_wp2_with fail
  generalize ((w.alloc (.cells #[.slice (some ⟨bb, off, none⟩) r cp] 83)).alloc (.cells #[.func (.func 149) #[] #[]] 172)) = w1 at *
  go_region_held3 (fun w' => w'.cell? ⟨w.heap.size, 0, none⟩ = some (.slice (some ⟨bb, off, none⟩) r cp) ∧ w'.cell? ⟨bb, off, none⟩ = some (.slice A c c'))
    (first | exact ⟨hq1, hq2⟩ | exact ⟨q1, q2⟩)
    ((go_at_call 146; refine (newGridF r c _ _ _ w1.drew eg (HG.out.later (Below.refl _ _).drew) (by omega) (by omega)).mono ?_; rintro e w' ⟨v', vs', rfl, hM, ht⟩; have q1 := (ht.to_below.cell (p := ⟨w.heap.size, 0, none⟩) hsz).trans hq1; have q2 := (ht.to_below.cell (p := ⟨bb, off, none⟩) (Nat.lt_trans h1 hsz)).trans hq2))
  go_wp2_with fail
  go_ret
  exact RetM.base ⟨_, _, rfl, hM, ht⟩ HB1.out.drew

set_option maxHeartbeats 1000000 in
theorem identAtF (r c B : Nat) (w : World) (hB : B < w.heap.size) (hv : w.cell? ⟨B, 0, none⟩ = some (.int .u8 1)) :
    GivesAt Tryd.prog 150 #[.pointer (some ⟨B, 0, none⟩)] r c idF w := by
  intro W i j hb hi hj
  have hv' := (hb.cell (p := ⟨B, 0, none⟩) hB).trans hv
  clear hv
  by_cases he : i = j
  · have hbb : ((i : Int) == (j : Int)) = true := by simp [he]
    have HF : Hid (idF i j = 1) := by show idF i j = 1; simp [idF, he]
    clear he
    go_enter Tryd.func150, Tryd.ntmps150
    go_wp2_with fail
    go_ret
    exact ⟨by rw [HF.out]; rfl, 0, rfl⟩
  · have hbb : ((i : Int) == (j : Int)) = false := by simp; omega
    have HF : Hid (idF i j = 0) := by show idF i j = 0; simp [idF, he]
    clear he
    go_enter Tryd.func150, Tryd.ntmps150
    go_wp2_with fail
    go_ret
    exact ⟨by rw [HF.out]; rfl, 0, rfl⟩

set_option maxHeartbeats 1000000 in
theorem identityGridF (n : Nat) (w : World) (hn : n ≤ 1000) :
    Calls Tryd.prog 133 #[.int .i64 n, .int .u8 1] w (RetM 143 169 w (mkM n n idF)) := by
  have hb1 : Below w.heap.size w (w.alloc (.cells #[.int .u8 1] 143)) := (Below.refl _ _).alloc (Nat.le_refl _) _
  have HG := Lib.hid (identAtF n n w.heap.size (w.alloc (.cells #[.int .u8 1] 143)) (by simp) (by simp))
  have eg := enters_of Tryd.func150 (by kernel_rfl) rfl
  have HB1 := Lib.hid hb1
  clear hb1
  go_enter Tryd.func133, Tryd.ntmps133
  go_wp2_with fail
  refine (newGridF n n _ _ _ _ eg HG.out hn hn).mono ?_
  rintro e w' ⟨v', vs', rfl, hM, ht⟩
  go_wp2_with fail
  go_ret
  exact RetM.base ⟨_, _, rfl, hM, ht⟩ HB1.out

set_option maxHeartbeats 400000 in
theorem toF (x : UInt8) (w : World) : Calls Tryd.prog 152 #[.int .u8 (x.toNat : Int)] w fun e w' => e = .returned (.int .u8 (x.toNat : Int)) ∧ w = w' := by
  go_enter Tryd.func152, Tryd.ntmps152
  go_wp2_with fail
  go_ret
  exact ⟨rfl, rfl⟩

set_option maxHeartbeats 1000000 in
theorem convertedAtF (r c Bt Bg : Nat) (F : Ents) (v : Value) (w : World) (hBt : Bt < w.heap.size) (hBg : Bg < w.heap.size) (hvt : w.cell? ⟨Bt, 0, none⟩ = some (.func (.func 152) #[] #[])) (hv : w.cell? ⟨Bg, 0, none⟩ = some v) (hs : SeenM w v (mkM r c F)) :
    GivesAt Tryd.prog 158 #[.pointer (some ⟨Bt, 0, none⟩), .pointer (some ⟨Bg, 0, none⟩)] r c F w := by
  intro W i j hb hi hj
  have hv' := (hb.cell (p := ⟨Bg, 0, none⟩) hBg).trans hv
  have hvt' := (hb.cell (p := ⟨Bt, 0, none⟩) hBt).trans hvt
  obtain ⟨bb, off, cp, b', off', c', rfl, hl1, h1, h2, h3, hl2, h4⟩ := (hs.below hb).cellF i j hi hj
  unfold maxLen at hl1 hl2
  have hi0 : (0 : Int) ≤ (i : Int) := Int.natCast_nonneg _
  have hj0 : (0 : Int) ≤ (j : Int) := Int.natCast_nonneg _
  have hi' : (i : Int) < (r : Int) := by omega
  have hj' : (j : Int) < (c : Int) := by omega
  clear hv hs hvt
  go_enter Tryd.func158, Tryd.ntmps158
  go_wp2_with fail
  go_quiet ((go_at_call 152; exact quietly (toF _ _)))
  go_wp2_with fail
  go_ret
  exact ⟨rfl, _, rfl⟩

set_option maxHeartbeats 1000000 in
theorem convertedF (r c : Nat) (F : Ents) (v : Value) (w : World) (hs : SeenM w v (mkM r c F)) (hr : 1 ≤ r) (hr2 : r ≤ 1000) (hc : c ≤ 1000) :
    Calls Tryd.prog 151 #[v, .func (.func 152) #[] #[]] w (RetM 5 22 w (mkM r c F)) := by
  have hb0 : Below w.heap.size w (w.alloc (.cells #[v] 140)) := (Below.refl _ _).alloc (Nat.le_refl _) _
  have hb1 : Below w.heap.size w ((w.alloc (.cells #[v] 140)).alloc (.cells #[.func (.func 152) #[] #[]] 174)) := hb0.alloc (by simp) _
  have hG := convertedAtF r c (w.heap.size + 1) w.heap.size F v ((w.alloc (.cells #[v] 140)).alloc (.cells #[.func (.func 152) #[] #[]] 174)) (by simp) (by simp; omega) (by simp) (by simp) (hs.below hb1)
  have HG := Lib.hid hG
  obtain ⟨bb, off, cp, A, c', rfl, hl1, h1, h2, hl2, h3⟩ := hs.rowF 0 (by omega)
  have eg := enters_of Tryd.func158 (by kernel_rfl) rfl
  have HB1 := Lib.hid hb1
  unfold maxLen at hl1 hl2
  rw [Nat.add_zero] at h2
  have h0 : 0 < r := hr
  have hne : bb ≠ w.heap.size := by omega
  have hne' : w.heap.size ≠ bb := by omega
  have hq1 : ((w.alloc (.cells #[.slice (some ⟨bb, off, none⟩) r cp] 140)).alloc (.cells #[.func (.func 152) #[] #[]] 174)).cell? ⟨w.heap.size, 0, none⟩ = some (.slice (some ⟨bb, off, none⟩) r cp) := by simp
  have hq2 : ((w.alloc (.cells #[.slice (some ⟨bb, off, none⟩) r cp] 140)).alloc (.cells #[.func (.func 152) #[] #[]] 174)).cell? ⟨bb, off, none⟩ = some (.slice A c c') := (HB1.out.cell (p := ⟨bb, off, none⟩) h1).trans h2
  have hsz : w.heap.size < ((w.alloc (.cells #[.slice (some ⟨bb, off, none⟩) r cp] 140)).alloc (.cells #[.func (.func 152) #[] #[]] 174)).heap.size := by simp; omega
  clear hG hb1 hb0
  go_enter Tryd.func151, Tryd.ntmps151
  go_wp2_with fail
  generalize ((w.alloc (.cells #[.slice (some ⟨bb, off, none⟩) r cp] 140)).alloc (.cells #[.func (.func 152) #[] #[]] 174)) = w1 at *
  go_region_held3 (fun w' => w'.cell? ⟨w.heap.size, 0, none⟩ = some (.slice (some ⟨bb, off, none⟩) r cp) ∧ w'.cell? ⟨bb, off, none⟩ = some (.slice A c c'))
    (first | exact ⟨hq1, hq2⟩ | exact ⟨q1, q2⟩)
    ((go_at_call 67; refine (newGridB r c _ _ _ w1.drew eg (HG.out.later (Below.refl _ _).drew) (by omega) (by omega)).mono ?_; rintro e w' ⟨v', vs', rfl, hM, ht⟩; have q1 := (ht.to_below.cell (p := ⟨w.heap.size, 0, none⟩) hsz).trans hq1; have q2 := (ht.to_below.cell (p := ⟨bb, off, none⟩) (Nat.lt_trans h1 hsz)).trans hq2))
  go_wp2_with fail
  go_ret
  exact RetM.base ⟨_, _, rfl, hM, ht⟩ HB1.out.drew

end Go.Proofs.YtfglkgeeelapgaaDoor
