/- turned and identityGrid, on bytes and on field bytes. -/
import Derived.Test.YtlkoafnlklhaeaaDoorNewGrid
set_option linter.unusedSimpArgs false
set_option linter.unusedVariables false
namespace Go.Proofs.YtlkoafnlklhaeaaDoor
open Go.RowKit G294

set_option maxHeartbeats 1000000 in
theorem turnedAtB (r c B : Nat) (F : Ents) (v : Value) (w : World) (hB : B < w.heap.size) (hv : w.cell? ⟨B, 0, none⟩ = some v) (hs : SeenM w v (mkM r c F)) :
    GivesAt Tryd.prog 207 #[.pointer (some ⟨B, 0, none⟩)] c r (fun i j => F j i) w := by
  intro W i j hb hi hj
  have hv' := (hb.cell (p := ⟨B, 0, none⟩) hB).trans hv
  obtain ⟨bb, off, cp, b', off', c', rfl, hl1, h1, h2, h3, hl2, h4⟩ := (hs.below hb).cellF j i hj hi
  unfold maxLen at hl1 hl2
  have hi' : (i : Int) < (c : Int) := by omega
  have hj' : (j : Int) < (r : Int) := by omega
  clear hv hs
  go_enter Tryd.func207, Tryd.ntmps207
  go_wp2_with fail
  go_ret
  exact ⟨rfl, 0, rfl⟩

set_option maxHeartbeats 1000000 in
theorem turnedB (r c : Nat) (F : Ents) (v : Value) (w : World) (hs : SeenM w v (mkM r c F)) (hr : 1 ≤ r) (hr2 : r ≤ 1000) (hc : c ≤ 1000) :
    Calls Tryd.prog 194 #[v] w (RetM 5 24 w (mkM c r fun i j => F j i)) := by
  have hb1 : Below w.heap.size w (w.alloc (.cells #[v] 194)) := (Below.refl _ _).alloc (Nat.le_refl _) _
  have hG := turnedAtB r c w.heap.size F v (w.alloc (.cells #[v] 194)) (by simp) (by simp) (hs.below hb1)
  have HG := Lib.hid hG
  obtain ⟨bb, off, cp, A, c', rfl, hl1, h1, h2, hl2, h3⟩ := hs.rowF 0 (by omega)
  have eg := enters_of Tryd.func207 (by kernel_rfl) rfl
  have HB1 := Lib.hid hb1
  unfold maxLen at hl1 hl2
  rw [Nat.add_zero] at h2
  have h0 : 0 < r := hr
  have hne : bb ≠ w.heap.size := by omega
  have hne' : w.heap.size ≠ bb := by omega
  have hq1 : (w.alloc (.cells #[.slice (some ⟨bb, off, none⟩) r cp] 194)).cell? ⟨w.heap.size, 0, none⟩ = some (.slice (some ⟨bb, off, none⟩) r cp) := by simp
  have hq2 : (w.alloc (.cells #[.slice (some ⟨bb, off, none⟩) r cp] 194)).cell? ⟨bb, off, none⟩ = some (.slice A c c') := (HB1.out.cell (p := ⟨bb, off, none⟩) h1).trans h2
  have hsz : w.heap.size < (w.alloc (.cells #[.slice (some ⟨bb, off, none⟩) r cp] 194)).heap.size := by simp
  clear hG hb1
  go_enter Tryd.func194, Tryd.ntmps194
  go_wp2_with fail
  generalize w.alloc (.cells #[.slice (some ⟨bb, off, none⟩) r cp] 194) = w1 at *
  go_region_held3 (fun w' => w'.cell? ⟨w.heap.size, 0, none⟩ = some (.slice (some ⟨bb, off, none⟩) r cp) ∧ w'.cell? ⟨bb, off, none⟩ = some (.slice A c c'))
    (first | exact ⟨hq1, hq2⟩ | exact ⟨q1, q2⟩)
    ((go_at_call 166; refine (newGridB c r _ _ _ w1.drew eg (HG.out.later (Below.refl _ _).drew) (by omega) (by omega)).mono ?_; rintro e w' ⟨v', vs', rfl, hM, ht⟩; have q1 := (ht.to_below.cell (p := ⟨w.heap.size, 0, none⟩) hsz).trans hq1; have q2 := (ht.to_below.cell (p := ⟨bb, off, none⟩) (Nat.lt_trans h1 hsz)).trans hq2))
  go_wp2_with fail
  go_ret
  exact RetM.base ⟨_, _, rfl, hM, ht⟩ HB1.out.drew

set_option maxHeartbeats 1000000 in
theorem turnedAtF (r c B : Nat) (F : Ents) (v : Value) (w : World) (hB : B < w.heap.size) (hv : w.cell? ⟨B, 0, none⟩ = some v) (hs : SeenM w v (mkM r c F)) :
    GivesAt Tryd.prog 192 #[.pointer (some ⟨B, 0, none⟩)] c r (fun i j => F j i) w := by
  intro W i j hb hi hj
  have hv' := (hb.cell (p := ⟨B, 0, none⟩) hB).trans hv
  obtain ⟨bb, off, cp, b', off', c', rfl, hl1, h1, h2, h3, hl2, h4⟩ := (hs.below hb).cellF j i hj hi
  unfold maxLen at hl1 hl2
  have hi' : (i : Int) < (c : Int) := by omega
  have hj' : (j : Int) < (r : Int) := by omega
  clear hv hs
  go_enter Tryd.func192, Tryd.ntmps192
  go_wp2_with fail
  go_ret
  exact ⟨rfl, 0, rfl⟩

set_option maxHeartbeats 1000000 in
theorem turnedF (r c : Nat) (F : Ents) (v : Value) (w : World) (hs : SeenM w v (mkM r c F)) (hr : 1 ≤ r) (hr2 : r ≤ 1000) (hc : c ≤ 1000) :
    Calls Tryd.prog 157 #[v] w (RetM 183 214 w (mkM c r fun i j => F j i)) := by
  have hb1 : Below w.heap.size w (w.alloc (.cells #[v] 181)) := (Below.refl _ _).alloc (Nat.le_refl _) _
  have hG := turnedAtF r c w.heap.size F v (w.alloc (.cells #[v] 181)) (by simp) (by simp) (hs.below hb1)
  have HG := Lib.hid hG
  obtain ⟨bb, off, cp, A, c', rfl, hl1, h1, h2, hl2, h3⟩ := hs.rowF 0 (by omega)
  have eg := enters_of Tryd.func192 (by kernel_rfl) rfl
  have HB1 := Lib.hid hb1
  unfold maxLen at hl1 hl2
  rw [Nat.add_zero] at h2
  have h0 : 0 < r := hr
  have hne : bb ≠ w.heap.size := by omega
  have hne' : w.heap.size ≠ bb := by omega
  have hq1 : (w.alloc (.cells #[.slice (some ⟨bb, off, none⟩) r cp] 181)).cell? ⟨w.heap.size, 0, none⟩ = some (.slice (some ⟨bb, off, none⟩) r cp) := by simp
  have hq2 : (w.alloc (.cells #[.slice (some ⟨bb, off, none⟩) r cp] 181)).cell? ⟨bb, off, none⟩ = some (.slice A c c') := (HB1.out.cell (p := ⟨bb, off, none⟩) h1).trans h2
  have hsz : w.heap.size < (w.alloc (.cells #[.slice (some ⟨bb, off, none⟩) r cp] 181)).heap.size := by simp
  clear hG hb1
  go_enter Tryd.func157, Tryd.ntmps157
  go_wp2_with fail
  generalize w.alloc (.cells #[.slice (some ⟨bb, off, none⟩) r cp] 181) = w1 at *
  go_region_held3 (fun w' => w'.cell? ⟨w.heap.size, 0, none⟩ = some (.slice (some ⟨bb, off, none⟩) r cp) ∧ w'.cell? ⟨bb, off, none⟩ = some (.slice A c c'))
    (first | exact ⟨hq1, hq2⟩ | exact ⟨q1, q2⟩)
    ((go_at_call 152; refine (newGridF c r _ _ _ w1.drew eg (HG.out.later (Below.refl _ _).drew) (by omega) (by omega)).mono ?_; rintro e w' ⟨v', vs', rfl, hM, ht⟩; have q1 := (ht.to_below.cell (p := ⟨w.heap.size, 0, none⟩) hsz).trans hq1; have q2 := (ht.to_below.cell (p := ⟨bb, off, none⟩) (Nat.lt_trans h1 hsz)).trans hq2))
  go_wp2_with fail
  go_ret
  exact RetM.base ⟨_, _, rfl, hM, ht⟩ HB1.out.drew

end Go.Proofs.YtlkoafnlklhaeaaDoor
