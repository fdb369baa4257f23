/- goodVector and goodPair. -/
import Derived.Test.YtlkoafnlklhaeaaDoorVecMath
import Derived.Test.YtlkoafnlklhaeaaDoorBytesOwn
set_option linter.unusedSimpArgs false
set_option linter.unusedVariables false
namespace Go.Proofs.YtlkoafnlklhaeaaDoor
open Go.RowKit G294

set_option maxHeartbeats 400000 in
theorem goodVector_any (v : Value) (l : List UInt8) (w : World) (hv : Seen w v (bys l)) :
    Calls Tryd.prog 160 #[v] w fun e w' => e = .returned (.bool (scaleOk l)) ∧ w = w' := by
  obtain ⟨A, c, rfl, hlc, hcm, hx⟩ := hv
  simp only [bys_length] at hlc ⊢
  unfold maxLen at hcm
  have HO : Hid (scaleOk l = decide (l.length ≤ 80)) := rfl
  generalize l.length = n at *
  go_enter Tryd.func160, Tryd.ntmps160
  go_wp2_with fail
  go_ret
  exact ⟨by rw [HO.out]; simp; omega, rfl⟩

set_option maxHeartbeats 400000 in
theorem goodPair_any (v u : Value) (l m : List UInt8) (w : World) (hv : Seen w v (bys l)) (hu : Seen w u (bys m)) :
    Calls Tryd.prog 144 #[v, u] w fun e w' => e = .returned (.bool (pairOk l m)) ∧ w = w' := by
  have hv0 := hv
  obtain ⟨A, c, rfl, hlc, hcm, hx⟩ := hv
  obtain ⟨A', c', rfl, hlc', hcm', hx'⟩ := hu
  rw [bys_length] at hlc hlc' hv0
  simp only [bys_length]
  unfold maxLen at hcm hcm'
  clear hx hx'
  have HP : Hid (pairOk l m = (scaleOk l && decide (l.length = m.length))) := by
    show pairOk l m = _
    simp [pairOk, scaleOk]
  by_cases h1 : scaleOk l = true
  · have H1 := Lib.hid h1
    clear h1
    by_cases h2 : l.length = m.length
    · have hbn : ((l.length : Int) == (m.length : Int)) = true := by simp; omega
      have H2 := Lib.hid h2
      clear h2
      go_enter Tryd.func144, Tryd.ntmps144
      go_wp2_with fail
      refine (goodVector_any _ l _ hv0).mono ?_
      rintro e w' ⟨rfl, rfl⟩
      rw [H1.out]
      go_wp2_with fail
      go_ret
      exact ⟨by rw [HP.out, H1.out]; simp [H2.out], rfl⟩
    · have hbn : ((l.length : Int) == (m.length : Int)) = false := by simp; omega
      have H2 := Lib.hid h2
      clear h2
      go_enter Tryd.func144, Tryd.ntmps144
      go_wp2_with fail
      refine (goodVector_any _ l _ hv0).mono ?_
      rintro e w' ⟨rfl, rfl⟩
      rw [H1.out]
      go_wp2_with fail
      go_ret
      exact ⟨by rw [HP.out, H1.out]; simp [H2.out], rfl⟩
  · have H1 : Hid (scaleOk l = false) := by show scaleOk l = false; simpa using h1
    clear h1
    go_enter Tryd.func144, Tryd.ntmps144
    go_wp2_with fail
    refine (goodVector_any _ l _ hv0).mono ?_
    rintro e w' ⟨rfl, rfl⟩
    rw [H1.out]
    go_wp2_with fail
    go_ret
    exact ⟨by rw [HP.out, H1.out]; rfl, rfl⟩

end Go.Proofs.YtlkoafnlklhaeaaDoor
