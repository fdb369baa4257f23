/- PartOf, the program's. -/
import Derived.Test.YtjgmegfbfjmnfaaPartMath
import Derived.Test.YtjgmegfbfjmnfaaMatI
import Derived.Test.YtjgmegfbfjmnfaaIntsWalks
import Derived.Test.YtjgmegfbfjmnfaaAllocs
set_option linter.unusedSimpArgs false
set_option linter.unusedVariables false
namespace Go.Proofs.Ytjgmegfbfjmnfaa
open Go.RowKit G294

set_option maxRecDepth 100000 in
set_option maxHeartbeats 1000000 in
theorem goodChoice_any (v : Value) (l : List Int) (size : Nat) (w : World) (hv : Seen w v (ints l)) (hsz : size ≤ 1000) :
    Calls Try.prog 55 #[v, .int .i64 size] w fun e w' => e = .returned (.bool (chosen l size)) ∧ w = w' := by
  obtain ⟨A, c, rfl, hlc, hcm, hx⟩ := hv
  rw [ints_length] at hlc hx
  simp only [ints_length]
  unfold maxLen at hcm
  generalize hnn : l.length = n at *
  have HN := Lib.hid hnn
  have HX := Lib.hid hx
  clear hnn hx
  go_enter Try.func55, Try.ntmps55
  go_wp2_with fail
  go_loop [5, 10] (fun q i => ∃ (k : Nat) (z : Int), k ≤ n ∧ i = .int .i64 k ∧ q = .int .i64 z ∧ Hid (z = if k = 0 then -1 else l.getD (k - 1) 0) ∧ Hid (∀ i, i < k → okAt l size i)) (fun _ i => n - (intOf i).toNat)
  case atStart => exact ⟨0, -1, Nat.zero_le _, rfl, rfl, rfl, fun i h => by omega⟩
  case round =>
    obtain ⟨k, z, hk, rfl, rfl, HZ, HK⟩ := hrel
    by_cases hlt : k < n
    · have hki : (k : Int) < (n : Int) := by omega
      have hkl : k < l.length := by rw [HN.out]; exact hlt
      obtain ⟨b, off, rfl, hbl, hcell⟩ := HX.out (by omega)
      have hcx := hcell k _ (ints_get l k hkl)
      obtain ⟨x, hxx⟩ : ∃ x, x = l[k] := ⟨_, rfl⟩
      rw [← hxx] at hcx
      have HXX : Hid (l.getD k 0 = x) := by show l.getD k 0 = x; rw [hxx]; simp [List.getD, hkl]
      clear hcell hxx
      by_cases h1 : x ≤ z
      · have hd : decide (x ≤ z) = true := by simpa using h1
        have HF : Hid (chosen l size = false) := by
          show chosen l size = false
          unfold chosen
          rw [someOk_no hkl (fun ho => by
            have hz := HZ.out
            have e := HXX.out
            obtain ⟨o1, o2, o3⟩ := ho
            by_cases hk0 : k = 0
            · rw [if_pos hk0] at hz; omega
            · rw [if_neg hk0] at hz
              have := o3 (by omega)
              omega)]
          rfl
        go_wp2_with fail
        go_ret
        exact ⟨by rw [HF.out]; rfl, rfl⟩
      · have hd : decide (x ≤ z) = false := by simpa using h1
        by_cases h2 : (size : Int) ≤ x
        · have hd2 : decide ((size : Int) ≤ x) = true := by simpa using h2
          have HF : Hid (chosen l size = false) := by
            show chosen l size = false
            unfold chosen
            rw [someOk_no hkl (fun ho => by
              have e := HXX.out
              obtain ⟨o1, o2, o3⟩ := ho
              omega)]
            rfl
          go_wp2_with fail
          go_ret
          exact ⟨by rw [HF.out]; rfl, rfl⟩
        · have hd2 : decide ((size : Int) ≤ x) = false := by simpa using h2
          have HZ2 : Hid (x = if k + 1 = 0 then -1 else l.getD (k + 1 - 1) 0) := by
            show x = _
            rw [if_neg (by omega), Nat.add_sub_cancel, HXX.out]
          have HK2 : Hid (∀ i, i < k + 1 → okAt l size i) := fun i hi => by
            by_cases e : i = k
            · subst e
              have hz := HZ.out
              have e := HXX.out
              refine ⟨?_, by omega, fun hp => ?_⟩
              · by_cases hk0 : i = 0
                · rw [if_pos hk0] at hz; omega
                · rw [if_neg hk0] at hz
                  have := (HK.out (i - 1) (by omega)).1
                  omega
              · rw [if_neg (by omega)] at hz; omega
            · exact HK.out i (by omega)
          go_wp2_with fail
          go_round
          case rel => exact ⟨k + 1, x, by omega, by go_num, rfl, HZ2, HK2⟩
          case measure => simp [intOf]; omega
    · obtain rfl : k = n := by omega
      have hki : ¬ (k : Int) < (k : Int) := by omega
      have HF : Hid (chosen l size = decide (0 < k)) := by
        show chosen l size = _
        unfold chosen
        rw [(someOk_iff l size).2 (fun i hi => HK.out i (by rw [← HN.out]; exact hi)), HN.out]; rfl
      go_wp2_with fail
      go_ret
      exact ⟨by rw [HF.out]; simp, rfl⟩

end Go.Proofs.Ytjgmegfbfjmnfaa
