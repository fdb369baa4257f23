/- equallyLong, l3Texts; JoinShards: the model's and the program's. -/
import Derived.Test.YtipmfebnjmobfaaDoorJoinMath
import Derived.Test.YtipmfebnjmobfaaDoorSplitI
import Derived.Lib.AppendStr
set_option linter.unusedSimpArgs false
set_option linter.unusedVariables false
namespace Go.Proofs.YtipmfebnjmobfaaDoor
open Go.RowKit G294

set_option maxRecDepth 100000 in
set_option maxHeartbeats 2000000 in
theorem equallyLong_any (v : Value) (L : List (List UInt8)) (w : World) (hv : Seen w v (strs L)) : Calls Tryd.prog 79 #[v] w fun e w' => e = .returned (.bool (textsOk L)) ∧ w = w' := by
  obtain ⟨A, c, rfl, hlc, hcm, hx⟩ := hv
  rw [strs_length] at hlc hx
  simp only [strs_length]
  unfold maxLen at hcm
  generalize hnn : L.length = n at *
  have HN := Lib.hid hnn
  clear hnn
  go_enter Tryd.func79, Tryd.ntmps79
  go_wp2_with fail
  go_loop [7] (fun i => ∃ k : Nat, k ≤ n ∧ i = .int .i64 k ∧ Hid (∀ i (h : i < L.length), i < k → L[i].length = (L.getD 0 []).length ∧ L[i].length ≤ 40)) (fun i => n - (intOf i).toNat)
  case atStart => exact ⟨0, Nat.zero_le _, rfl, fun i h h' => by omega⟩
  case round =>
    obtain ⟨k, hk, rfl, HE⟩ := hrel
    by_cases hlt : k < n
    · have hki : (k : Int) < (n : Int) := by omega
      have hkl : k < L.length := by rw [HN.out]; exact hlt
      obtain ⟨b, off, rfl, hbl, hcell⟩ := hx (by omega)
      have hcx := hcell k _ (strs_get L k hkl)
      have hc0 := hcell 0 _ (strs_get L 0 (by omega))
      rw [Nat.add_zero] at hc0
      have hsk := str_size L[k]
      have hs0 := str_size (L[0]'(by omega))
      have HG : Hid (L.getD 0 [] = L[0]'(by omega)) := by show _ = _; simp [List.getD, show 0 < L.length by omega]
      clear hcell hx
      by_cases h40 : L[k].length ≤ 40
      · by_cases heq : L[k].length = (L[0]'(by omega)).length
        · have HK : Hid (∀ i (h : i < L.length), i < k + 1 → L[i].length = (L.getD 0 []).length ∧ L[i].length ≤ 40) := fun i h h' => by
            rcases Nat.lt_or_ge i k with h2 | h2
            · exact HE.out i h h2
            · obtain rfl : i = k := by omega
              rw [HG.out]; exact ⟨heq, h40⟩
          generalize hnk : L[k].length = nk at *
          generalize hn0 : (L[0]'(by omega)).length = n0 at *
          subst heq
          have t1 : decide ((40 : Int) < (nk : Int)) = false := by simp; omega
          have t2 : ((nk : Int) != (nk : Int)) = false := by simp
          go_wp2_with fail
          go_round
          case rel => exact ⟨k + 1, by omega, by go_num, HK⟩
          case measure => simp [intOf]; omega
        · have HF : Hid (textsOk L = false) := textsOk_false hkl (by rw [HG.out]; omega)
          generalize hnk : L[k].length = nk at *
          generalize hn0 : (L[0]'(by omega)).length = n0 at *
          have t1 : decide ((40 : Int) < (nk : Int)) = false := by simp; omega
          have t2 : ((nk : Int) != (n0 : Int)) = true := by simp; omega
          go_wp2_with fail
          go_ret
          exact ⟨by rw [HF.out]; rfl, rfl⟩
      · have HF : Hid (textsOk L = false) := textsOk_false hkl (by omega)
        generalize hnk : L[k].length = nk at *
        have t1 : decide ((40 : Int) < (nk : Int)) = true := by simp; omega
        go_wp2_with fail
        go_ret
        exact ⟨by rw [HF.out]; rfl, rfl⟩
    · obtain rfl : k = n := by omega
      have hki : ¬ (k : Int) < (k : Int) := by omega
      have HF : Hid (textsOk L = true) := (textsOk_iff L).2 fun i h => HE.out i h (by rw [HN.out] at h; exact h)
      go_wp2_with fail
      go_ret
      exact ⟨by rw [HF.out]; rfl, rfl⟩

set_option maxRecDepth 100000 in
set_option maxHeartbeats 2000000 in
theorem l3Texts_any (v : Value) (L : List (List UInt8)) (w : World) (hv : Seen w v (strs L)) : Calls Tryd.prog 83 #[v] w fun e w' => e = .returned (.bool (textsOk L)) ∧ w = w' := by
  obtain ⟨A, c, rfl, hlc, hcm, hx⟩ := hv
  rw [strs_length] at hlc hx
  simp only [strs_length]
  unfold maxLen at hcm
  generalize hnn : L.length = n at *
  have HN := Lib.hid hnn
  clear hnn
  go_enter Tryd.func83, Tryd.ntmps83
  go_wp2_with fail
  go_loop [7] (fun i => ∃ k : Nat, k ≤ n ∧ i = .int .i64 k ∧ Hid (∀ i (h : i < L.length), i < k → L[i].length = (L.getD 0 []).length ∧ L[i].length ≤ 40)) (fun i => n - (intOf i).toNat)
  case atStart => exact ⟨0, Nat.zero_le _, rfl, fun i h h' => by omega⟩
  case round =>
    obtain ⟨k, hk, rfl, HE⟩ := hrel
    by_cases hlt : k < n
    · have hki : (k : Int) < (n : Int) := by omega
      have hkl : k < L.length := by rw [HN.out]; exact hlt
      obtain ⟨b, off, rfl, hbl, hcell⟩ := hx (by omega)
      have hcx := hcell k _ (strs_get L k hkl)
      have hc0 := hcell 0 _ (strs_get L 0 (by omega))
      rw [Nat.add_zero] at hc0
      have hsk := str_size L[k]
      have hs0 := str_size (L[0]'(by omega))
      have HG : Hid (L.getD 0 [] = L[0]'(by omega)) := by show _ = _; simp [List.getD, show 0 < L.length by omega]
      clear hcell hx
      by_cases heq : L[k].length = (L[0]'(by omega)).length
      · by_cases h40 : L[k].length ≤ 40
        · have HK : Hid (∀ i (h : i < L.length), i < k + 1 → L[i].length = (L.getD 0 []).length ∧ L[i].length ≤ 40) := fun i h h' => by
            rcases Nat.lt_or_ge i k with h2 | h2
            · exact HE.out i h h2
            · obtain rfl : i = k := by omega
              rw [HG.out]; exact ⟨heq, h40⟩
          generalize hnk : L[k].length = nk at *
          generalize hn0 : (L[0]'(by omega)).length = n0 at *
          subst heq
          have t1 : decide ((40 : Int) < (nk : Int)) = false := by simp; omega
          have t2 : ((nk : Int) != (nk : Int)) = false := by simp
          go_wp2_with fail
          go_round
          case rel => exact ⟨k + 1, by omega, by go_num, HK⟩
          case measure => simp [intOf]; omega
        · have HF : Hid (textsOk L = false) := textsOk_false hkl (by omega)
          generalize hnk : L[k].length = nk at *
          generalize hn0 : (L[0]'(by omega)).length = n0 at *
          subst heq
          have t1 : decide ((40 : Int) < (nk : Int)) = true := by simp; omega
          have t2 : ((nk : Int) != (nk : Int)) = false := by simp
          go_wp2_with fail
          go_ret
          exact ⟨by rw [HF.out]; rfl, rfl⟩
      · have HF : Hid (textsOk L = false) := textsOk_false hkl (by rw [HG.out]; omega)
        generalize hnk : L[k].length = nk at *
        generalize hn0 : (L[0]'(by omega)).length = n0 at *
        have t2 : ((nk : Int) != (n0 : Int)) = true := by simp; omega
        go_wp2_with fail
        go_ret
        exact ⟨by rw [HF.out]; rfl, rfl⟩
    · obtain rfl : k = n := by omega
      have hki : ¬ (k : Int) < (k : Int) := by omega
      have HF : Hid (textsOk L = true) := (textsOk_iff L).2 fun i h => HE.out i h (by rw [HN.out] at h; exact h)
      go_wp2_with fail
      go_ret
      exact ⟨by rw [HF.out]; rfl, rfl⟩

end Go.Proofs.YtipmfebnjmobfaaDoor
