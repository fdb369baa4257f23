/- Chapter 8: DistanceOf: the program's and the model's. -/
import Derived.Test.YtjgmegfbfjmnfaaErrMath
import Derived.Test.YtjgmegfbfjmnfaaBytesOwn
import Derived.Test.YtjgmegfbfjmnfaaMatMem
import Derived.Lib.Hide
import Derived.BigQuiet
set_option linter.unusedSimpArgs false
set_option linter.unusedVariables false
namespace G294
open Go Go.RowKit
theorem u8_bne (x y : UInt8) : ((x.toNat : Int) != (y.toNat : Int)) = decide (x ≠ y) := by
  by_cases h : x = y
  · subst h; simp
  · have : x.toNat ≠ y.toNat := fun e => h (UInt8.toNat_inj.1 e)
    rw [show decide (x ≠ y) = true by simpa using h, bne_iff_ne]; omega
theorem distN_same {a b : List UInt8} {k : Nat} (h : a.getD k 0 = b.getD k 0) : distN a b (k + 1) = distN a b k := by simp [distN, ← List.getD_eq_getElem?_getD, h]
theorem distN_more {a b : List UInt8} {k : Nat} (h : a.getD k 0 ≠ b.getD k 0) : distN a b (k + 1) = distN a b k + 1 := by rw [distN, if_neg h]
end G294
namespace Go.Proofs.Ytjgmegfbfjmnfaa
open Go.RowKit G294

set_option maxHeartbeats 1000000 in
theorem differencesN_own (v u : Value) (a b : List UInt8) (w : World) (hv : Seen w v (bys a)) (hu : Seen w u (bys b)) (hl : a.length = b.length) (hn : a.length ≤ 1000000) : Calls Try.prog 56 #[v, u] w (RetInt w (distN a b a.length : Nat)) := by
  obtain ⟨A, c, rfl, hlc, hcm, hx⟩ := hv
  obtain ⟨A', c', rfl, hlc', hcm', hx'⟩ := hu
  rw [bys_length] at hlc hx hlc' hx'
  simp only [bys_length]
  unfold maxLen at hcm hcm'
  have HC1 : Hid (∀ k, k < a.length → (bys a)[k]? = some (.int .u8 ((a.getD k 0).toNat : Int))) := fun k hk => by rw [bys_get a k hk]; simp [List.getD, hk]
  have HC2 : Hid (∀ k, k < b.length → (bys b)[k]? = some (.int .u8 ((b.getD k 0).toNat : Int))) := fun k hk => by rw [bys_get b k hk]; simp [List.getD, hk]
  rw [← hl] at hx' HC2 hlc' ⊢
  generalize hnn : a.length = n at *
  have HX := Lib.hid hx
  have HX' := Lib.hid hx'
  clear hl hnn hx hx'
  go_enter Try.func56, Try.ntmps56
  go_wp2_with fail
  go_loopw [5, 9] (fun d i wr => ∃ k : Nat, k ≤ n ∧ i = .int .i64 k ∧ d = .int .i64 (distN a b k : Nat) ∧ Below w.heap.size w wr) (fun _ i _ => n - (intOf i).toNat)
  case atStart => exact ⟨0, Nat.zero_le _, rfl, rfl, Below.refl _ _⟩
  case round =>
    obtain ⟨k, hk, rfl, rfl, hb⟩ := hrel
    by_cases hlt : k < n
    · obtain ⟨p, off, rfl, hbl, hcell⟩ := HX.out (by omega)
      obtain ⟨p', off', rfl, hbl', hcell'⟩ := HX'.out (by omega)
      have hcx := (hb.cell (p := ⟨p, off + k, none⟩) hbl).trans (hcell k _ (HC1.out k hlt))
      have hcy := (hb.cell (p := ⟨p', off' + k, none⟩) hbl').trans (hcell' k _ (HC2.out k hlt))
      have hki : (k : Int) < (n : Int) := by omega
      have hle := distN_le a b k
      have hbb := u8_bne (a.getD k 0) (b.getD k 0)
      clear hcell hcell'
      by_cases hz : a.getD k 0 = b.getD k 0
      · rw [show decide (a.getD k 0 ≠ b.getD k 0) = false by simpa using hz] at hbb
        have HK := Lib.hid (distN_same hz)
        clear hz
        generalize distN a b k = z at *
        generalize a.getD k 0 = x at *
        generalize b.getD k 0 = y at *
        go_wp2_with fail
        go_quiet (fail)
        go_wp2_with fail
        go_roundw
        case rel => exact ⟨k + 1, by omega, by go_num, by rw [HK.out], below_drewN hb _⟩
        case measure => simp [intOf]; omega
      · rw [show decide (a.getD k 0 ≠ b.getD k 0) = true by simpa using hz] at hbb
        have HK := Lib.hid (distN_more hz)
        clear hz
        generalize distN a b k = z at *
        generalize a.getD k 0 = x at *
        generalize b.getD k 0 = y at *
        go_wp2_with fail
        go_quiet (fail)
        go_wp2_with fail
        go_roundw
        case rel => exact ⟨k + 1, by omega, by go_num, by rw [HK.out]; go_num, below_drewN hb _⟩
        case measure => simp [intOf]; omega
    · obtain rfl : k = n := by omega
      have hki : ¬ (k : Int) < (k : Int) := by omega
      go_wp2_with fail
      go_ret
      exact ⟨rfl, TurnIn.of_below hb⟩

set_option maxHeartbeats 1000000 in
theorem distanceOf_own (v u : Value) (a b : List UInt8) (w : World) (hv : Seen w v (bys a)) (hu : Seen w u (bys b)) : Calls Try.prog 38 #[v, u] w (RetIntOk w (distR a b) (distOk a b)) := by
  have HV := Lib.hid hv
  have HU := Lib.hid hu
  obtain ⟨A, c, hvv⟩ := hv.len
  obtain ⟨A', c', huu⟩ := hu.len
  rw [bys_length] at hvv huu
  subst hvv huu
  clear hv hu
  have HOK : Hid (distOk a b = decide (a.length = b.length ∧ a.length ≤ 24)) := rfl
  have HR : Hid (distOk a b = true → distR a b = (distN a b a.length : Int)) := fun h => if_pos h
  have HR0 : Hid (distOk a b = false → distR a b = 0) := fun h => if_neg (by rw [h]; simp)
  have HDF := Lib.hid (fun (hl : a.length = b.length) (hn : a.length ≤ 1000000) => differencesN_own _ _ a b w HV.out HU.out hl hn)
  generalize hnn : a.length = n at *
  generalize hmm : b.length = m at *
  clear hnn hmm
  by_cases h1 : n = m
  · subst h1
    have h1b : ((n : Int) != (n : Int)) = false := by simp
    by_cases h2 : n ≤ 24
    · have HF : Hid (distOk a b = true) := by show _ = _; rw [HOK.out]; simp [h2]
      have HD : Hid (distR a b = (distN a b n : Int)) := HR.out HF.out
      have h2i : ¬ (24 : Int) < (n : Int) := by omega
      have h2d : decide ((24 : Int) < (n : Int)) = false := by simpa using h2i
      have HDF2 := Lib.hid (HDF.out (by first | rfl | trivial) (by omega))
      go_enter Try.func38, Try.ntmps38
      go_wp2_with fail
      refine HDF2.out.mono ?_
      rintro e w1 ⟨rfl, k1⟩
      go_wp2_with fail
      go_ret2
      exact ⟨by rw [HD.out, HF.out]; rfl, k1⟩
    · have HF : Hid (distOk a b = false) := by show _ = _; rw [HOK.out]; simp [h2]
      have HD : Hid (distR a b = 0) := HR0.out HF.out
      have h2i : (24 : Int) < (n : Int) := by omega
      have h2d : decide ((24 : Int) < (n : Int)) = true := by simpa using h2i
      go_enter Try.func38, Try.ntmps38
      go_wp2_with fail
      go_ret2
      exact ⟨by rw [HD.out, HF.out]; rfl, TurnIn.refl _⟩
  · have HF : Hid (distOk a b = false) := by show _ = _; rw [HOK.out]; simp [h1]
    have HD : Hid (distR a b = 0) := HR0.out HF.out
    have h1b : ((n : Int) != (m : Int)) = true := by rw [bne_iff_ne]; omega
    go_enter Try.func38, Try.ntmps38
    go_wp2_with fail
    go_ret2
    exact ⟨by rw [HD.out, HF.out]; rfl, TurnIn.refl _⟩

set_option maxHeartbeats 1000000 in
theorem sDistanceOf_own (v u : Value) (a b : List UInt8) (w : World) (hv : Seen w v (bys a)) (hu : Seen w u (bys b)) : Calls Try.prog 36 #[v, u] w (RetIntOk w (distR a b) (distOk a b)) := by
  obtain ⟨A, c, rfl, hlc, hcm, hx⟩ := hv
  obtain ⟨A', c', rfl, hlc', hcm', hx'⟩ := hu
  rw [bys_length] at hlc hx hlc' hx'
  simp only [bys_length]
  unfold maxLen at hcm hcm'
  have HOK : Hid (distOk a b = decide (a.length = b.length ∧ a.length ≤ 24)) := rfl
  have HR : Hid (distOk a b = true → distR a b = (distN a b a.length : Int)) := fun h => if_pos h
  have HR0 : Hid (distOk a b = false → distR a b = 0) := fun h => if_neg (by rw [h]; simp)
  generalize hnn : a.length = n at *
  generalize hmm : b.length = m at *
  have HN := Lib.hid hnn
  have HM := Lib.hid hmm
  clear hnn hmm
  by_cases h1 : n = m
  · subst h1
    have h1b : ((n : Int) != (n : Int)) = false := by simp
    by_cases h2 : n ≤ 24
    · have HF : Hid (distOk a b = true) := by show _ = _; rw [HOK.out]; simp [h2]
      have h2i : ¬ (24 : Int) < (n : Int) := by omega
      have h2d : decide ((24 : Int) < (n : Int)) = false := by simpa using h2i
      go_enter Try.func36, Try.ntmps36
      go_wp2_with fail
      go_loopw [6, 20] (fun d i wr => ∃ k : Nat, k ≤ n ∧ i = .int .i64 k ∧ d = .int .i64 (distN a b k : Nat) ∧ Below w.heap.size w wr) (fun _ i _ => n - (intOf i).toNat)
      case atStart => exact ⟨0, Nat.zero_le _, rfl, rfl, Below.refl _ _⟩
      case round =>
        obtain ⟨k, hk, rfl, rfl, hb⟩ := hrel
        by_cases hlt : k < n
        · obtain ⟨p, off, rfl, hbl, hcell⟩ := hx (by omega)
          obtain ⟨p', off', rfl, hbl', hcell'⟩ := hx' (by omega)
          have hkl : k < a.length := by rw [HN.out]; exact hlt
          have hkl' : k < b.length := by rw [HM.out]; exact hlt
          have hcx : wr.cell? ⟨p, off + k, none⟩ = some (.int .u8 ((a.getD k 0).toNat : Int)) := by
            have := (hb.cell (p := ⟨p, off + k, none⟩) hbl).trans (hcell k _ (bys_get a k hkl))
            simpa [List.getD, hkl] using this
          have hcy : wr.cell? ⟨p', off' + k, none⟩ = some (.int .u8 ((b.getD k 0).toNat : Int)) := by
            have := (hb.cell (p := ⟨p', off' + k, none⟩) hbl').trans (hcell' k _ (bys_get b k hkl'))
            simpa [List.getD, hkl'] using this
          have hki : (k : Int) < (n : Int) := by omega
          have hle := distN_le a b k
          have hbb := u8_bne (a.getD k 0) (b.getD k 0)
          clear hcell hx hcell' hx'
          by_cases hz : a.getD k 0 = b.getD k 0
          · rw [show decide (a.getD k 0 ≠ b.getD k 0) = false by simpa using hz] at hbb
            have HK := Lib.hid (distN_same hz)
            clear hz
            generalize distN a b k = z at *
            generalize a.getD k 0 = x at *
            generalize b.getD k 0 = y at *
            go_wp2_with fail
            go_quiet (fail)
            go_wp2_with fail
            go_roundw
            case rel => exact ⟨k + 1, by omega, by go_num, by rw [HK.out], below_drewN hb _⟩
            case measure => simp [intOf]; omega
          · rw [show decide (a.getD k 0 ≠ b.getD k 0) = true by simpa using hz] at hbb
            have HK := Lib.hid (distN_more hz)
            clear hz
            generalize distN a b k = z at *
            generalize a.getD k 0 = x at *
            generalize b.getD k 0 = y at *
            go_wp2_with fail
            go_quiet (fail)
            go_wp2_with fail
            go_roundw
            case rel => exact ⟨k + 1, by omega, by go_num, by rw [HK.out]; go_num, below_drewN hb _⟩
            case measure => simp [intOf]; omega
        · obtain rfl : k = n := by omega
          have hki : ¬ (k : Int) < (k : Int) := by omega
          have HD : Hid (distR a b = (distN a b k : Int)) := HR.out HF.out
          have hle := distN_le a b k
          generalize distN a b k = z at *
          go_wp2_with fail
          go_ret2
          exact ⟨by rw [HD.out, HF.out]; rfl, TurnIn.of_below hb⟩
    · have HF : Hid (distOk a b = false) := by show _ = _; rw [HOK.out]; simp [h2]
      have HD : Hid (distR a b = 0) := HR0.out HF.out
      have h2i : (24 : Int) < (n : Int) := by omega
      have h2d : decide ((24 : Int) < (n : Int)) = true := by simpa using h2i
      go_enter Try.func36, Try.ntmps36
      go_wp2_with fail
      go_ret2
      exact ⟨by rw [HD.out, HF.out]; rfl, TurnIn.refl _⟩
  · have HF : Hid (distOk a b = false) := by show _ = _; rw [HOK.out]; simp [h1]
    have HD : Hid (distR a b = 0) := HR0.out HF.out
    have h1b : ((n : Int) != (m : Int)) = true := by rw [bne_iff_ne]; omega
    go_enter Try.func36, Try.ntmps36
    go_wp2_with fail
    go_ret2
    exact ⟨by rw [HD.out, HF.out]; rfl, TurnIn.refl _⟩

end Go.Proofs.Ytjgmegfbfjmnfaa
