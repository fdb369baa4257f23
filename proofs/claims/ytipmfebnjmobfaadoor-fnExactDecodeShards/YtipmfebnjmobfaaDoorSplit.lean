/- SplitText: the model's and the program's. -/
import Derived.Test.YtipmfebnjmobfaaDoorSplitMath
import Derived.Test.YtipmfebnjmobfaaDoorStrWalks
set_option linter.unusedSimpArgs false
set_option linter.unusedVariables false
namespace Go.Proofs.YtipmfebnjmobfaaDoor
open Go.RowKit G294

set_option maxRecDepth 100000 in
set_option maxHeartbeats 2000000 in
theorem l3Split_own (s : List UInt8) (k : Nat) (w : World) (h1 : 1 ≤ k) (h8 : k ≤ 8) (hs : s.length ≤ k * 40) : Calls Tryd.prog 78 #[.string (str s), .int .i64 k] w (RetStrs 9 w (splitL s k)) := by
  obtain ⟨i0, hi0, hz0, hz1, hz2⟩ := info_parts infoByte
  have hps := partSize_le s.length k h1 hs
  have hpm := partSize_mul s.length k h1
  have HL := Lib.hid (padded_length s k h1)
  have hsz := str_size s
  have hkz : (k : Int) ≠ 0 := by omega
  have hdiv : ((s.length : Int) + (k : Int) - 1) / (k : Int) = ((partSize s.length k : Nat) : Int) := by
    unfold partSize
    have : ((s.length + k - 1 : Nat) : Int) = (s.length : Int) + (k : Int) - 1 := by omega
    rw [Int.natCast_ediv, this]
  obtain ⟨z, hz⟩ : ∃ z, z = partSize s.length k := ⟨_, rfl⟩
  rw [← hz] at hps hpm hdiv
  have HZ := Lib.hid hz
  clear hz
  obtain ⟨n, hn⟩ : ∃ n, n = s.length := ⟨_, rfl⟩
  rw [← hn] at hs hpm hsz hdiv
  have HN := Lib.hid hn
  clear hn
  obtain ⟨kz, hkz'⟩ : ∃ kz, kz = k * z := ⟨_, rfl⟩
  have hkb : kz ≤ 320 := by rw [hkz']; exact Nat.mul_le_mul h8 hps
  have hkm : (k : Int) * (z : Int) = (kz : Int) := by rw [hkz']; exact (Int.natCast_mul k z).symm
  rw [← hkz'] at hpm
  have HKZ := Lib.hid hkz'
  clear hkz'
  have hsub : (kz : Int) - (n : Int) = ((kz - n : Nat) : Int) := by omega
  have hpad : str s ++ str (List.replicate (kz - n) 0) = str (padded s k) := by
    rw [str_append, padded, ← HZ.out, ← HN.out, ← HKZ.out]
  have hpl : (str (padded s k)).size = kz := by rw [str_size, HL.out, ← HZ.out, HKZ.out]
  have hsm : ¬ 9223372036854775807 < n + (str (List.replicate (kz - n) 0)).size := by rw [str_size]; simp; omega
  go_enter Tryd.func78, Tryd.ntmps78
  go_wp2_with (at_make; refine wpList_make_full _ rfl _ _ _ rfl w.heap.size _ i0 _ 1 Tryd.underlying42 hi0 hz0 hz1 _ _ _ _ (kz - n) rfl rfl (by first | rfl | exact hsub) (by first | rfl | exact hsub) ?b2 ?b3 ?b4 ?_)
  case b2 => rw [hz2]; omega
  case b3 => unfold maxLen; omega
  case b4 => exact Nat.le_refl _
  intro w1 hown1 hg1
  have hb1 : Below w.heap.size w w1 := below_of_grown hg1 (Nat.le_refl _) (by simp)
  rw [toList_madeCells_one] at hown1
  have hseen : Seen w1 (.slice (some ⟨w.heap.size, 0, none⟩) (kz - n) (kz - n)) (bys (List.replicate (kz - n) 0)) := by
    have e : bys (List.replicate (kz - n) 0) = List.replicate (kz - n) (.int .u8 0) := by simp [bys, List.map_replicate]
    rw [e]; exact Seen.of_own hown1
  have hconv := run_string_seen (P := Tryd.prog) 42 5 9 Tryd.underlying42 Tryd.underlying5 Tryd.underlying9 hseen
  clear hg1 hown1 hseen
  go_wp2_with fail
  clear hconv hdiv hpad hsub
  go_loopw [6, 7] (fun o i wr => ∃ m : Nat, m ≤ k ∧ i = .int .i64 m ∧ wr.ownsRow w.heap.size 9 1 o m (strs ((List.range m).map (splitP s k))) ∧ Below w.heap.size w wr)
    (fun _ i _ => k - (intOf i).toNat)
  case atStart => exact ⟨0, Nat.zero_le _, rfl, World.ownsRow_nil _ _ _ _, hb1⟩
  case round =>
    obtain ⟨m, hm, rfl, hown, hb⟩ := hrel
    by_cases hlt : m < k
    · have hki : (m : Int) < (k : Int) := by omega
      have hmz1 : (m + 1) * z ≤ k * z := Nat.mul_le_mul_right _ hlt
      obtain ⟨mz, hmz⟩ : ∃ mz, mz = m * z := ⟨_, rfl⟩
      have hm1 : (m + 1) * z = mz + z := by rw [Nat.add_mul, hmz]; omega
      have q1 : (m : Int) * (z : Int) = (mz : Int) := by rw [hmz]; exact (Int.natCast_mul m z).symm
      have q2 : ((m : Int) + 1) * (z : Int) = (mz : Int) + (z : Int) := by rw [Int.add_mul, q1]; omega
      have hle : mz + z ≤ kz := by rw [hm1, ← HKZ.out] at hmz1; exact hmz1
      have hex : (str (padded s k)).extract mz (mz + z) = str (splitP s k m) := by
        rw [extract_str, splitP, ← HZ.out, hmz, Nat.add_sub_cancel_left]
      have HMZ := Lib.hid hmz
      clear hmz hm1 hmz1
      go_wp2_with (at_builtin; refine wpList_append1 rfl _ _ _ rfl w.heap.size 9 _ _ Tryd.underlying24 infoStr rfl _ m _ rfl (hown.alloc _) wr.heap.size (.string (str (splitP s k m))) rfl ?c1 rfl ?c2 ?c3 ?c4 ?_)
      case c1 => simp
      case c2 => omega
      case c3 => omega
      case c4 => have := hb.size; simp; omega
      intro v' w' hown' hg' _
      have hb' : Below w.heap.size w w' := below_append (hb.alloc hb.size _) (hown.alloc _) hg' (Nat.le_refl _) (by have := hb.size; simp; omega)
      have hown2 : w'.ownsRow w.heap.size 9 1 v' (m + 1) (strs ((List.range (m + 1)).map (splitP s k))) := by
        rw [splitL_succ, strs_append]; exact hown'
      clear hown' hg'
      go_wp2_with fail
      go_roundw
      case rel => exact ⟨m + 1, by omega, by go_num, hown2, hb'⟩
      case measure => simp [intOf]; omega
    · obtain rfl : m = k := by omega
      have hki : ¬ (m : Int) < (m : Int) := by omega
      go_wp2_with fail
      go_ret
      exact ⟨_, rfl, OwnStrs.of_made (by simpa [splitL] using hown), TurnIn.of_below hb⟩

set_option maxRecDepth 100000 in
set_option maxHeartbeats 2000000 in
theorem sSplitText_own (s : List UInt8) (k : Int) (w : World) (hn : s.length ≤ 1048576) : Calls Tryd.prog 30 #[.string (str s), .int .i64 k] w (RetStrsOk 9 w (splitR s k) (splitOk s k)) := by
  have hsz := str_size s
  by_cases h : dataOk k = true
  · have HI : Hid (inB k 1 8 = true) := h
    have hb : 1 ≤ k ∧ k ≤ 8 := by simpa [dataOk] using h
    obtain ⟨m, rfl⟩ := Int.eq_ofNat_of_zero_le (show 0 ≤ k by omega)
    by_cases h2 : s.length ≤ m * 40
    · have HO : Hid (splitOk s m = true) := by show splitOk s m = true; simp only [splitOk, h, Bool.true_and, decide_eq_true_eq]; omega
      have HR : Hid (splitR s m = splitL s m) := by show splitR s m = _; unfold splitR; rw [if_pos HO.out]; simp
      have hno : ¬ (m : Int) * 40 < (s.length : Int) := by omega
      have hdc : decide ((m : Int) * 40 < (s.length : Int)) = false := by simpa using hno
      have H2 := Lib.hid h2
      clear h h2
      go_enter Tryd.func30, Tryd.ntmps30
      go_wp2_with fail
      refine (l1In_any _ _ _ _).mono ?_
      rintro e w' ⟨rfl, rfl⟩
      rw [HI.out]
      go_wp2_with fail
      refine (l3Split_own s m _ (by omega) (by omega) H2.out).mono ?_
      rintro e w' ⟨v', rfl, ho, ht⟩
      go_wp2_with fail
      go_ret2
      exact ⟨v', by rw [HO.out]; rfl, by rw [HR.out]; exact ho, ht⟩
    · have HO : Hid (splitOk s m = false) := by show splitOk s m = false; simp only [splitOk, h, Bool.true_and, decide_eq_false_iff_not]; omega
      have HR : Hid (splitR s m = []) := by show splitR s m = _; unfold splitR; rw [if_neg (by rw [HO.out]; simp)]
      have hno : (m : Int) * 40 < (s.length : Int) := by omega
      have hdc : decide ((m : Int) * 40 < (s.length : Int)) = true := by simpa using hno
      clear h h2
      go_enter Tryd.func30, Tryd.ntmps30
      go_wp2_with fail
      refine (l1In_any _ _ _ _).mono ?_
      rintro e w' ⟨rfl, rfl⟩
      rw [HI.out]
      go_wp2_with fail
      go_ret2
      exact ⟨.slice none 0 0, by rw [HO.out]; rfl, by rw [HR.out]; exact OwnStrs.nil _ _ _, TurnIn.refl _⟩
  · have HI : Hid (inB k 1 8 = false) := by show inB k 1 8 = false; simpa [dataOk, inB] using h
    have HO : Hid (splitOk s k = false) := by show splitOk s k = false; simp [splitOk, h]
    have HR : Hid (splitR s k = []) := by show splitR s k = _; unfold splitR; rw [if_neg (by rw [HO.out]; simp)]
    clear h
    go_enter Tryd.func30, Tryd.ntmps30
    go_wp2_with fail
    refine (l1In_any _ _ _ _).mono ?_
    rintro e w' ⟨rfl, rfl⟩
    rw [HI.out]
    go_wp2_with fail
    go_ret2
    exact ⟨.slice none 0 0, by rw [HO.out]; rfl, by rw [HR.out]; exact OwnStrs.nil _ _ _, TurnIn.refl _⟩

end Go.Proofs.YtipmfebnjmobfaaDoor
