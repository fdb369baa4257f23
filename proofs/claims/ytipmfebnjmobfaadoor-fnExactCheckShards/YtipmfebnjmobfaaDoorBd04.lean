/- Joined texts: Split, SplitI, Join, IntsWalks, GoodSh, SpecShards, SpecBlank. -/
import Derived.Test.YtipmfebnjmobfaaDoorBd03
import Derived.Test.YtipmfebnjmobfaaDoorBd02
import Derived.Test.YtipmfebnjmobfaaDoorBd01
import Derived.Lib.LazyBuf
import Derived.Lib.AppendStr
import Derived.Test.YtipmfebnjmobfaaDoorBd00
import Derived.Deep.OwnRows
import Derived.Deep.RegionLaw
set_option linter.unusedSimpArgs false
set_option linter.unusedVariables false
/- SplitText: the model's and the program's. -/
namespace Go.Proofs.YtipmfebnjmobfaaDoor
open Go.RowKit G294

set_option maxRecDepth 100000 in
set_option maxHeartbeats 2000000 in
theorem l3Split_own (s : List UInt8) (k : Nat) (w : World) (h1 : 1 ≤ k) (h8 : k ≤ 8) (hs : s.length ≤ k * 40) : Calls Tryd.prog 78 #[.string (str s), .int .i64 k] w (RetStrs 9 w (splitL s k)) := by
  obtain ⟨i0, hi0, hz0, hz1, hz2⟩ := info_parts infoByte
  have hps := partSize_le s.length k h1 hs
  have hpm := partSize_mul s.length k h1
  have HL := Lib.hid (padded_length s k h1)
  have hsz := str_size s
  have hkz : (k : Int) ≠ 0 := by omega
  have hdiv : ((s.length : Int) + (k : Int) - 1) / (k : Int) = ((partSize s.length k : Nat) : Int) := by
    unfold partSize
    have : ((s.length + k - 1 : Nat) : Int) = (s.length : Int) + (k : Int) - 1 := by omega
    rw [Int.natCast_ediv, this]
  obtain ⟨z, hz⟩ : ∃ z, z = partSize s.length k := ⟨_, rfl⟩
  rw [← hz] at hps hpm hdiv
  have HZ := Lib.hid hz
  clear hz
  obtain ⟨n, hn⟩ : ∃ n, n = s.length := ⟨_, rfl⟩
  rw [← hn] at hs hpm hsz hdiv
  have HN := Lib.hid hn
  clear hn
  obtain ⟨kz, hkz'⟩ : ∃ kz, kz = k * z := ⟨_, rfl⟩
  have hkb : kz ≤ 320 := by rw [hkz']; exact Nat.mul_le_mul h8 hps
  have hkm : (k : Int) * (z : Int) = (kz : Int) := by rw [hkz']; exact (Int.natCast_mul k z).symm
  rw [← hkz'] at hpm
  have HKZ := Lib.hid hkz'
  clear hkz'
  have hsub : (kz : Int) - (n : Int) = ((kz - n : Nat) : Int) := by omega
  have hpad : str s ++ str (List.replicate (kz - n) 0) = str (padded s k) := by
    rw [str_append, padded, ← HZ.out, ← HN.out, ← HKZ.out]
  have hpl : (str (padded s k)).size = kz := by rw [str_size, HL.out, ← HZ.out, HKZ.out]
  have hsm : ¬ 9223372036854775807 < n + (str (List.replicate (kz - n) 0)).size := by rw [str_size]; simp; omega
  go_enter Tryd.func78, Tryd.ntmps78
  go_wp2_with (at_make; refine wpList_make_full _ rfl _ _ _ rfl w.heap.size _ i0 _ 1 Tryd.underlying42 hi0 hz0 hz1 _ _ _ _ (kz - n) rfl rfl (by first | rfl | exact hsub) (by first | rfl | exact hsub) ?b2 ?b3 ?b4 ?_)
  case b2 => rw [hz2]; omega
  case b3 => unfold maxLen; omega
  case b4 => exact Nat.le_refl _
  intro w1 hown1 hg1
  have hb1 : Below w.heap.size w w1 := below_of_grown hg1 (Nat.le_refl _) (by simp)
  rw [toList_madeCells_one] at hown1
  have hseen : Seen w1 (.slice (some ⟨w.heap.size, 0, none⟩) (kz - n) (kz - n)) (bys (List.replicate (kz - n) 0)) := by
    have e : bys (List.replicate (kz - n) 0) = List.replicate (kz - n) (.int .u8 0) := by simp [bys, List.map_replicate]
    rw [e]; exact Seen.of_own hown1
  have hconv := run_string_seen (P := Tryd.prog) 42 5 9 Tryd.underlying42 Tryd.underlying5 Tryd.underlying9 hseen
  clear hg1 hown1 hseen
  go_wp2_with fail
  clear hconv hdiv hpad hsub
  go_loopw [6, 7] (fun o i wr => ∃ m : Nat, m ≤ k ∧ i = .int .i64 m ∧ wr.ownsRow w.heap.size 9 1 o m (strs ((List.range m).map (splitP s k))) ∧ Below w.heap.size w wr)
    (fun _ i _ => k - (intOf i).toNat)
  case atStart => exact ⟨0, Nat.zero_le _, rfl, World.ownsRow_nil _ _ _ _, hb1⟩
  case round =>
    obtain ⟨m, hm, rfl, hown, hb⟩ := hrel
    by_cases hlt : m < k
    · have hki : (m : Int) < (k : Int) := by omega
      have hmz1 : (m + 1) * z ≤ k * z := Nat.mul_le_mul_right _ hlt
      obtain ⟨mz, hmz⟩ : ∃ mz, mz = m * z := ⟨_, rfl⟩
      have hm1 : (m + 1) * z = mz + z := by rw [Nat.add_mul, hmz]; omega
      have q1 : (m : Int) * (z : Int) = (mz : Int) := by rw [hmz]; exact (Int.natCast_mul m z).symm
      have q2 : ((m : Int) + 1) * (z : Int) = (mz : Int) + (z : Int) := by rw [Int.add_mul, q1]; omega
      have hle : mz + z ≤ kz := by rw [hm1, ← HKZ.out] at hmz1; exact hmz1
      have hex : (str (padded s k)).extract mz (mz + z) = str (splitP s k m) := by
        rw [extract_str, splitP, ← HZ.out, hmz, Nat.add_sub_cancel_left]
      have HMZ := Lib.hid hmz
      clear hmz hm1 hmz1
      go_wp2_with (at_builtin; refine wpList_append1 rfl _ _ _ rfl w.heap.size 9 _ _ Tryd.underlying24 infoStr rfl _ m _ rfl (hown.alloc _) wr.heap.size (.string (str (splitP s k m))) rfl ?c1 rfl ?c2 ?c3 ?c4 ?_)
      case c1 => simp
      case c2 => omega
      case c3 => omega
      case c4 => have := hb.size; simp; omega
      intro v' w' hown' hg' _
      have hb' : Below w.heap.size w w' := below_append (hb.alloc hb.size _) (hown.alloc _) hg' (Nat.le_refl _) (by have := hb.size; simp; omega)
      have hown2 : w'.ownsRow w.heap.size 9 1 v' (m + 1) (strs ((List.range (m + 1)).map (splitP s k))) := by
        rw [splitL_succ, strs_append]; exact hown'
      clear hown' hg'
      go_wp2_with fail
      go_roundw
      case rel => exact ⟨m + 1, by omega, by go_num, hown2, hb'⟩
      case measure => simp [intOf]; omega
    · obtain rfl : m = k := by omega
      have hki : ¬ (m : Int) < (m : Int) := by omega
      go_wp2_with fail
      go_ret
      exact ⟨_, rfl, OwnStrs.of_made (by simpa [splitL] using hown), TurnIn.of_below hb⟩

set_option maxRecDepth 100000 in
set_option maxHeartbeats 2000000 in
theorem sSplitText_own (s : List UInt8) (k : Int) (w : World) (hn : s.length ≤ 1048576) : Calls Tryd.prog 30 #[.string (str s), .int .i64 k] w (RetStrsOk 9 w (splitR s k) (splitOk s k)) := by
  have hsz := str_size s
  by_cases h : dataOk k = true
  · have HI : Hid (inB k 1 8 = true) := h
    have hb : 1 ≤ k ∧ k ≤ 8 := by simpa [dataOk] using h
    obtain ⟨m, rfl⟩ := Int.eq_ofNat_of_zero_le (show 0 ≤ k by omega)
    by_cases h2 : s.length ≤ m * 40
    · have HO : Hid (splitOk s m = true) := by show splitOk s m = true; simp only [splitOk, h, Bool.true_and, decide_eq_true_eq]; omega
      have HR : Hid (splitR s m = splitL s m) := by show splitR s m = _; unfold splitR; rw [if_pos HO.out]; simp
      have hno : ¬ (m : Int) * 40 < (s.length : Int) := by omega
      have hdc : decide ((m : Int) * 40 < (s.length : Int)) = false := by simpa using hno
      have H2 := Lib.hid h2
      clear h h2
      go_enter Tryd.func30, Tryd.ntmps30
      go_wp2_with fail
      refine (l1In_any _ _ _ _).mono ?_
      rintro e w' ⟨rfl, rfl⟩
      rw [HI.out]
      go_wp2_with fail
      refine (l3Split_own s m _ (by omega) (by omega) H2.out).mono ?_
      rintro e w' ⟨v', rfl, ho, ht⟩
      go_wp2_with fail
      go_ret2
      exact ⟨v', by rw [HO.out]; rfl, by rw [HR.out]; exact ho, ht⟩
    · have HO : Hid (splitOk s m = false) := by show splitOk s m = false; simp only [splitOk, h, Bool.true_and, decide_eq_false_iff_not]; omega
      have HR : Hid (splitR s m = []) := by show splitR s m = _; unfold splitR; rw [if_neg (by rw [HO.out]; simp)]
      have hno : (m : Int) * 40 < (s.length : Int) := by omega
      have hdc : decide ((m : Int) * 40 < (s.length : Int)) = true := by simpa using hno
      clear h h2
      go_enter Tryd.func30, Tryd.ntmps30
      go_wp2_with fail
      refine (l1In_any _ _ _ _).mono ?_
      rintro e w' ⟨rfl, rfl⟩
      rw [HI.out]
      go_wp2_with fail
      go_ret2
      exact ⟨.slice none 0 0, by rw [HO.out]; rfl, by rw [HR.out]; exact OwnStrs.nil _ _ _, TurnIn.refl _⟩
  · have HI : Hid (inB k 1 8 = false) := by show inB k 1 8 = false; simpa [dataOk, inB] using h
    have HO : Hid (splitOk s k = false) := by show splitOk s k = false; simp [splitOk, h]
    have HR : Hid (splitR s k = []) := by show splitR s k = _; unfold splitR; rw [if_neg (by rw [HO.out]; simp)]
    clear h
    go_enter Tryd.func30, Tryd.ntmps30
    go_wp2_with fail
    refine (l1In_any _ _ _ _).mono ?_
    rintro e w' ⟨rfl, rfl⟩
    rw [HI.out]
    go_wp2_with fail
    go_ret2
    exact ⟨.slice none 0 0, by rw [HO.out]; rfl, by rw [HR.out]; exact OwnStrs.nil _ _ _, TurnIn.refl _⟩

end Go.Proofs.YtipmfebnjmobfaaDoor

/- SplitText: the program's. -/
namespace G294
open Go Go.RowKit
theorem own_setCells {base g n cap : Nat} {e : TypeId} : ∀ (vs : List Value) (o : Nat) (w : World) (xs : List Value), w.ownsRow base e 1 (.slice (some ⟨g, 0, none⟩) n cap) n xs → o + vs.length ≤ n →
    (w.setCells g o vs).ownsRow base e 1 (.slice (some ⟨g, 0, none⟩) n cap) n (xs.take o ++ (vs ++ xs.drop (o + vs.length))) ∧ w.grownBy (w.setCells g o vs) (some g)
  | [], o, w, xs, h, hl => ⟨by simpa [World.setCells] using h, World.grownBy.refl _ _⟩
  | v :: r, o, w, xs, h, hl => by
    have hx : xs.length = n := by have := h.1; omega
    have hs := h.stored o v
    have ih := own_setCells r (o + 1) _ _ hs.1 (by simp at hl; omega)
    refine ⟨?_, hs.2.trans ih.2⟩
    have e : xs.take o ++ (v :: r ++ xs.drop (o + (v :: r).length)) = (xs.set o v).take (o + 1) ++ (r ++ (xs.set o v).drop (o + 1 + r.length)) := by
      have ho : o < xs.length := by simp at hl; omega
      rw [List.take_succ_eq_append_getElem (by simpa using ho)]
      simp only [List.getElem_set_self, List.take_set_of_le (Nat.le_refl o), List.append_assoc, List.cons_append, List.nil_append, List.length_cons]
      rw [List.drop_set_of_lt (by omega)]
      congr 4
      omega
    rw [e]
    exact ih.1
/-- copy(dst, s) of a text that is no longer than the row, onto a row of the call's own -/
theorem run_copy_str {P : Program} {w : World} (dT sT ty elem : TypeId) (hu : P.underlying dT = some (.slice elem)) (hsz : ∀ w, (Go.sizeOf elem).run P w = .ok 1 w)
    (base g n cap : Nat) (t : List UInt8) (xs : List Value) (hown : w.ownsRow base elem 1 (.slice (some ⟨g, 0, none⟩) n cap) n xs) (hle : t.length ≤ n) :
    ∃ w', (Builtin.copy_ #[dT, sT] ty #[.slice (some ⟨g, 0, none⟩) n cap, .string (str t)]).run P w = .ok (goInt t.length) w' ∧ w'.ownsRow base elem 1 (.slice (some ⟨g, 0, none⟩) n cap) n (bys t ++ xs.drop t.length) ∧ w.grownBy w' (some g) := by
  have hx : xs.length = n := by have := hown.1; omega
  have hrun := run_copy_string (P := P) w dT sT ty elem g 0 n cap (str t) hu hsz (by rw [str_size]; exact hle) (fun j hj => by
    rw [str_size] at hj
    rw [Nat.zero_add, hown.cellAt j (by omega), List.getElem?_eq_getElem (by omega)]; rfl) (fun j hj => by rw [Nat.zero_add]; exact hown.frozenAt j)
  have hst := own_setCells (bys t) 0 w xs hown (by simpa using hle)
  have hm : ((str t).data.toList.map fun x => Value.int .u8 (x.toNat : Int)) = bys t := by simp [str, bys]
  rw [hm, str_size] at hrun
  exact ⟨_, hrun, by simpa using hst.1, hst.2⟩
/-- a part of a row of bytes -/
theorem seen_part {E : TypeId} {w : World} {lo hi g n cap a z : Nat} {l : List UInt8} (h : OwnBytes E w lo hi (.slice (some ⟨g, 0, none⟩) n cap) l) (hl : l.length = n) (hc : cap ≤ maxLen) (hnc : n ≤ cap) (ha : a + z ≤ n) :
    Seen w (.slice (some ⟨g, a, none⟩) z (cap - a)) (bys ((l.drop a).take z)) := by
  have hlen : ((l.drop a).take z).length = z := by rw [List.length_take, List.length_drop]; omega
  refine ⟨_, cap - a, by rw [bys_length, hlen], by rw [bys_length, hlen]; omega, by omega, fun _ => ⟨g, a, rfl, (h.1.lt g rfl).2, fun i u hu => ?_⟩⟩
  have hi : i < ((l.drop a).take z).length := by have := (List.getElem?_eq_some_iff.1 hu).1; simpa using this
  rw [bys_get _ i hi] at hu
  rw [hlen] at hi
  have hc' := h.1.cells (g := g) rfl (a + i) _ (bys_get l (a + i) (by omega))
  rw [Addr.add_lit, Nat.zero_add] at hc'
  rw [hc', ← hu]
  simp
theorem seen_part0 {w : World} {A : Option Addr} {c : Nat} (hc : c ≤ maxLen) (l : List UInt8) (hl : l = []) : Seen w (.slice A 0 c) (bys l) := by
  subst hl
  exact ⟨A, c, rfl, Nat.zero_le _, hc, fun h => by simp at h⟩
end G294
namespace Go.Proofs.YtipmfebnjmobfaaDoor
open Go.RowKit G294

theorem sizeByte (w : World) : (Go.sizeOf 5).run Tryd.prog w = .ok 1 w := by
  obtain ⟨i0, hi0, hz0, hz1, hz2⟩ := info_parts infoByte
  simp [Go.sizeOf, typeInfo, hi0, hz1]

set_option maxRecDepth 100000 in
set_option maxHeartbeats 2000000 in
theorem splitText_yes (s : List UInt8) (k : Nat) (w : World) (h1 : 1 ≤ k) (h8 : k ≤ 8) (hs : s.length ≤ k * 40) : Calls Tryd.prog 29 #[.string (str s), .int .i64 k] w (RetStrsOk 9 w (splitL s k) true) := by
  obtain ⟨i0, hi0, hz0, hz1, hz2⟩ := info_parts infoByte
  obtain ⟨i1, hi1, hy0, hy1, hy2⟩ := info_parts infoStr
  have hps := partSize_le s.length k h1 hs
  have hpm := partSize_mul s.length k h1
  have HL := Lib.hid (padded_length s k h1)
  have hsz := str_size s
  have HD : Hid (dataOk k = true) := by show dataOk k = true; simp [dataOk]; omega
  have hkz : (k : Int) ≠ 0 := by omega
  have hdiv : ((s.length : Int) + (k : Int) - 1) / (k : Int) = ((partSize s.length k : Nat) : Int) := by
    unfold partSize
    have : ((s.length + k - 1 : Nat) : Int) = (s.length : Int) + (k : Int) - 1 := by omega
    rw [Int.natCast_ediv, this]
  obtain ⟨z, hz⟩ : ∃ z, z = partSize s.length k := ⟨_, rfl⟩
  rw [← hz] at hps hpm hdiv
  have HZ := Lib.hid hz
  clear hz
  obtain ⟨n, hn⟩ : ∃ n, n = s.length := ⟨_, rfl⟩
  rw [← hn] at hs hpm hsz hdiv
  have HN := Lib.hid hn
  clear hn
  obtain ⟨kz, hkz'⟩ : ∃ kz, kz = k * z := ⟨_, rfl⟩
  have hkb : kz ≤ 320 := by rw [hkz']; exact Nat.mul_le_mul h8 hps
  have hkm : (k : Int) * (z : Int) = (kz : Int) := by rw [hkz']; exact (Int.natCast_mul k z).symm
  rw [← hkz'] at hpm
  have HKZ := Lib.hid hkz'
  clear hkz'
  have hno : ¬ (k : Int) * 40 < (n : Int) := by omega
  have hdc : decide ((k : Int) * 40 < (n : Int)) = false := by simpa using hno
  have hpl : (padded s k).length = kz := by rw [HL.out, ← HZ.out, HKZ.out]
  have hpb : bys (padded s k) = bys s ++ List.replicate (kz - n) (.int .u8 0) := by
    rw [padded, ← HZ.out, ← HN.out, ← HKZ.out, bys_append]
    congr 1
    simp [bys, List.map_replicate]
  have HPL := Lib.hid hpl
  have HPB := Lib.hid hpb
  clear hpl hpb
  go_enter Tryd.func29, Tryd.ntmps29
  go_wp2_with fail
  refine (goodDataCount_any _ _).mono ?_
  rintro e w' ⟨rfl, rfl⟩
  rw [HD.out]
  go_wp2_with (at_make; refine wpList_make_full _ rfl _ _ _ rfl w.heap.size _ i0 _ 1 Tryd.underlying42 hi0 hz0 hz1 _ _ _ _ kz rfl rfl rfl rfl ?b2 ?b3 ?b4 ?_)
  case b2 => rw [hz2]; omega
  case b3 => unfold maxLen; omega
  case b4 => exact Nat.le_refl _
  intro w1 hown1 hg1
  have hb1 : Below w.heap.size w w1 := below_of_grown hg1 (Nat.le_refl _) (by simp)
  rw [toList_madeCells_one] at hown1
  obtain ⟨w2, hrun, hown2, hg2⟩ := run_copy_str (P := Tryd.prog) 42 9 3 5 Tryd.underlying42 sizeByte w.heap.size w.heap.size kz kz s _ hown1 (by rw [← HN.out]; exact hpm)
  have hb2 : Below w.heap.size w w2 := hb1.grown hg2 hb1.size (fun g e => by cases e; exact Nat.le_refl _)
  have hsz2 : w.heap.size < w2.heap.size := (hown2.lt w.heap.size rfl).2
  have hP : OwnBytes 5 w2 w.heap.size w2.heap.size (.slice (some ⟨w.heap.size, 0, none⟩) kz kz) (padded s k) := by
    refine ⟨?_, Nat.le_refl _, fun g e => by simp [Value.ownBlock] at e; omega⟩
    rw [HPL.out, HPB.out]
    rw [List.drop_replicate, ← HN.out] at hown2
    exact hown2
  clear hown1 hg1 hg2 hown2 hb1
  go_wp2_with (at_make; refine wpList_make_full _ rfl _ _ _ rfl w2.heap.size _ i1 _ 1 Tryd.underlying24 hi1 hy0 hy1 _ _ _ _ k rfl rfl rfl rfl ?d2 ?d3 ?d4 ?_)
  case d2 => rw [hy2]; omega
  case d3 => unfold maxLen; omega
  case d4 => exact Nat.le_refl _
  intro w3 hown3 hg3
  rw [toList_madeCells_one] at hown3
  have k3 : TurnIn 0 0 w2 w3 := TurnIn.of_grown hg3 (by simp)
  have hb3 : Below w.heap.size w w3 := k3.base hb2 (by omega) (by omega)
  replace hP := hP.keep k3 (by omega)
  have hs3 := k3.size
  obtain ⟨B, hB⟩ : ∃ B, B = w2.heap.size := ⟨_, rfl⟩
  rw [← hB] at hP hown3 ⊢
  rw [← hB] at hsz2 hs3
  clear hg3 hb2 k3 hB
  go_wp2_with fail
  go_loopw [9, 38] (fun _ i wr => ∃ m : Nat, m ≤ k ∧ i = .int .i64 m ∧ wr.ownsRow B 9 1 (.slice (some ⟨B, 0, none⟩) k k) k ((strs (splitL s k)).take m ++ List.replicate (k - m) (.string ⟨#[]⟩)) ∧ OwnBytes 5 wr w.heap.size B (.slice (some ⟨w.heap.size, 0, none⟩) kz kz) (padded s k) ∧ Below w.heap.size w wr)
    (fun _ i _ => k - (intOf i).toNat)
  case atStart => exact ⟨0, Nat.zero_le _, rfl, by simpa using hown3, hP, hb3⟩
  case round =>
    obtain ⟨m, hm, rfl, hown, hPw, hb⟩ := hrel
    clear hown3 hP hb3
    by_cases hlt : m < k
    · have hki : (m : Int) < (k : Int) := by omega
      have hmz1 : (m + 1) * z ≤ k * z := Nat.mul_le_mul_right _ hlt
      obtain ⟨mz, hmz⟩ : ∃ mz, mz = m * z := ⟨_, rfl⟩
      have hm1 : (m + 1) * z = mz + z := by rw [Nat.add_mul, hmz]; omega
      have q1 : (m : Int) * (z : Int) = (mz : Int) := by rw [hmz]; exact (Int.natCast_mul m z).symm
      have q2 : ((m : Int) + 1) * (z : Int) = (mz : Int) + (z : Int) := by rw [Int.add_mul, q1]; omega
      have hle : mz + z ≤ kz := by rw [hm1, ← HKZ.out] at hmz1; exact hmz1
      have HMZ := Lib.hid hmz
      clear hmz hm1 hmz1
      have hsp : splitP s k m = ((padded s k).drop mz).take z := by rw [splitP, ← HZ.out, HMZ.out]
      have hms : m < (splitL s k).length := by simpa using hlt
      have hco : wr.cell? ⟨B, m, none⟩ = some (.string ⟨#[]⟩) := by
        have ht : ((strs (splitL s k)).take m).length = m := by simp; omega
        rw [hown.cellAt m (by omega), List.getElem?_append_right (by omega), ht, Nat.sub_self, List.getElem?_replicate, if_pos (by omega)]
      have hfr := hown.frozenAt m
      have hst := hown.stored m (.string (str (splitP s k m)))
      rw [take_set_next (strs (splitL s k)) _ m _ (by rw [strs_get _ m hms]; simp [splitL]) (by simp; omega)] at hst
      have hPs : OwnBytes 5 (wr.setCell ⟨B, m, none⟩ (.string (str (splitP s k m)))) w.heap.size B (.slice (some ⟨w.heap.size, 0, none⟩) kz kz) (padded s k) := hPw.other hst.2 (fun g e => by simp [Value.ownBlock] at e ⊢; omega)
      have hbs : Below w.heap.size w (wr.setCell ⟨B, m, none⟩ (.string (str (splitP s k m)))) := hb.setCell (Nat.le_of_lt hsz2) _
      by_cases hkm2 : kz = mz
      · have hz0' : z = 0 := by omega
        have hconv := run_string_seen (P := Tryd.prog) 42 5 9 Tryd.underlying42 Tryd.underlying5 Tryd.underlying9 (seen_part0 (w := wr) (A := some ⟨w.heap.size, 0, none⟩) (c := 0) (by unfold maxLen; omega) (splitP s k m) (by rw [hsp, hz0']; simp))
        have hm0 : mz = 0 := by rw [HMZ.out, hz0']; simp
        clear hsp
        subst hz0'
        subst hm0
        subst hkm2
        go_wp2_with fail
        go_roundw
        case rel => exact ⟨m + 1, by omega, by go_num, by simpa [Nat.sub_sub] using hst.1, hPs, hbs⟩
        case measure => simp [intOf]; omega
      · have hconv := run_string_seen (P := Tryd.prog) 42 5 9 Tryd.underlying42 Tryd.underlying5 Tryd.underlying9 (seen_part hPw HPL.out (by unfold maxLen; omega) (Nat.le_refl _) hle)
        rw [← hsp] at hconv
        clear hsp
        go_wp2_with fail
        go_roundw
        case rel => exact ⟨m + 1, by omega, by go_num, by simpa [Nat.sub_sub] using hst.1, hPs, hbs⟩
        case measure => simp [intOf]; omega
    · obtain rfl : m = k := by omega
      have hki : ¬ (m : Int) < (m : Int) := by omega
      go_wp2_with fail
      go_ret2
      refine ⟨_, rfl, ?_, TurnIn.of_below hb⟩
      rw [List.take_of_length_le (by simp), Nat.sub_self] at hown
      exact ⟨by have h := own_base hown (Nat.le_of_lt hsz2); simpa using h, Nat.le_refl _, fun g e => (hown.lt g e).2⟩

set_option maxRecDepth 100000 in
set_option maxHeartbeats 2000000 in
theorem splitText_own (s : List UInt8) (k : Int) (w : World) (hn : s.length ≤ 1048576) : Calls Tryd.prog 29 #[.string (str s), .int .i64 k] w (RetStrsOk 9 w (splitR s k) (splitOk s k)) := by
  have hsz := str_size s
  by_cases h : dataOk k = true
  · have HI : Hid (dataOk k = true) := h
    have hb : 1 ≤ k ∧ k ≤ 8 := by simpa [dataOk] using h
    obtain ⟨m, rfl⟩ := Int.eq_ofNat_of_zero_le (show 0 ≤ k by omega)
    by_cases h2 : s.length ≤ m * 40
    · have HO : splitOk s m = true := by simp only [splitOk, h, Bool.true_and, decide_eq_true_eq]; omega
      have HR : splitR s m = splitL s m := by unfold splitR; rw [if_pos HO]; simp
      rw [HO, HR]
      exact splitText_yes s m w (by omega) (by omega) h2
    · have HO : Hid (splitOk s m = false) := by show splitOk s m = false; simp only [splitOk, h, Bool.true_and, decide_eq_false_iff_not]; omega
      have HR : Hid (splitR s m = []) := by show splitR s m = _; unfold splitR; rw [if_neg (by rw [HO.out]; simp)]
      have hno : (m : Int) * 40 < (s.length : Int) := by omega
      have hdc : decide ((m : Int) * 40 < (s.length : Int)) = true := by simpa using hno
      clear h h2
      go_enter Tryd.func29, Tryd.ntmps29
      go_wp2_with fail
      refine (goodDataCount_any _ _).mono ?_
      rintro e w' ⟨rfl, rfl⟩
      rw [HI.out]
      go_wp2_with fail
      go_ret2
      exact ⟨.slice none 0 0, by rw [HO.out]; rfl, by rw [HR.out]; exact OwnStrs.nil _ _ _, TurnIn.refl _⟩
  · have HI : Hid (dataOk k = false) := by show dataOk k = false; simpa using h
    have HO : Hid (splitOk s k = false) := by show splitOk s k = false; simp [splitOk, h]
    have HR : Hid (splitR s k = []) := by show splitR s k = _; unfold splitR; rw [if_neg (by rw [HO.out]; simp)]
    clear h
    go_enter Tryd.func29, Tryd.ntmps29
    go_wp2_with fail
    refine (goodDataCount_any _ _).mono ?_
    rintro e w' ⟨rfl, rfl⟩
    rw [HI.out]
    go_wp2_with fail
    go_ret2
    exact ⟨.slice none 0 0, by rw [HO.out]; rfl, by rw [HR.out]; exact OwnStrs.nil _ _ _, TurnIn.refl _⟩

end Go.Proofs.YtipmfebnjmobfaaDoor

/- equallyLong, l3Texts; JoinShards: the model's and the program's. -/
namespace Go.Proofs.YtipmfebnjmobfaaDoor
open Go.RowKit G294

set_option maxRecDepth 100000 in
set_option maxHeartbeats 2000000 in
theorem equallyLong_any (v : Value) (L : List (List UInt8)) (w : World) (hv : Seen w v (strs L)) : Calls Tryd.prog 79 #[v] w fun e w' => e = .returned (.bool (textsOk L)) ∧ w = w' := by
  obtain ⟨A, c, rfl, hlc, hcm, hx⟩ := hv
  rw [strs_length] at hlc hx
  simp only [strs_length]
  unfold maxLen at hcm
  generalize hnn : L.length = n at *
  have HN := Lib.hid hnn
  clear hnn
  go_enter Tryd.func79, Tryd.ntmps79
  go_wp2_with fail
  go_loop [7] (fun i => ∃ k : Nat, k ≤ n ∧ i = .int .i64 k ∧ Hid (∀ i (h : i < L.length), i < k → L[i].length = (L.getD 0 []).length ∧ L[i].length ≤ 40)) (fun i => n - (intOf i).toNat)
  case atStart => exact ⟨0, Nat.zero_le _, rfl, fun i h h' => by omega⟩
  case round =>
    obtain ⟨k, hk, rfl, HE⟩ := hrel
    by_cases hlt : k < n
    · have hki : (k : Int) < (n : Int) := by omega
      have hkl : k < L.length := by rw [HN.out]; exact hlt
      obtain ⟨b, off, rfl, hbl, hcell⟩ := hx (by omega)
      have hcx := hcell k _ (strs_get L k hkl)
      have hc0 := hcell 0 _ (strs_get L 0 (by omega))
      rw [Nat.add_zero] at hc0
      have hsk := str_size L[k]
      have hs0 := str_size (L[0]'(by omega))
      have HG : Hid (L.getD 0 [] = L[0]'(by omega)) := by show _ = _; simp [List.getD, show 0 < L.length by omega]
      clear hcell hx
      by_cases h40 : L[k].length ≤ 40
      · by_cases heq : L[k].length = (L[0]'(by omega)).length
        · have HK : Hid (∀ i (h : i < L.length), i < k + 1 → L[i].length = (L.getD 0 []).length ∧ L[i].length ≤ 40) := fun i h h' => by
            rcases Nat.lt_or_ge i k with h2 | h2
            · exact HE.out i h h2
            · obtain rfl : i = k := by omega
              rw [HG.out]; exact ⟨heq, h40⟩
          generalize hnk : L[k].length = nk at *
          generalize hn0 : (L[0]'(by omega)).length = n0 at *
          subst heq
          have t1 : decide ((40 : Int) < (nk : Int)) = false := by simp; omega
          have t2 : ((nk : Int) != (nk : Int)) = false := by simp
          go_wp2_with fail
          go_round
          case rel => exact ⟨k + 1, by omega, by go_num, HK⟩
          case measure => simp [intOf]; omega
        · have HF : Hid (textsOk L = false) := textsOk_false hkl (by rw [HG.out]; omega)
          generalize hnk : L[k].length = nk at *
          generalize hn0 : (L[0]'(by omega)).length = n0 at *
          have t1 : decide ((40 : Int) < (nk : Int)) = false := by simp; omega
          have t2 : ((nk : Int) != (n0 : Int)) = true := by simp; omega
          go_wp2_with fail
          go_ret
          exact ⟨by rw [HF.out]; rfl, rfl⟩
      · have HF : Hid (textsOk L = false) := textsOk_false hkl (by omega)
        generalize hnk : L[k].length = nk at *
        have t1 : decide ((40 : Int) < (nk : Int)) = true := by simp; omega
        go_wp2_with fail
        go_ret
        exact ⟨by rw [HF.out]; rfl, rfl⟩
    · obtain rfl : k = n := by omega
      have hki : ¬ (k : Int) < (k : Int) := by omega
      have HF : Hid (textsOk L = true) := (textsOk_iff L).2 fun i h => HE.out i h (by rw [HN.out] at h; exact h)
      go_wp2_with fail
      go_ret
      exact ⟨by rw [HF.out]; rfl, rfl⟩

set_option maxRecDepth 100000 in
set_option maxHeartbeats 2000000 in
theorem l3Texts_any (v : Value) (L : List (List UInt8)) (w : World) (hv : Seen w v (strs L)) : Calls Tryd.prog 83 #[v] w fun e w' => e = .returned (.bool (textsOk L)) ∧ w = w' := by
  obtain ⟨A, c, rfl, hlc, hcm, hx⟩ := hv
  rw [strs_length] at hlc hx
  simp only [strs_length]
  unfold maxLen at hcm
  generalize hnn : L.length = n at *
  have HN := Lib.hid hnn
  clear hnn
  go_enter Tryd.func83, Tryd.ntmps83
  go_wp2_with fail
  go_loop [7] (fun i => ∃ k : Nat, k ≤ n ∧ i = .int .i64 k ∧ Hid (∀ i (h : i < L.length), i < k → L[i].length = (L.getD 0 []).length ∧ L[i].length ≤ 40)) (fun i => n - (intOf i).toNat)
  case atStart => exact ⟨0, Nat.zero_le _, rfl, fun i h h' => by omega⟩
  case round =>
    obtain ⟨k, hk, rfl, HE⟩ := hrel
    by_cases hlt : k < n
    · have hki : (k : Int) < (n : Int) := by omega
      have hkl : k < L.length := by rw [HN.out]; exact hlt
      obtain ⟨b, off, rfl, hbl, hcell⟩ := hx (by omega)
      have hcx := hcell k _ (strs_get L k hkl)
      have hc0 := hcell 0 _ (strs_get L 0 (by omega))
      rw [Nat.add_zero] at hc0
      have hsk := str_size L[k]
      have hs0 := str_size (L[0]'(by omega))
      have HG : Hid (L.getD 0 [] = L[0]'(by omega)) := by show _ = _; simp [List.getD, show 0 < L.length by omega]
      clear hcell hx
      by_cases heq : L[k].length = (L[0]'(by omega)).length
      · by_cases h40 : L[k].length ≤ 40
        · have HK : Hid (∀ i (h : i < L.length), i < k + 1 → L[i].length = (L.getD 0 []).length ∧ L[i].length ≤ 40) := fun i h h' => by
            rcases Nat.lt_or_ge i k with h2 | h2
            · exact HE.out i h h2
            · obtain rfl : i = k := by omega
              rw [HG.out]; exact ⟨heq, h40⟩
          generalize hnk : L[k].length = nk at *
          generalize hn0 : (L[0]'(by omega)).length = n0 at *
          subst heq
          have t1 : decide ((40 : Int) < (nk : Int)) = false := by simp; omega
          have t2 : ((nk : Int) != (nk : Int)) = false := by simp
          go_wp2_with fail
          go_round
          case rel => exact ⟨k + 1, by omega, by go_num, HK⟩
          case measure => simp [intOf]; omega
        · have HF : Hid (textsOk L = false) := textsOk_false hkl (by omega)
          generalize hnk : L[k].length = nk at *
          generalize hn0 : (L[0]'(by omega)).length = n0 at *
          subst heq
          have t1 : decide ((40 : Int) < (nk : Int)) = true := by simp; omega
          have t2 : ((nk : Int) != (nk : Int)) = false := by simp
          go_wp2_with fail
          go_ret
          exact ⟨by rw [HF.out]; rfl, rfl⟩
      · have HF : Hid (textsOk L = false) := textsOk_false hkl (by rw [HG.out]; omega)
        generalize hnk : L[k].length = nk at *
        generalize hn0 : (L[0]'(by omega)).length = n0 at *
        have t2 : ((nk : Int) != (n0 : Int)) = true := by simp; omega
        go_wp2_with fail
        go_ret
        exact ⟨by rw [HF.out]; rfl, rfl⟩
    · obtain rfl : k = n := by omega
      have hki : ¬ (k : Int) < (k : Int) := by omega
      have HF : Hid (textsOk L = true) := (textsOk_iff L).2 fun i h => HE.out i h (by rw [HN.out] at h; exact h)
      go_wp2_with fail
      go_ret
      exact ⟨by rw [HF.out]; rfl, rfl⟩

end Go.Proofs.YtipmfebnjmobfaaDoor

/- Contracts of the laws' helpers on []int: a copy, equality, marks, marks held. -/
namespace Go.Proofs.YtipmfebnjmobfaaDoor
open Go.RowKit G294

theorem infoInt : (Tryd.prog.info? 3).map (fun i => (i.zero, i.size, i.bytes)) = some (some (.int .i64 0), 1, 8) := by kernel_rfl

theorem eq_atI {l m : List Int} {k : Nat} (hl : k < l.length) (hm : k < m.length) (h : l[k] ≠ m[k]) : (l == m) = false := by
  rw [beq_eq_false_iff_ne]
  intro e; subst e; exact h rfl

theorem eq_allI {l m : List Int} (hl : l.length = m.length) (h : ∀ i (h1 : i < l.length) (h2 : i < m.length), l[i] = m[i]) : (l == m) = true := by
  rw [beq_iff_eq]; exact List.ext_getElem hl h

set_option maxHeartbeats 400000 in
theorem toIntS_any (v : Value) (l : List Int) (w : World) (hv : Seen w v (ints l)) (hn : l.length ≤ 1048576) :
    Calls Tryd.prog 56 #[v] w (Made w 3 (ints l)) := by
  obtain ⟨i0, hi0, hz0, hz1, hz2⟩ := info_parts infoInt
  obtain ⟨A, c, rfl, hlc, hcm, hx⟩ := hv
  rw [ints_length] at hlc hx
  simp only [ints_length]
  unfold maxLen at hcm
  generalize hnn : l.length = n at *
  have HN := Lib.hid hnn
  clear hnn
  go_enter Tryd.func56, Tryd.ntmps56
  go_wp2_with (at_make; refine wpList_make_full _ rfl _ _ _ rfl w.heap.size _ i0 _ 1 Tryd.underlying56 hi0 hz0 hz1 _ _ _ _ n rfl rfl rfl rfl ?b2 ?b3 ?b4 ?_)
  case b2 => rw [hz2]; omega
  case b3 => unfold maxLen; omega
  case b4 => exact Nat.le_refl _
  intro w1 hown1 hg1
  have hb1 : Below w.heap.size w w1 := below_of_grown hg1 (Nat.le_refl _) (by simp)
  rw [toList_madeCells_one] at hown1
  clear hg1
  go_wp2_with fail
  go_loopw [4] (fun i wr => ∃ k : Nat, k ≤ n ∧ i = .int .i64 k ∧ wr.ownsRow w.heap.size 3 1 (.slice (some ⟨w.heap.size, 0, none⟩) n n) n ((ints l).take k ++ List.replicate (n - k) (.int .i64 0)) ∧ Below w.heap.size w wr)
    (fun i _ => n - (intOf i).toNat)
  case atStart => exact ⟨0, Nat.zero_le _, rfl, by simpa using hown1, hb1⟩
  case round =>
    obtain ⟨k, hk, rfl, hown, hb⟩ := hrel
    clear hown1 hb1
    by_cases hlt : k < n
    · obtain ⟨b, off, rfl, hbl, hcell⟩ := hx (by omega)
      have hkl : k < l.length := by rw [HN.out]; exact hlt
      have hcx : wr.cell? ⟨b, off + k, none⟩ = some (.int .i64 (l[k])) := (hb.cell (p := ⟨b, off + k, none⟩) hbl).trans (hcell k _ (ints_get l k hkl))
      have hco : wr.cell? ⟨w.heap.size, k, none⟩ = some (.int .i64 0) := by
        have ht : ((ints l).take k).length = k := by simp; omega
        rw [hown.cellAt k (by omega), List.getElem?_append_right (by omega), ht, Nat.sub_self, List.getElem?_replicate, if_pos (by omega)]
      have hfr := hown.frozenAt k
      have hst := hown.stored k (.int .i64 (l[k]))
      rw [take_set_next (ints l) _ k _ (ints_get l k hkl) (by simp [HN.out]; omega)] at hst
      clear hcell hx
      go_wp2_with fail
      go_roundw
      case rel => exact ⟨k + 1, by omega, by go_num, by simpa [Nat.sub_sub] using hst.1, hb.setCell (Nat.le_refl _) _⟩
      case measure => simp [intOf]; omega
    · obtain rfl : k = n := by omega
      go_wp2_with fail
      go_ret
      refine ⟨_, rfl, ?_, hb⟩
      rw [List.take_of_length_le (by simp [HN.out]), Nat.sub_self] at hown
      simpa [HN.out] using hown

set_option maxHeartbeats 400000 in
theorem eqIntS_any (v u : Value) (l m : List Int) (w : World) (hv : Seen w v (ints l)) (hu : Seen w u (ints m)) :
    Calls Tryd.prog 58 #[v, u] w (Tells w (l == m)) := by
  obtain ⟨A, c, rfl, hlc, hcm, hx⟩ := hv
  obtain ⟨A', c', rfl, hlc', hcm', hx'⟩ := hu
  rw [ints_length] at hlc hx hlc' hx'
  simp only [ints_length]
  unfold maxLen at hcm hcm'
  by_cases hlen : l.length = m.length
  · generalize hnn : l.length = n at *
    generalize hmm : m.length = n' at *
    obtain rfl : n = n' := by omega
    have HN := Lib.hid hnn
    have HM := Lib.hid hmm
    clear hnn hmm
    have hbn : ((n : Int) != (n : Int)) = false := by simp
    go_enter Tryd.func58, Tryd.ntmps58
    go_wp2_with fail
    go_loopw [5] (fun i wr => ∃ k : Nat, k ≤ n ∧ i = .int .i64 k ∧ Hid (∀ i (h1 : i < l.length) (h2 : i < m.length), i < k → l[i] = m[i]) ∧ Below w.heap.size w wr)
      (fun i _ => n - (intOf i).toNat)
    case atStart => exact ⟨0, Nat.zero_le _, rfl, (fun _ _ _ h => by omega), Below.refl _ _⟩
    case round =>
      obtain ⟨k, hk, rfl, HE, hb⟩ := hrel
      by_cases hlt : k < n
      · obtain ⟨b, off, rfl, hbl, hcell⟩ := hx (by omega)
        obtain ⟨b', off', rfl, hbl', hcell'⟩ := hx' (by omega)
        have hkl : k < l.length := by rw [HN.out]; exact hlt
        have hkm : k < m.length := by rw [HM.out]; exact hlt
        have hcx : wr.cell? ⟨b, off + k, none⟩ = some (.int .i64 (l[k])) := (hb.cell (p := ⟨b, off + k, none⟩) hbl).trans (hcell k _ (ints_get l k hkl))
        have hcy : wr.cell? ⟨b', off' + k, none⟩ = some (.int .i64 (m[k])) := (hb.cell (p := ⟨b', off' + k, none⟩) hbl').trans (hcell' k _ (ints_get m k hkm))
        clear hcell hcell' hx hx'
        have hki : (k : Int) < (n : Int) := by omega
        by_cases hne : l[k] = m[k]
        · have hbb : (l[k] != m[k]) = false := by simp [hne]
          have HK : Hid (∀ i (h1 : i < l.length) (h2 : i < m.length), i < k + 1 → l[i] = m[i]) := fun i h1 h2 h => by
            rcases Nat.lt_or_ge i k with h' | h'
            · exact HE.out i h1 h2 h'
            · obtain rfl : i = k := by omega
              exact hne
          clear hne
          go_wp2_with fail
          go_quiet (fail)
          go_wp2_with fail
          go_roundw
          case rel => exact ⟨k + 1, by omega, by go_num, HK, below_drewN hb _⟩
          case measure => simp [intOf]; omega
        · have hbb : (l[k] != m[k]) = true := by simpa using hne
          have HF := Lib.hid (eq_atI hkl hkm hne)
          clear hne
          go_wp2_with fail
          go_quiet (fail)
          go_wp2_with fail
          go_ret
          exact ⟨by rw [HF.out]; rfl, below_drewN hb _⟩
      · obtain rfl : k = n := by omega
        have HF := Lib.hid (eq_allI (l := l) (m := m) (by rw [HN.out, HM.out]) (fun i h1 h2 => HE.out i h1 h2 (by rw [HN.out] at h1; exact h1)))
        go_wp2_with fail
        go_ret
        exact ⟨by rw [HF.out]; rfl, hb⟩
  · have hbn : ((l.length : Int) != (m.length : Int)) = true := by simp; omega
    have HF : Hid ((l == m) = false) := by
      show (l == m) = false
      rw [beq_eq_false_iff_ne]; intro e; exact hlen (by rw [e])
    clear hlen
    generalize l.length = n at *
    generalize m.length = n' at *
    go_enter Tryd.func58, Tryd.ntmps58
    go_wp2_with fail
    go_ret
    exact ⟨by rw [HF.out]; rfl, Below.refl _ _⟩

theorem toIntS_own (v : Value) (l : List Int) (w : World) (hv : Seen w v (ints l)) (hn : l.length ≤ 1048576) : Calls Tryd.prog 56 #[v] w (RetInts 3 w l) :=
  (toIntS_any v l w hv hn).mono fun e w' ⟨v', he, ho, hb⟩ => ⟨v', he, OwnInts.of_made (by simpa using ho), TurnIn.of_below hb⟩

theorem eqIntS_same (v u : Value) (l : List Int) (w : World) (hv : Seen w v (ints l)) (hu : Seen w u (ints l)) : Calls Tryd.prog 58 #[v, u] w (RetBool w true) := by
  have := eqIntS_any v u l l w hv hu
  rw [beq_self_eq_true] at this
  exact this.mono fun e w' ⟨he, hb⟩ => ⟨he, TurnIn.of_below hb⟩

end Go.Proofs.YtipmfebnjmobfaaDoor

/- Valid shards: the program's goodShards, the model's l3Shards; the model's l3All. -/
namespace G294
open Go Go.RowKit
/-- the number of the last of the first k -/
def lastNo (l : List Sh) : Nat → Int
  | 0 => -1
  | k + 1 => (l.getD k (0, [])).1
/-- the numbers rise strictly from 0 on and stay below n -/
def risesN (n : Int) (l : List Sh) : Bool := (List.range l.length).all fun i => decide (lastNo l i < (l.getD i (0, [])).1 ∧ (l.getD i (0, [])).1 < n)
def shardsOk (l : List Sh) (n : Int) : Bool := risesN n l && textsOk (l.map (·.2))
theorem rises_at (n : Int) (l : List Sh) : risesN n l = true ↔ ∀ (i : Nat) (s : Sh), l[i]? = some s → lastNo l i < s.1 ∧ s.1 < n := by
  unfold risesN
  rw [List.all_eq_true]
  constructor
  · intro h i s hi
    have hl := (List.getElem?_eq_some_iff.1 hi).1
    have h3 := h i (List.mem_range.2 hl)
    rw [decide_eq_true_eq] at h3
    have e : l.getD i (0, []) = s := by simp [List.getD, hi]
    rw [e] at h3
    exact h3
  · intro h i hi
    have hl := List.mem_range.1 hi
    have e : l.getD i (0, []) = l[i] := by simp [List.getD, hl]
    rw [decide_eq_true_eq, e]
    exact h i l[i] (List.getElem?_eq_getElem hl)
theorem rises_false {n : Int} {l : List Sh} {i : Nat} {s : Sh} (hi : l[i]? = some s) (h : ¬ (lastNo l i < s.1 ∧ s.1 < n)) : risesN n l = false := by
  rw [Bool.eq_false_iff]
  intro ht
  exact h ((rises_at n l).1 ht i s hi)
theorem lastNo_succ {l : List Sh} {k : Nat} {s : Sh} (h : l[k]? = some s) : lastNo l (k + 1) = s.1 := by simp [lastNo, List.getD, h]
theorem all_ints (n : Nat) : (List.range (n + 1)).map (fun i : Nat => (i : Int)) = (List.range n).map (fun i : Nat => (i : Int)) ++ [(n : Int)] := by simp [List.range_succ]
end G294
namespace Go.Proofs.YtipmfebnjmobfaaDoor
open Go.RowKit G294

set_option maxRecDepth 100000 in
set_option maxHeartbeats 2000000 in
theorem goodShards_any (v : Value) (l : List Sh) (m : Int) (w : World) (hv : SeenH w v l) (hn : l.length ≤ 1048576) : Calls Tryd.prog 64 #[v, .int .i64 m] w (RetBool w (shardsOk l m)) := by
  have HV := Lib.hid hv
  obtain ⟨A, c, rfl, hlc, hcm, hx⟩ := hv
  unfold maxLen at hcm
  generalize hnn : l.length = n at *
  have HN := Lib.hid hnn
  clear hnn
  go_enter Tryd.func64, Tryd.ntmps64
  go_wp2_with fail
  go_loopw [5, 10] (fun q i wr => ∃ (k : Nat) (la : Int), k ≤ n ∧ i = .int .i64 k ∧ q = .int .i64 la ∧ Hid (la = lastNo l k) ∧ Hid (∀ j s, l[j]? = some s → j < k → lastNo l j < s.1 ∧ s.1 < m) ∧ Below w.heap.size w wr)
    (fun _ i _ => n - (intOf i).toNat)
  case atStart => exact ⟨0, -1, Nat.zero_le _, rfl, rfl, Eq.refl (-1 : Int), (fun j s hj h => by omega), Below.refl _ _⟩
  case round =>
    obtain ⟨k, la, hk, rfl, rfl, HLA, HE, hb⟩ := hrel
    by_cases hlt : k < n
    · obtain ⟨b, off, rfl, hbl, hcell⟩ := hx (by omega)
      obtain ⟨⟨no, s⟩, hks⟩ := at_lt HN.out hlt
      have hc1 := (hb.cell (p := ⟨b, off + k * 2, none⟩) hbl).trans (hcell k _ hks).1
      have hc2 := (hb.cell (p := ⟨b, off + k * 2 + 1, none⟩) hbl).trans (hcell k _ hks).2
      simp only at hc1 hc2
      have hki : (k : Int) < (n : Int) := by omega
      have hb2 := hb.alloc hb.size (.cells #[.int .i64 no, .string (str s)] 35)
      have HLN : Hid (no = lastNo l (k + 1)) := (lastNo_succ hks).symm
      clear hcell hx
      by_cases h1 : la < no
      · have t1 : decide (no ≤ la) = false := by simp; omega
        by_cases h2 : no < m
        · have t2 : decide (m ≤ no) = false := by simp; omega
          have HK : Hid (∀ j s, l[j]? = some s → j < k + 1 → lastNo l j < s.1 ∧ s.1 < m) := fun j s' hj h => by
            rcases Nat.lt_or_ge j k with h' | h'
            · exact HE.out j s' hj h'
            · obtain rfl : j = k := by omega
              obtain rfl : (no, s) = s' := Option.some.inj (hks.symm.trans hj)
              rw [← HLA.out]; exact ⟨h1, h2⟩
          clear hks
          go_wp2_with fail
          go_roundw
          case rel => exact ⟨k + 1, no, by omega, by go_num, rfl, HLN, HK, hb2⟩
          case measure => simp [intOf]; omega
        · have t2 : decide (m ≤ no) = true := by simp; omega
          have HF : Hid (shardsOk l m = false) := by show shardsOk l m = false; rw [shardsOk, rises_false hks (by simp only; omega)]; rfl
          clear hks
          go_wp2_with fail
          go_ret
          exact ⟨by rw [HF.out]; rfl, TurnIn.of_below hb2⟩
      · have t1 : decide (no ≤ la) = true := by simp; omega
        have HF : Hid (shardsOk l m = false) := by show shardsOk l m = false; rw [shardsOk, rises_false hks (by rw [← HLA.out]; simp only; omega)]; rfl
        clear hks
        go_wp2_with fail
        go_ret
        exact ⟨by rw [HF.out]; rfl, TurnIn.of_below hb2⟩
    · obtain rfl : k = n := by omega
      have hki : ¬ (k : Int) < (k : Int) := by omega
      have HR : Hid (shardsOk l m = textsOk (l.map (·.2))) := by
        show _ = _
        rw [shardsOk, (rises_at m l).2 (fun j s hj => HE.out j s hj (by have := (List.getElem?_eq_some_iff.1 hj).1; rw [HN.out] at this; exact this))]; rfl
      have hbs := hb.size
      go_wp2_with fail
      refine (textsOf_own _ l _ (HV.out.below hb) (by rw [HN.out]; exact hn)).mono ?_
      rintro e w2 ⟨v2, rfl, hO, k2⟩
      have HO := Lib.hid hO
      clear hO
      go_wp2_with fail
      refine (equallyLong_any _ _ _ HO.out.seen).mono ?_
      rintro e w' ⟨rfl, rfl⟩
      go_wp2_with fail
      go_ret
      exact ⟨by rw [HR.out]; rfl, TurnIn.of_below (k2.base hb (by omega) (by omega))⟩

set_option maxRecDepth 100000 in
set_option maxHeartbeats 1000000 in
theorem l3All_own (n : Nat) (w : World) (hn : n ≤ 1000) : Calls Tryd.prog 110 #[.int .i64 n] w (RetInts 3 w ((List.range n).map fun i : Nat => (i : Int))) := by
  go_enter Tryd.func110, Tryd.ntmps110
  go_wp2_with fail
  go_loopw [3, 4] (fun o i wr => ∃ k : Nat, k ≤ n ∧ i = .int .i64 k ∧ wr.ownsRow w.heap.size 3 1 o k (ints ((List.range k).map fun i : Nat => (i : Int))) ∧ Below w.heap.size w wr)
    (fun _ i _ => n - (intOf i).toNat)
  case atStart => exact ⟨0, Nat.zero_le _, rfl, World.ownsRow_nil _ _ _ _, Below.refl _ _⟩
  case round =>
    obtain ⟨k, hk, rfl, hown, hb⟩ := hrel
    by_cases hlt : k < n
    · have hki : (k : Int) < (n : Int) := by omega
      have hbs := hb.size
      go_wp2_with (at_builtin; refine wpList_append1 rfl _ _ _ rfl w.heap.size 3 _ _ Tryd.underlying56 infoInt rfl _ k _ rfl (hown.alloc _) wr.heap.size (.int .i64 k) rfl ?c1 rfl ?c2 ?c3 ?c4 ?_)
      case c1 => simp
      case c2 => omega
      case c3 => omega
      case c4 => simp; omega
      intro v' w' hown' hg' _
      have hb' : Below w.heap.size w w' := below_append (hb.alloc hb.size _) (hown.alloc _) hg' (Nat.le_refl _) (by simp; omega)
      have hown2 : w'.ownsRow w.heap.size 3 1 v' (k + 1) (ints ((List.range (k + 1)).map fun i : Nat => (i : Int))) := by
        rw [all_ints, ints_append]; exact hown'
      clear hown' hg'
      go_wp2_with fail
      go_roundw
      case rel => exact ⟨k + 1, by omega, by go_num, hown2, hb'⟩
      case measure => simp [intOf]; omega
    · obtain rfl : k = n := by omega
      have hki : ¬ (k : Int) < (k : Int) := by omega
      go_wp2_with fail
      go_ret
      exact ⟨_, rfl, OwnInts.of_made (by simpa using hown), TurnIn.of_below hb⟩

end Go.Proofs.YtipmfebnjmobfaaDoor

/- Valid shards: the model's l3Shards. -/
namespace G294
open Go Go.RowKit
/-- what is asked of shard i -/
def shAt (l : List Sh) (n : Int) (i : Nat) (s : Sh) : Prop := (lastNo l i < s.1 ∧ s.1 < n) ∧ s.2.length = (l.getD 0 (0, [])).2.length ∧ s.2.length ≤ 40
theorem shardsOk_iff (l : List Sh) (n : Int) : shardsOk l n = true ↔ ∀ (i : Nat) (s : Sh), l[i]? = some s → shAt l n i s := by
  unfold shardsOk shAt
  rw [Bool.and_eq_true, rises_at, textsOk_iff]
  have e0 : ((l.map (·.2)).getD 0 []).length = (l.getD 0 (0, [])).2.length := by cases l <;> simp
  rw [e0]
  constructor
  · rintro ⟨h1, h2⟩ i s hi
    obtain ⟨hl, rfl⟩ := List.getElem?_eq_some_iff.1 hi
    have := h2 i (by simpa using hl)
    exact ⟨h1 i _ hi, by simpa using this⟩
  · intro h
    refine ⟨fun i s hi => (h i s hi).1, fun i hi => ?_⟩
    have hl : i < l.length := by simpa using hi
    have := (h i l[i] (List.getElem?_eq_getElem hl)).2
    simpa using this
theorem shardsOk_false {l : List Sh} {n : Int} {i : Nat} {s : Sh} (hi : l[i]? = some s) (h : ¬ shAt l n i s) : shardsOk l n = false := by
  rw [Bool.eq_false_iff]
  intro ht
  exact h ((shardsOk_iff l n).1 ht i s hi)
end G294
namespace Go.Proofs.YtipmfebnjmobfaaDoor
open Go.RowKit G294

set_option maxRecDepth 100000 in
set_option maxHeartbeats 4000000 in
theorem l3Shards_any (v : Value) (l : List Sh) (m : Int) (w : World) (hv : SeenH w v l) (hm : 0 ≤ m ∧ m ≤ 1000) : Calls Tryd.prog 61 #[v, .int .i64 m] w (RetBool w (shardsOk l m)) := by
  obtain ⟨A, c, rfl, hlc, hcm, hx⟩ := hv
  unfold maxLen at hcm
  generalize hnn : l.length = n at *
  have HN := Lib.hid hnn
  clear hnn
  go_enter Tryd.func61, Tryd.ntmps61
  go_wp2_with fail
  go_loopw [9] (fun i wr => ∃ k : Nat, k ≤ n ∧ i = .int .i64 k ∧ Hid (-1 ≤ lastNo l k) ∧ Hid (∀ (j : Nat) (s : Sh), l[j]? = some s → j < k → shAt l m j s) ∧ Below w.heap.size w wr)
    (fun i _ => n - (intOf i).toNat)
  case atStart => exact ⟨0, Nat.zero_le _, rfl, by show -1 ≤ lastNo l 0; simp [lastNo], (fun j s hj h => by omega), Below.refl _ _⟩
  case round =>
    obtain ⟨k, hk, rfl, HLA, HE, hb⟩ := hrel
    by_cases hlt : k < n
    · obtain ⟨b, off, rfl, hbl, hcell⟩ := hx (by omega)
      obtain ⟨⟨no, s⟩, hks⟩ := at_lt HN.out hlt
      obtain ⟨⟨no0, s0⟩, hk0⟩ := at_lt (k := 0) HN.out (by omega)
      have hc1 := (hb.cell (p := ⟨b, off + k * 2, none⟩) hbl).trans (hcell k _ hks).1
      have hc2 := (hb.cell (p := ⟨b, off + k * 2 + 1, none⟩) hbl).trans (hcell k _ hks).2
      have hc0 := (hb.cell (p := ⟨b, off + 0 * 2 + 1, none⟩) hbl).trans (hcell 0 _ hk0).2
      simp only [Nat.zero_mul, Nat.add_zero] at hc1 hc2 hc0
      have hki : (k : Int) < (n : Int) := by omega
      have hbs := hb.size
      have k1 := turn_alloc wr (.cells #[.int .i64 no, .string (str s)] 35)
      have hb2 := hb.alloc hb.size (.cells #[.int .i64 no, .string (str s)] 35)
      have d0 := cell_turn k1 hc0 (by omega)
      have x1 : (wr.alloc (.cells #[.int .i64 no, .string (str s)] 35)).cell? ⟨wr.heap.size, 0, none⟩ = some (.int .i64 no) := by simp
      have x2 : (wr.alloc (.cells #[.int .i64 no, .string (str s)] 35)).cell? ⟨wr.heap.size, 1, none⟩ = some (.string (str s)) := by simp
      have hz := str_size s
      have hz0 := str_size s0
      have HG0 : Hid ((l.getD 0 (0, [])).2.length = s0.length) := by show _ = _; simp [List.getD, hk0]
      have HKS := Lib.hid hks
      have hpj : ∀ j, k = j + 1 → ∃ pn : Int, pn = lastNo l k ∧ (wr.alloc (.cells #[.int .i64 no, .string (str s)] 35)).cell? ⟨b, off + j * 2, none⟩ = some (.int .i64 pn) := fun j hj => by
        obtain ⟨⟨pn, ps⟩, hjs⟩ := at_lt (k := j) HN.out (by omega)
        exact ⟨pn, by rw [hj, lastNo_succ hjs], cell_turn k1 ((hb.cell (p := ⟨b, off + j * 2, none⟩) hbl).trans (hcell j _ hjs).1) (by omega)⟩
      have HPJ := Lib.hid hpj
      clear hcell hx hks hk0 hpj hc0 k1
      by_cases hA : 0 ≤ no ∧ no ≤ m - 1
      · have HI : Hid (inB no 0 (m - 1) = true) := by show inB no 0 (m - 1) = true; simp [inB]; omega
        have HC := Lib.hid (fun W : World => HI.out ▸ l1In_any no 0 (m - 1) W)
        rcases Nat.eq_zero_or_pos k with hk0 | hkp
        · subst hk0
          simp only [Nat.zero_mul, Nat.add_zero] at hc1 hc2
          have t0 : decide ((0 : Int) < ((0 : Nat) : Int)) = false := by simp
          have HRI : Hid (lastNo l 0 < no ∧ no < m) := by show lastNo l 0 < no ∧ no < m; simp only [lastNo]; omega
          by_cases hC : s.length = s0.length
          · by_cases hD : s.length ≤ 40
            · have HK : Hid (∀ (jj : Nat) (s : Sh), l[jj]? = some s → jj < 0 + 1 → shAt l m jj s) := fun jj s' hj h => by
                rcases Nat.lt_or_ge jj (0) with h' | h'
                · exact HE.out jj s' hj h'
                · obtain rfl : jj = 0 := by omega
                  obtain rfl : (no, s) = s' := Option.some.inj (HKS.out.symm.trans hj)
                  exact ⟨HRI.out, by rw [HG0.out]; exact hC, hD⟩
              have HL2 : Hid (-1 ≤ lastNo l (0 + 1)) := by show -1 ≤ _; rw [lastNo_succ HKS.out]; show (-1 : Int) ≤ no; omega
              generalize s.length = z at *
              generalize s0.length = z0 at *
              subst hC
              have tC : ((z : Int) != (z : Int)) = false := by simp
              have tD : decide ((40 : Int) < (z : Int)) = false := by simp; omega
              have tD' : decide (40 < z) = false := by simp; omega
              go_wp2_with fail
              go_quiet ((go_at_call 67; exact quietly (HC.out _)))
              go_wp2_with fail
              go_roundw
              case rel => exact ⟨0 + 1, by omega, by go_num, HL2, HK, below_drewN hb2 _⟩
              case measure => simp [intOf]; omega
            · have HF : Hid (shardsOk l m = false) := shardsOk_false HKS.out (fun h => hD h.2.2)
              generalize s.length = z at *
              generalize s0.length = z0 at *
              subst hC
              have tC : ((z : Int) != (z : Int)) = false := by simp
              have tD : decide ((40 : Int) < (z : Int)) = true := by simp; omega
              have tD' : decide (40 < z) = true := by simp; omega
              go_wp2_with fail
              go_quiet ((go_at_call 67; exact quietly (HC.out _)))
              go_wp2_with fail
              go_ret
              exact ⟨by rw [HF.out]; rfl, TurnIn.of_below (below_drewN hb2 _)⟩
          · have HF : Hid (shardsOk l m = false) := shardsOk_false HKS.out (fun h => hC (by have h2 := h.2.1; rw [HG0.out] at h2; exact h2))
            generalize s.length = z at *
            generalize s0.length = z0 at *
            have tC : ((z : Int) != (z0 : Int)) = true := by simp; omega
            go_wp2_with fail
            go_quiet ((go_at_call 67; exact quietly (HC.out _)))
            go_wp2_with fail
            go_ret
            exact ⟨by rw [HF.out]; rfl, TurnIn.of_below (below_drewN hb2 _)⟩
        · obtain ⟨j, rfl⟩ : ∃ j, k = j + 1 := ⟨k - 1, by omega⟩
          obtain ⟨pn, hpn, hcp⟩ := HPJ.out j rfl
          have HPN := Lib.hid hpn
          clear hpn
          have tP : (0 : Int) < ((j + 1 : Nat) : Int) := by omega
          by_cases hB : pn < no
          · have tB : decide (no ≤ pn) = false := by simp; omega
            have HRI : Hid (lastNo l (j + 1) < no ∧ no < m) := by show lastNo l (j + 1) < no ∧ no < m; rw [← HPN.out]; omega
            by_cases hC : s.length = s0.length
            · by_cases hD : s.length ≤ 40
              · have HK : Hid (∀ (jj : Nat) (s : Sh), l[jj]? = some s → jj < j + 1 + 1 → shAt l m jj s) := fun jj s' hj h => by
                  rcases Nat.lt_or_ge jj (j + 1) with h' | h'
                  · exact HE.out jj s' hj h'
                  · obtain rfl : jj = j + 1 := by omega
                    obtain rfl : (no, s) = s' := Option.some.inj (HKS.out.symm.trans hj)
                    exact ⟨HRI.out, by rw [HG0.out]; exact hC, hD⟩
                have HL2 : Hid (-1 ≤ lastNo l (j + 1 + 1)) := by show -1 ≤ _; rw [lastNo_succ HKS.out]; show (-1 : Int) ≤ no; omega
                generalize s.length = z at *
                generalize s0.length = z0 at *
                subst hC
                have tC : ((z : Int) != (z : Int)) = false := by simp
                have tD : decide ((40 : Int) < (z : Int)) = false := by simp; omega
                have tD' : decide (40 < z) = false := by simp; omega
                go_wp2_with fail
                go_quiet ((go_at_call 67; exact quietly (HC.out _)))
                go_wp2_with fail
                go_roundw
                case rel => exact ⟨j + 1 + 1, by omega, by go_num, HL2, HK, below_drewN hb2 _⟩
                case measure => simp [intOf]; omega
              · have HF : Hid (shardsOk l m = false) := shardsOk_false HKS.out (fun h => hD h.2.2)
                generalize s.length = z at *
                generalize s0.length = z0 at *
                subst hC
                have tC : ((z : Int) != (z : Int)) = false := by simp
                have tD : decide ((40 : Int) < (z : Int)) = true := by simp; omega
                have tD' : decide (40 < z) = true := by simp; omega
                go_wp2_with fail
                go_quiet ((go_at_call 67; exact quietly (HC.out _)))
                go_wp2_with fail
                go_ret
                exact ⟨by rw [HF.out]; rfl, TurnIn.of_below (below_drewN hb2 _)⟩
            · have HF : Hid (shardsOk l m = false) := shardsOk_false HKS.out (fun h => hC (by have h2 := h.2.1; rw [HG0.out] at h2; exact h2))
              generalize s.length = z at *
              generalize s0.length = z0 at *
              have tC : ((z : Int) != (z0 : Int)) = true := by simp; omega
              go_wp2_with fail
              go_quiet ((go_at_call 67; exact quietly (HC.out _)))
              go_wp2_with fail
              go_ret
              exact ⟨by rw [HF.out]; rfl, TurnIn.of_below (below_drewN hb2 _)⟩
          · have tB : decide (no ≤ pn) = true := by simp; omega
            have HF : Hid (shardsOk l m = false) := shardsOk_false HKS.out (fun h => hB (by have h2 : lastNo l (j + 1) < no := h.1.1; rw [← HPN.out] at h2; exact h2))
            go_wp2_with fail
            go_quiet ((go_at_call 67; exact quietly (HC.out _)))
            go_wp2_with fail
            go_ret
            exact ⟨by rw [HF.out]; rfl, TurnIn.of_below (below_drewN hb2 _)⟩
      · have HI : Hid (inB no 0 (m - 1) = false) := by show inB no 0 (m - 1) = false; simp [inB]; omega
        have HC := Lib.hid (fun W : World => HI.out ▸ l1In_any no 0 (m - 1) W)
        have HF : Hid (shardsOk l m = false) := by
          show shardsOk l m = false
          refine shardsOk_false HKS.out (fun h => ?_)
          have h1 : lastNo l k < no ∧ no < m := h.1
          have h2 := HLA.out
          omega
        go_wp2_with fail
        go_quiet ((go_at_call 67; exact quietly (HC.out _)))
        go_wp2_with fail
        go_ret
        exact ⟨by rw [HF.out]; rfl, TurnIn.of_below (below_drewN hb2 _)⟩
    · obtain rfl : k = n := by omega
      have hki : ¬ (k : Int) < (k : Int) := by omega
      have HF : Hid (shardsOk l m = true) := (shardsOk_iff l m).2 fun j s hj => HE.out j s hj (by have := (List.getElem?_eq_some_iff.1 hj).1; rw [HN.out] at this; exact this)
      go_wp2_with fail
      go_ret
      exact ⟨by rw [HF.out]; rfl, TurnIn.of_below hb⟩

end Go.Proofs.YtipmfebnjmobfaaDoor

/- The model's l2Blank. -/
namespace Go.Proofs.YtipmfebnjmobfaaDoor
open Go.RowKit G294

set_option maxRecDepth 100000 in
set_option maxHeartbeats 2000000 in
theorem l2Blank_own (r c : Nat) (w : World) (hr : r ≤ 1000) (hc : c ≤ 1000) : Calls Tryd.prog 150 #[.int .i64 r, .int .i64 c] w (RetMat 5 42 w (mkM r c fun _ _ => 0)) := by
  have hmk := run_make_row' (P := Tryd.prog) 42 5 (.int .u8 0) 1 Tryd.underlying42 infoElemB rfl .i64 .i64 c (by omega) (by omega)
  have hb0 : Below w.heap.size w (w.alloc (.cells #[.slice none 0 0] 60)) := (Below.refl _ _).alloc (Nat.le_refl _) _
  have hb2 : Below w.heap.size w ((w.alloc (.cells #[.slice none 0 0] 60)).alloc (.cells #[.slice none 0 0] 60)) := hb0.alloc (by simp) _
  have hsz : ((w.alloc (.cells #[.slice none 0 0] 60)).alloc (.cells #[.slice none 0 0] 60)).heap.size = w.heap.size + 2 := by simp
  have hM0 : OwnM 5 42 ((w.alloc (.cells #[.slice none 0 0] 60)).alloc (.cells #[.slice none 0 0] 60)) (w.heap.size + 2) (w.heap.size + 2) (.slice none 0 0) (mkM 0 c fun _ _ => 0) [] := hsz ▸ OwnM.nil _ _ _ _
  have HSZ := Lib.hid hsz
  clear hsz
  go_enter Tryd.func150, Tryd.ntmps150
  go_wp2_with fail
  go_loopw [6] (fun i wr => ∃ (k : Nat) (o : Value) (vs : List Value), k ≤ r ∧ i = .int .i64 k ∧ OwnM 5 42 wr (w.heap.size + 2) wr.heap.size o (mkM k c fun _ _ => 0) vs ∧
      wr.cell? ⟨w.heap.size + 1, 0, none⟩ = some o ∧ wr.frozen? ⟨w.heap.size + 1, 0, none⟩ = false ∧ wr.cell? ⟨w.heap.size, 0, none⟩ = some (.slice none 0 0) ∧ wr.frozen? ⟨w.heap.size, 0, none⟩ = false ∧ Below w.heap.size w wr ∧ w.heap.size + 2 ≤ wr.heap.size)
    (fun i _ => r - (intOf i).toNat)
  case atStart => exact ⟨0, .slice none 0 0, [], Nat.zero_le _, rfl, hM0.wider (Nat.le_refl _) (by rw [HSZ.out]; exact Nat.le_refl _) (Nat.le_refl _), by simp, by simp, by simp, by simp, hb2, by rw [HSZ.out]; exact Nat.le_refl _⟩
  case round =>
    obtain ⟨k, o, vs, hk, rfl, hM, hc1, hf1, hc0, hf0, hb, hsz⟩ := hrel
    clear hM0 hb2 hb0
    by_cases hlt : k < r
    · have hki : (k : Int) < (r : Int) := by omega
      have hrow : wr.ownsRow (w.heap.size + 2) 42 1 o k vs := by simpa using hM.row
      obtain ⟨A, n, cp, rfl⟩ := hM.isSlice
      have kW : TurnIn 0 0 wr ((wr.alloc (.cells (madeCells #[.int .u8 0] c) 5)).alloc (.cells #[.slice (some ⟨wr.heap.size, 0, none⟩) c c] 42)).drew := TurnIn.of_below (((Below.refl _ _).alloc (Nat.le_refl _) _).alloc (by simp) _).drew
      have hob : ∀ g, (Value.slice A n cp).ownBlock = some g → w.heap.size + 2 ≤ g := fun g e => (hrow.lt g e).1
      have hne1 : (Value.slice A n cp).ownBlock ≠ some (w.heap.size + 1) := fun e => by have := hob _ e; omega
      have hne0 : (Value.slice A n cp).ownBlock ≠ some w.heap.size := fun e => by have := hob _ e; omega
      have HK := Lib.hid kW
      have hcA : (wr.alloc (.cells (madeCells #[.int .u8 0] c) 5)).cell? ⟨w.heap.size + 1, 0, none⟩ = some (.slice A n cp) := cell_turn (TurnIn.of_below ((Below.refl _ _).alloc (Nat.le_refl _) _)) hc1 (by omega)
      have hcB : ((wr.alloc (.cells (madeCells #[.int .u8 0] c) 5)).alloc (.cells #[.slice (some ⟨wr.heap.size, 0, none⟩) c c] 42)).cell? ⟨w.heap.size + 1, 0, none⟩ = some (.slice A n cp) := cell_turn kW hc1 (by omega)
      clear kW
      go_wp2_with fail
      go_region_law ((refine step_append1 (by rfl) _ _ _ (by rfl) (w.heap.size + 2) 42 _ _ Tryd.underlying58 infoRowB rfl _ k vs (by rfl) (((hrow.alloc _).alloc _).drew) (wr.heap.size + 1) (.slice (some ⟨wr.heap.size, 0, none⟩) c c) (by rfl) (by simp) (by rfl) (by omega) (by omega) (by simp; omega) ?_; intro v' w1 hown1 hg1 hv1; obtain ⟨A', n', cp', rfl⟩ := own_isSlice hown1; have hc1' := (cell_past HK.out hg1 hne1 (by omega) 0).trans hc1; have hf1' := (frozen_past HK.out hg1 hne1 (by omega) 0).trans hf1))
      all_goals
        have hR : OwnBytes 5 ((wr.alloc (.cells (madeCells #[.int .u8 0] c) 5)).alloc (.cells #[.slice (some ⟨wr.heap.size, 0, none⟩) c c] 42)).drew wr.heap.size (wr.heap.size + 1) (.slice (some ⟨wr.heap.size, 0, none⟩) c c) (mkRow c fun _ => 0) := by
          refine ⟨?_, by simp, fun g e => by simp [Value.ownBlock] at e; omega⟩
          rw [bys_zero c _ (fun _ _ => rfl), mkRow_length, ← toList_madeCells_one]
          exact ((World.ownsRow_lit wr (madeCells #[.int .u8 0] c) c (Nat.le_refl _) (by unfold maxLen; omega) (by simp [madeCells])).alloc _).drew
        have hM5 := (((hM.push HK.out hR (Nat.le_refl _) (by omega) (by simpa using hown1) hg1 hv1).keep (turn_setCell w1 (w.heap.size + 1) 0 (.slice A' n' cp')) (by omega)).congr (mkM_succ k c fun _ _ => 0).symm)
        have hw1 : wr.heap.size ≤ w1.heap.size := by have := hg1.size; have := HK.out.size; omega
        have hb5 : Below w.heap.size w (w1.setCell ⟨w.heap.size + 1, 0, none⟩ (.slice A' n' cp')) := Below.setCell (TurnIn.base (TurnIn.of_grown (lo := w.heap.size) (hi := w1.heap.size) hg1 (fun g e => ⟨by have := hob g e; omega, by have := (hM.out g e); omega⟩)) (HK.out.base hb (by omega) (by omega)) (by have := HK.out.size; omega) (by omega)) (Nat.le_succ _) _
        have hq0 := ((cell_past HK.out hg1 hne0 (by omega) 0).trans hc0)
        have hq0f := ((frozen_past HK.out hg1 hne0 (by omega) 0).trans hf0)
        clear hR hown1 hg1 hv1 hM hrow hob hcA hcB hb hc0 hf0
        go_wp2_with fail
        go_roundw
        case rel => exact ⟨k + 1, .slice A' n' cp', vs ++ [.slice (some ⟨wr.heap.size, 0, none⟩) c c], by omega, by go_num, by simpa using hM5, World.cell?_setCell_same _ _ _ hc1', by simp [hf1'], (cell_set_other w1 _ _ _ (by omega)).trans hq0, (frozen_set_other w1 _ _ _ (by omega)).trans hq0f, hb5, by simp; omega⟩
        case measure => simp [intOf]; omega
    · obtain rfl : k = r := by omega
      have hki : ¬ (k : Int) < (k : Int) := by omega
      obtain ⟨A, n, cp, rfl⟩ := hM.isSlice
      go_wp2_with fail
      refine bodyPost_ret (v := .agg #[.slice A n cp]) (by simp [results, Tryd.results150, go_sem, hc0]) rfl ?_
      have kk := turn_setCell wr w.heap.size 0 (.slice A n cp)
      refine ⟨_, vs, rfl, (hM.keep kk (by omega)).wider (by omega) (by simp) (by simp), TurnIn.of_below (hb.setCell (Nat.le_refl _) _)⟩
end Go.Proofs.YtipmfebnjmobfaaDoor
