/- SplitText: the program's. -/
import Derived.Test.YtipmfebnjmobfaaDoorSplit
import Derived.Test.YtipmfebnjmobfaaDoorMatMem
import Derived.Lib.LazyBuf
set_option linter.unusedSimpArgs false
set_option linter.unusedVariables false
namespace G294
open Go Go.RowKit
theorem own_setCells {base g n cap : Nat} {e : TypeId} : ∀ (vs : List Value) (o : Nat) (w : World) (xs : List Value), w.ownsRow base e 1 (.slice (some ⟨g, 0, none⟩) n cap) n xs → o + vs.length ≤ n →
    (w.setCells g o vs).ownsRow base e 1 (.slice (some ⟨g, 0, none⟩) n cap) n (xs.take o ++ (vs ++ xs.drop (o + vs.length))) ∧ w.grownBy (w.setCells g o vs) (some g)
  | [], o, w, xs, h, hl => ⟨by simpa [World.setCells] using h, World.grownBy.refl _ _⟩
  | v :: r, o, w, xs, h, hl => by
    have hx : xs.length = n := by have := h.1; omega
    have hs := h.stored o v
    have ih := own_setCells r (o + 1) _ _ hs.1 (by simp at hl; omega)
    refine ⟨?_, hs.2.trans ih.2⟩
    have e : xs.take o ++ (v :: r ++ xs.drop (o + (v :: r).length)) = (xs.set o v).take (o + 1) ++ (r ++ (xs.set o v).drop (o + 1 + r.length)) := by
      have ho : o < xs.length := by simp at hl; omega
      rw [List.take_succ_eq_append_getElem (by simpa using ho)]
      simp only [List.getElem_set_self, List.take_set_of_le (Nat.le_refl o), List.append_assoc, List.cons_append, List.nil_append, List.length_cons]
      rw [List.drop_set_of_lt (by omega)]
      congr 4
      omega
    rw [e]
    exact ih.1
/-- copy(dst, s) of a text that is no longer than the row, onto a row of the call's own -/
theorem run_copy_str {P : Program} {w : World} (dT sT ty elem : TypeId) (hu : P.underlying dT = some (.slice elem)) (hsz : ∀ w, (Go.sizeOf elem).run P w = .ok 1 w)
    (base g n cap : Nat) (t : List UInt8) (xs : List Value) (hown : w.ownsRow base elem 1 (.slice (some ⟨g, 0, none⟩) n cap) n xs) (hle : t.length ≤ n) :
    ∃ w', (Builtin.copy_ #[dT, sT] ty #[.slice (some ⟨g, 0, none⟩) n cap, .string (str t)]).run P w = .ok (goInt t.length) w' ∧ w'.ownsRow base elem 1 (.slice (some ⟨g, 0, none⟩) n cap) n (bys t ++ xs.drop t.length) ∧ w.grownBy w' (some g) := by
  have hx : xs.length = n := by have := hown.1; omega
  have hrun := run_copy_string (P := P) w dT sT ty elem g 0 n cap (str t) hu hsz (by rw [str_size]; exact hle) (fun j hj => by
    rw [str_size] at hj
    rw [Nat.zero_add, hown.cellAt j (by omega), List.getElem?_eq_getElem (by omega)]; rfl) (fun j hj => by rw [Nat.zero_add]; exact hown.frozenAt j)
  have hst := own_setCells (bys t) 0 w xs hown (by simpa using hle)
  have hm : ((str t).data.toList.map fun x => Value.int .u8 (x.toNat : Int)) = bys t := by simp [str, bys]
  rw [hm, str_size] at hrun
  exact ⟨_, hrun, by simpa using hst.1, hst.2⟩
/-- a part of a row of bytes -/
theorem seen_part {E : TypeId} {w : World} {lo hi g n cap a z : Nat} {l : List UInt8} (h : OwnBytes E w lo hi (.slice (some ⟨g, 0, none⟩) n cap) l) (hl : l.length = n) (hc : cap ≤ maxLen) (hnc : n ≤ cap) (ha : a + z ≤ n) :
    Seen w (.slice (some ⟨g, a, none⟩) z (cap - a)) (bys ((l.drop a).take z)) := by
  have hlen : ((l.drop a).take z).length = z := by rw [List.length_take, List.length_drop]; omega
  refine ⟨_, cap - a, by rw [bys_length, hlen], by rw [bys_length, hlen]; omega, by omega, fun _ => ⟨g, a, rfl, (h.1.lt g rfl).2, fun i u hu => ?_⟩⟩
  have hi : i < ((l.drop a).take z).length := by have := (List.getElem?_eq_some_iff.1 hu).1; simpa using this
  rw [bys_get _ i hi] at hu
  rw [hlen] at hi
  have hc' := h.1.cells (g := g) rfl (a + i) _ (bys_get l (a + i) (by omega))
  rw [Addr.add_lit, Nat.zero_add] at hc'
  rw [hc', ← hu]
  simp
theorem seen_part0 {w : World} {A : Option Addr} {c : Nat} (hc : c ≤ maxLen) (l : List UInt8) (hl : l = []) : Seen w (.slice A 0 c) (bys l) := by
  subst hl
  exact ⟨A, c, rfl, Nat.zero_le _, hc, fun h => by simp at h⟩
end G294
namespace Go.Proofs.YtipmfebnjmobfaaDoor
open Go.RowKit G294

theorem sizeByte (w : World) : (Go.sizeOf 5).run Tryd.prog w = .ok 1 w := by
  obtain ⟨i0, hi0, hz0, hz1, hz2⟩ := info_parts infoByte
  simp [Go.sizeOf, typeInfo, hi0, hz1]

set_option maxRecDepth 100000 in
set_option maxHeartbeats 2000000 in
theorem splitText_yes (s : List UInt8) (k : Nat) (w : World) (h1 : 1 ≤ k) (h8 : k ≤ 8) (hs : s.length ≤ k * 40) : Calls Tryd.prog 29 #[.string (str s), .int .i64 k] w (RetStrsOk 9 w (splitL s k) true) := by
  obtain ⟨i0, hi0, hz0, hz1, hz2⟩ := info_parts infoByte
  obtain ⟨i1, hi1, hy0, hy1, hy2⟩ := info_parts infoStr
  have hps := partSize_le s.length k h1 hs
  have hpm := partSize_mul s.length k h1
  have HL := Lib.hid (padded_length s k h1)
  have hsz := str_size s
  have HD : Hid (dataOk k = true) := by show dataOk k = true; simp [dataOk]; omega
  have hkz : (k : Int) ≠ 0 := by omega
  have hdiv : ((s.length : Int) + (k : Int) - 1) / (k : Int) = ((partSize s.length k : Nat) : Int) := by
    unfold partSize
    have : ((s.length + k - 1 : Nat) : Int) = (s.length : Int) + (k : Int) - 1 := by omega
    rw [Int.natCast_ediv, this]
  obtain ⟨z, hz⟩ : ∃ z, z = partSize s.length k := ⟨_, rfl⟩
  rw [← hz] at hps hpm hdiv
  have HZ := Lib.hid hz
  clear hz
  obtain ⟨n, hn⟩ : ∃ n, n = s.length := ⟨_, rfl⟩
  rw [← hn] at hs hpm hsz hdiv
  have HN := Lib.hid hn
  clear hn
  obtain ⟨kz, hkz'⟩ : ∃ kz, kz = k * z := ⟨_, rfl⟩
  have hkb : kz ≤ 320 := by rw [hkz']; exact Nat.mul_le_mul h8 hps
  have hkm : (k : Int) * (z : Int) = (kz : Int) := by rw [hkz']; exact (Int.natCast_mul k z).symm
  rw [← hkz'] at hpm
  have HKZ := Lib.hid hkz'
  clear hkz'
  have hno : ¬ (k : Int) * 40 < (n : Int) := by omega
  have hdc : decide ((k : Int) * 40 < (n : Int)) = false := by simpa using hno
  have hpl : (padded s k).length = kz := by rw [HL.out, ← HZ.out, HKZ.out]
  have hpb : bys (padded s k) = bys s ++ List.replicate (kz - n) (.int .u8 0) := by
    rw [padded, ← HZ.out, ← HN.out, ← HKZ.out, bys_append]
    congr 1
    simp [bys, List.map_replicate]
  have HPL := Lib.hid hpl
  have HPB := Lib.hid hpb
  clear hpl hpb
  go_enter Tryd.func29, Tryd.ntmps29
  go_wp2_with fail
  refine (goodDataCount_any _ _).mono ?_
  rintro e w' ⟨rfl, rfl⟩
  rw [HD.out]
  go_wp2_with (at_make; refine wpList_make_full _ rfl _ _ _ rfl w.heap.size _ i0 _ 1 Tryd.underlying42 hi0 hz0 hz1 _ _ _ _ kz rfl rfl rfl rfl ?b2 ?b3 ?b4 ?_)
  case b2 => rw [hz2]; omega
  case b3 => unfold maxLen; omega
  case b4 => exact Nat.le_refl _
  intro w1 hown1 hg1
  have hb1 : Below w.heap.size w w1 := below_of_grown hg1 (Nat.le_refl _) (by simp)
  rw [toList_madeCells_one] at hown1
  obtain ⟨w2, hrun, hown2, hg2⟩ := run_copy_str (P := Tryd.prog) 42 9 3 5 Tryd.underlying42 sizeByte w.heap.size w.heap.size kz kz s _ hown1 (by rw [← HN.out]; exact hpm)
  have hb2 : Below w.heap.size w w2 := hb1.grown hg2 hb1.size (fun g e => by cases e; exact Nat.le_refl _)
  have hsz2 : w.heap.size < w2.heap.size := (hown2.lt w.heap.size rfl).2
  have hP : OwnBytes 5 w2 w.heap.size w2.heap.size (.slice (some ⟨w.heap.size, 0, none⟩) kz kz) (padded s k) := by
    refine ⟨?_, Nat.le_refl _, fun g e => by simp [Value.ownBlock] at e; omega⟩
    rw [HPL.out, HPB.out]
    rw [List.drop_replicate, ← HN.out] at hown2
    exact hown2
  clear hown1 hg1 hg2 hown2 hb1
  go_wp2_with (at_make; refine wpList_make_full _ rfl _ _ _ rfl w2.heap.size _ i1 _ 1 Tryd.underlying24 hi1 hy0 hy1 _ _ _ _ k rfl rfl rfl rfl ?d2 ?d3 ?d4 ?_)
  case d2 => rw [hy2]; omega
  case d3 => unfold maxLen; omega
  case d4 => exact Nat.le_refl _
  intro w3 hown3 hg3
  rw [toList_madeCells_one] at hown3
  have k3 : TurnIn 0 0 w2 w3 := TurnIn.of_grown hg3 (by simp)
  have hb3 : Below w.heap.size w w3 := k3.base hb2 (by omega) (by omega)
  replace hP := hP.keep k3 (by omega)
  have hs3 := k3.size
  obtain ⟨B, hB⟩ : ∃ B, B = w2.heap.size := ⟨_, rfl⟩
  rw [← hB] at hP hown3 ⊢
  rw [← hB] at hsz2 hs3
  clear hg3 hb2 k3 hB
  go_wp2_with fail
  go_loopw [9, 38] (fun _ i wr => ∃ m : Nat, m ≤ k ∧ i = .int .i64 m ∧ wr.ownsRow B 9 1 (.slice (some ⟨B, 0, none⟩) k k) k ((strs (splitL s k)).take m ++ List.replicate (k - m) (.string ⟨#[]⟩)) ∧ OwnBytes 5 wr w.heap.size B (.slice (some ⟨w.heap.size, 0, none⟩) kz kz) (padded s k) ∧ Below w.heap.size w wr)
    (fun _ i _ => k - (intOf i).toNat)
  case atStart => exact ⟨0, Nat.zero_le _, rfl, by simpa using hown3, hP, hb3⟩
  case round =>
    obtain ⟨m, hm, rfl, hown, hPw, hb⟩ := hrel
    clear hown3 hP hb3
    by_cases hlt : m < k
    · have hki : (m : Int) < (k : Int) := by omega
      have hmz1 : (m + 1) * z ≤ k * z := Nat.mul_le_mul_right _ hlt
      obtain ⟨mz, hmz⟩ : ∃ mz, mz = m * z := ⟨_, rfl⟩
      have hm1 : (m + 1) * z = mz + z := by rw [Nat.add_mul, hmz]; omega
      have q1 : (m : Int) * (z : Int) = (mz : Int) := by rw [hmz]; exact (Int.natCast_mul m z).symm
      have q2 : ((m : Int) + 1) * (z : Int) = (mz : Int) + (z : Int) := by rw [Int.add_mul, q1]; omega
      have hle : mz + z ≤ kz := by rw [hm1, ← HKZ.out] at hmz1; exact hmz1
      have HMZ := Lib.hid hmz
      clear hmz hm1 hmz1
      have hsp : splitP s k m = ((padded s k).drop mz).take z := by rw [splitP, ← HZ.out, HMZ.out]
      have hms : m < (splitL s k).length := by simpa using hlt
      have hco : wr.cell? ⟨B, m, none⟩ = some (.string ⟨#[]⟩) := by
        have ht : ((strs (splitL s k)).take m).length = m := by simp; omega
        rw [hown.cellAt m (by omega), List.getElem?_append_right (by omega), ht, Nat.sub_self, List.getElem?_replicate, if_pos (by omega)]
      have hfr := hown.frozenAt m
      have hst := hown.stored m (.string (str (splitP s k m)))
      rw [take_set_next (strs (splitL s k)) _ m _ (by rw [strs_get _ m hms]; simp [splitL]) (by simp; omega)] at hst
      have hPs : OwnBytes 5 (wr.setCell ⟨B, m, none⟩ (.string (str (splitP s k m)))) w.heap.size B (.slice (some ⟨w.heap.size, 0, none⟩) kz kz) (padded s k) := hPw.other hst.2 (fun g e => by simp [Value.ownBlock] at e ⊢; omega)
      have hbs : Below w.heap.size w (wr.setCell ⟨B, m, none⟩ (.string (str (splitP s k m)))) := hb.setCell (Nat.le_of_lt hsz2) _
      by_cases hkm2 : kz = mz
      · have hz0' : z = 0 := by omega
        have hconv := run_string_seen (P := Tryd.prog) 42 5 9 Tryd.underlying42 Tryd.underlying5 Tryd.underlying9 (seen_part0 (w := wr) (A := some ⟨w.heap.size, 0, none⟩) (c := 0) (by unfold maxLen; omega) (splitP s k m) (by rw [hsp, hz0']; simp))
        have hm0 : mz = 0 := by rw [HMZ.out, hz0']; simp
        clear hsp
        subst hz0'
        subst hm0
        subst hkm2
        go_wp2_with fail
        go_roundw
        case rel => exact ⟨m + 1, by omega, by go_num, by simpa [Nat.sub_sub] using hst.1, hPs, hbs⟩
        case measure => simp [intOf]; omega
      · have hconv := run_string_seen (P := Tryd.prog) 42 5 9 Tryd.underlying42 Tryd.underlying5 Tryd.underlying9 (seen_part hPw HPL.out (by unfold maxLen; omega) (Nat.le_refl _) hle)
        rw [← hsp] at hconv
        clear hsp
        go_wp2_with fail
        go_roundw
        case rel => exact ⟨m + 1, by omega, by go_num, by simpa [Nat.sub_sub] using hst.1, hPs, hbs⟩
        case measure => simp [intOf]; omega
    · obtain rfl : m = k := by omega
      have hki : ¬ (m : Int) < (m : Int) := by omega
      go_wp2_with fail
      go_ret2
      refine ⟨_, rfl, ?_, TurnIn.of_below hb⟩
      rw [List.take_of_length_le (by simp), Nat.sub_self] at hown
      exact ⟨by have h := own_base hown (Nat.le_of_lt hsz2); simpa using h, Nat.le_refl _, fun g e => (hown.lt g e).2⟩

set_option maxRecDepth 100000 in
set_option maxHeartbeats 2000000 in
theorem splitText_own (s : List UInt8) (k : Int) (w : World) (hn : s.length ≤ 1048576) : Calls Tryd.prog 29 #[.string (str s), .int .i64 k] w (RetStrsOk 9 w (splitR s k) (splitOk s k)) := by
  have hsz := str_size s
  by_cases h : dataOk k = true
  · have HI : Hid (dataOk k = true) := h
    have hb : 1 ≤ k ∧ k ≤ 8 := by simpa [dataOk] using h
    obtain ⟨m, rfl⟩ := Int.eq_ofNat_of_zero_le (show 0 ≤ k by omega)
    by_cases h2 : s.length ≤ m * 40
    · have HO : splitOk s m = true := by simp only [splitOk, h, Bool.true_and, decide_eq_true_eq]; omega
      have HR : splitR s m = splitL s m := by unfold splitR; rw [if_pos HO]; simp
      rw [HO, HR]
      exact splitText_yes s m w (by omega) (by omega) h2
    · have HO : Hid (splitOk s m = false) := by show splitOk s m = false; simp only [splitOk, h, Bool.true_and, decide_eq_false_iff_not]; omega
      have HR : Hid (splitR s m = []) := by show splitR s m = _; unfold splitR; rw [if_neg (by rw [HO.out]; simp)]
      have hno : (m : Int) * 40 < (s.length : Int) := by omega
      have hdc : decide ((m : Int) * 40 < (s.length : Int)) = true := by simpa using hno
      clear h h2
      go_enter Tryd.func29, Tryd.ntmps29
      go_wp2_with fail
      refine (goodDataCount_any _ _).mono ?_
      rintro e w' ⟨rfl, rfl⟩
      rw [HI.out]
      go_wp2_with fail
      go_ret2
      exact ⟨.slice none 0 0, by rw [HO.out]; rfl, by rw [HR.out]; exact OwnStrs.nil _ _ _, TurnIn.refl _⟩
  · have HI : Hid (dataOk k = false) := by show dataOk k = false; simpa using h
    have HO : Hid (splitOk s k = false) := by show splitOk s k = false; simp [splitOk, h]
    have HR : Hid (splitR s k = []) := by show splitR s k = _; unfold splitR; rw [if_neg (by rw [HO.out]; simp)]
    clear h
    go_enter Tryd.func29, Tryd.ntmps29
    go_wp2_with fail
    refine (goodDataCount_any _ _).mono ?_
    rintro e w' ⟨rfl, rfl⟩
    rw [HI.out]
    go_wp2_with fail
    go_ret2
    exact ⟨.slice none 0 0, by rw [HO.out]; rfl, by rw [HR.out]; exact OwnStrs.nil _ _ _, TurnIn.refl _⟩

end Go.Proofs.YtipmfebnjmobfaaDoor
