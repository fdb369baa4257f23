/- Joined texts: SplitI, Join, Encode, Elim2, Grids2, Solved, MatI2. -/
import Derived.Test.YtbfchebnooanjaaDoorBd11
import Derived.Test.YtbfchebnooanjaaDoorBd02
import Derived.Lib.LazyBuf
import Derived.Test.YtbfchebnooanjaaDoorBd09
import Derived.Lib.AppendStr
import Derived.Test.YtbfchebnooanjaaDoorBd10
import Derived.Test.YtbfchebnooanjaaDoorBd05
import Derived.Test.YtbfchebnooanjaaDoorBd04
import Derived.Test.YtbfchebnooanjaaDoorBd06
import Derived.Test.YtbfchebnooanjaaDoorBd08
set_option linter.unusedSimpArgs false
set_option linter.unusedVariables false
/- SplitText: the program's. -/
namespace G294
open Go Go.RowKit
theorem own_setCells {base g n cap : Nat} {e : TypeId} : ∀ (vs : List Value) (o : Nat) (w : World) (xs : List Value), w.ownsRow base e 1 (.slice (some ⟨g, 0, none⟩) n cap) n xs → o + vs.length ≤ n →
    (w.setCells g o vs).ownsRow base e 1 (.slice (some ⟨g, 0, none⟩) n cap) n (xs.take o ++ (vs ++ xs.drop (o + vs.length))) ∧ w.grownBy (w.setCells g o vs) (some g)
  | [], o, w, xs, h, hl => ⟨by simpa [World.setCells] using h, World.grownBy.refl _ _⟩
  | v :: r, o, w, xs, h, hl => by
    have hx : xs.length = n := by have := h.1; omega
    have hs := h.stored o v
    have ih := own_setCells r (o + 1) _ _ hs.1 (by simp at hl; omega)
    refine ⟨?_, hs.2.trans ih.2⟩
    have e : xs.take o ++ (v :: r ++ xs.drop (o + (v :: r).length)) = (xs.set o v).take (o + 1) ++ (r ++ (xs.set o v).drop (o + 1 + r.length)) := by
      have ho : o < xs.length := by simp at hl; omega
      rw [List.take_succ_eq_append_getElem (by simpa using ho)]
      simp only [List.getElem_set_self, List.take_set_of_le (Nat.le_refl o), List.append_assoc, List.cons_append, List.nil_append, List.length_cons]
      rw [List.drop_set_of_lt (by omega)]
      congr 4
      omega
    rw [e]
    exact ih.1
/-- copy(dst, s) of a text that is no longer than the row, onto a row of the call's own -/
theorem run_copy_str {P : Program} {w : World} (dT sT ty elem : TypeId) (hu : P.underlying dT = some (.slice elem)) (hsz : ∀ w, (Go.sizeOf elem).run P w = .ok 1 w)
    (base g n cap : Nat) (t : List UInt8) (xs : List Value) (hown : w.ownsRow base elem 1 (.slice (some ⟨g, 0, none⟩) n cap) n xs) (hle : t.length ≤ n) :
    ∃ w', (Builtin.copy_ #[dT, sT] ty #[.slice (some ⟨g, 0, none⟩) n cap, .string (str t)]).run P w = .ok (goInt t.length) w' ∧ w'.ownsRow base elem 1 (.slice (some ⟨g, 0, none⟩) n cap) n (bys t ++ xs.drop t.length) ∧ w.grownBy w' (some g) := by
  have hx : xs.length = n := by have := hown.1; omega
  have hrun := run_copy_string (P := P) w dT sT ty elem g 0 n cap (str t) hu hsz (by rw [str_size]; exact hle) (fun j hj => by
    rw [str_size] at hj
    rw [Nat.zero_add, hown.cellAt j (by omega), List.getElem?_eq_getElem (by omega)]; rfl) (fun j hj => by rw [Nat.zero_add]; exact hown.frozenAt j)
  have hst := own_setCells (bys t) 0 w xs hown (by simpa using hle)
  have hm : ((str t).data.toList.map fun x => Value.int .u8 (x.toNat : Int)) = bys t := by simp [str, bys]
  rw [hm, str_size] at hrun
  exact ⟨_, hrun, by simpa using hst.1, hst.2⟩
/-- a part of a row of bytes -/
theorem seen_part {E : TypeId} {w : World} {lo hi g n cap a z : Nat} {l : List UInt8} (h : OwnBytes E w lo hi (.slice (some ⟨g, 0, none⟩) n cap) l) (hl : l.length = n) (hc : cap ≤ maxLen) (hnc : n ≤ cap) (ha : a + z ≤ n) :
    Seen w (.slice (some ⟨g, a, none⟩) z (cap - a)) (bys ((l.drop a).take z)) := by
  have hlen : ((l.drop a).take z).length = z := by rw [List.length_take, List.length_drop]; omega
  refine ⟨_, cap - a, by rw [bys_length, hlen], by rw [bys_length, hlen]; omega, by omega, fun _ => ⟨g, a, rfl, (h.1.lt g rfl).2, fun i u hu => ?_⟩⟩
  have hi : i < ((l.drop a).take z).length := by have := (List.getElem?_eq_some_iff.1 hu).1; simpa using this
  rw [bys_get _ i hi] at hu
  rw [hlen] at hi
  have hc' := h.1.cells (g := g) rfl (a + i) _ (bys_get l (a + i) (by omega))
  rw [Addr.add_lit, Nat.zero_add] at hc'
  rw [hc', ← hu]
  simp
theorem seen_part0 {w : World} {A : Option Addr} {c : Nat} (hc : c ≤ maxLen) (l : List UInt8) (hl : l = []) : Seen w (.slice A 0 c) (bys l) := by
  subst hl
  exact ⟨A, c, rfl, Nat.zero_le _, hc, fun h => by simp at h⟩
end G294
namespace Go.Proofs.YtbfchebnooanjaaDoor
open Go.RowKit G294

theorem sizeByte (w : World) : (Go.sizeOf 5).run Tryd.prog w = .ok 1 w := by
  obtain ⟨i0, hi0, hz0, hz1, hz2⟩ := info_parts infoByte
  simp [Go.sizeOf, typeInfo, hi0, hz1]

set_option maxRecDepth 100000 in
set_option maxHeartbeats 2000000 in
theorem splitText_yes (s : List UInt8) (k : Nat) (w : World) (h1 : 1 ≤ k) (h8 : k ≤ 8) (hs : s.length ≤ k * 40) : Calls Tryd.prog 12 #[.string (str s), .int .i64 k] w (RetStrsOk 9 w (splitL s k) true) := by
  obtain ⟨i0, hi0, hz0, hz1, hz2⟩ := info_parts infoByte
  obtain ⟨i1, hi1, hy0, hy1, hy2⟩ := info_parts infoStr
  have hps := partSize_le s.length k h1 hs
  have hpm := partSize_mul s.length k h1
  have HL := Lib.hid (padded_length s k h1)
  have hsz := str_size s
  have HD : Hid (dataOk k = true) := by show dataOk k = true; simp [dataOk]; omega
  have hkz : (k : Int) ≠ 0 := by omega
  have hdiv : ((s.length : Int) + (k : Int) - 1) / (k : Int) = ((partSize s.length k : Nat) : Int) := by
    unfold partSize
    have : ((s.length + k - 1 : Nat) : Int) = (s.length : Int) + (k : Int) - 1 := by omega
    rw [Int.natCast_ediv, this]
  obtain ⟨z, hz⟩ : ∃ z, z = partSize s.length k := ⟨_, rfl⟩
  rw [← hz] at hps hpm hdiv
  have HZ := Lib.hid hz
  clear hz
  obtain ⟨n, hn⟩ : ∃ n, n = s.length := ⟨_, rfl⟩
  rw [← hn] at hs hpm hsz hdiv
  have HN := Lib.hid hn
  clear hn
  obtain ⟨kz, hkz'⟩ : ∃ kz, kz = k * z := ⟨_, rfl⟩
  have hkb : kz ≤ 320 := by rw [hkz']; exact Nat.mul_le_mul h8 hps
  have hkm : (k : Int) * (z : Int) = (kz : Int) := by rw [hkz']; exact (Int.natCast_mul k z).symm
  rw [← hkz'] at hpm
  have HKZ := Lib.hid hkz'
  clear hkz'
  have hno : ¬ (k : Int) * 40 < (n : Int) := by omega
  have hdc : decide ((k : Int) * 40 < (n : Int)) = false := by simpa using hno
  have hpl : (padded s k).length = kz := by rw [HL.out, ← HZ.out, HKZ.out]
  have hpb : bys (padded s k) = bys s ++ List.replicate (kz - n) (.int .u8 0) := by
    rw [padded, ← HZ.out, ← HN.out, ← HKZ.out, bys_append]
    congr 1
    simp [bys, List.map_replicate]
  have HPL := Lib.hid hpl
  have HPB := Lib.hid hpb
  clear hpl hpb
  go_enter Tryd.func12, Tryd.ntmps12
  go_wp2_with fail
  refine (goodDataCount_any _ _).mono ?_
  rintro e w' ⟨rfl, rfl⟩
  rw [HD.out]
  go_wp2_with (at_make; refine wpList_make_full _ rfl _ _ _ rfl w.heap.size _ i0 _ 1 Tryd.underlying22 hi0 hz0 hz1 _ _ _ _ kz rfl rfl rfl rfl ?b2 ?b3 ?b4 ?_)
  case b2 => rw [hz2]; omega
  case b3 => unfold maxLen; omega
  case b4 => exact Nat.le_refl _
  intro w1 hown1 hg1
  have hb1 : Below w.heap.size w w1 := below_of_grown hg1 (Nat.le_refl _) (by simp)
  rw [toList_madeCells_one] at hown1
  obtain ⟨w2, hrun, hown2, hg2⟩ := run_copy_str (P := Tryd.prog) 22 9 3 5 Tryd.underlying22 sizeByte w.heap.size w.heap.size kz kz s _ hown1 (by rw [← HN.out]; exact hpm)
  have hb2 : Below w.heap.size w w2 := hb1.grown hg2 hb1.size (fun g e => by cases e; exact Nat.le_refl _)
  have hsz2 : w.heap.size < w2.heap.size := (hown2.lt w.heap.size rfl).2
  have hP : OwnBytes 5 w2 w.heap.size w2.heap.size (.slice (some ⟨w.heap.size, 0, none⟩) kz kz) (padded s k) := by
    refine ⟨?_, Nat.le_refl _, fun g e => by simp [Value.ownBlock] at e; omega⟩
    rw [HPL.out, HPB.out]
    rw [List.drop_replicate, ← HN.out] at hown2
    exact hown2
  clear hown1 hg1 hg2 hown2 hb1
  go_wp2_with (at_make; refine wpList_make_full _ rfl _ _ _ rfl w2.heap.size _ i1 _ 1 Tryd.underlying35 hi1 hy0 hy1 _ _ _ _ k rfl rfl rfl rfl ?d2 ?d3 ?d4 ?_)
  case d2 => rw [hy2]; omega
  case d3 => unfold maxLen; omega
  case d4 => exact Nat.le_refl _
  intro w3 hown3 hg3
  rw [toList_madeCells_one] at hown3
  have k3 : TurnIn 0 0 w2 w3 := TurnIn.of_grown hg3 (by simp)
  have hb3 : Below w.heap.size w w3 := k3.base hb2 (by omega) (by omega)
  replace hP := hP.keep k3 (by omega)
  have hs3 := k3.size
  obtain ⟨B, hB⟩ : ∃ B, B = w2.heap.size := ⟨_, rfl⟩
  rw [← hB] at hP hown3 ⊢
  rw [← hB] at hsz2 hs3
  clear hg3 hb2 k3 hB
  go_wp2_with fail
  go_loopw [9, 38] (fun _ i wr => ∃ m : Nat, m ≤ k ∧ i = .int .i64 m ∧ wr.ownsRow B 9 1 (.slice (some ⟨B, 0, none⟩) k k) k ((strs (splitL s k)).take m ++ List.replicate (k - m) (.string ⟨#[]⟩)) ∧ OwnBytes 5 wr w.heap.size B (.slice (some ⟨w.heap.size, 0, none⟩) kz kz) (padded s k) ∧ Below w.heap.size w wr)
    (fun _ i _ => k - (intOf i).toNat)
  case atStart => exact ⟨0, Nat.zero_le _, rfl, by simpa using hown3, hP, hb3⟩
  case round =>
    obtain ⟨m, hm, rfl, hown, hPw, hb⟩ := hrel
    clear hown3 hP hb3
    by_cases hlt : m < k
    · have hki : (m : Int) < (k : Int) := by omega
      have hmz1 : (m + 1) * z ≤ k * z := Nat.mul_le_mul_right _ hlt
      obtain ⟨mz, hmz⟩ : ∃ mz, mz = m * z := ⟨_, rfl⟩
      have hm1 : (m + 1) * z = mz + z := by rw [Nat.add_mul, hmz]; omega
      have q1 : (m : Int) * (z : Int) = (mz : Int) := by rw [hmz]; exact (Int.natCast_mul m z).symm
      have q2 : ((m : Int) + 1) * (z : Int) = (mz : Int) + (z : Int) := by rw [Int.add_mul, q1]; omega
      have hle : mz + z ≤ kz := by rw [hm1, ← HKZ.out] at hmz1; exact hmz1
      have HMZ := Lib.hid hmz
      clear hmz hm1 hmz1
      have hsp : splitP s k m = ((padded s k).drop mz).take z := by rw [splitP, ← HZ.out, HMZ.out]
      have hms : m < (splitL s k).length := by simpa using hlt
      have hco : wr.cell? ⟨B, m, none⟩ = some (.string ⟨#[]⟩) := by
        have ht : ((strs (splitL s k)).take m).length = m := by simp; omega
        rw [hown.cellAt m (by omega), List.getElem?_append_right (by omega), ht, Nat.sub_self, List.getElem?_replicate, if_pos (by omega)]
      have hfr := hown.frozenAt m
      have hst := hown.stored m (.string (str (splitP s k m)))
      rw [take_set_next (strs (splitL s k)) _ m _ (by rw [strs_get _ m hms]; simp [splitL]) (by simp; omega)] at hst
      have hPs : OwnBytes 5 (wr.setCell ⟨B, m, none⟩ (.string (str (splitP s k m)))) w.heap.size B (.slice (some ⟨w.heap.size, 0, none⟩) kz kz) (padded s k) := hPw.other hst.2 (fun g e => by simp [Value.ownBlock] at e ⊢; omega)
      have hbs : Below w.heap.size w (wr.setCell ⟨B, m, none⟩ (.string (str (splitP s k m)))) := hb.setCell (Nat.le_of_lt hsz2) _
      by_cases hkm2 : kz = mz
      · have hz0' : z = 0 := by omega
        have hconv := run_string_seen (P := Tryd.prog) 22 5 9 Tryd.underlying22 Tryd.underlying5 Tryd.underlying9 (seen_part0 (w := wr) (A := some ⟨w.heap.size, 0, none⟩) (c := 0) (by unfold maxLen; omega) (splitP s k m) (by rw [hsp, hz0']; simp))
        have hm0 : mz = 0 := by rw [HMZ.out, hz0']; simp
        clear hsp
        subst hz0'
        subst hm0
        subst hkm2
        go_wp2_with fail
        go_roundw
        case rel => exact ⟨m + 1, by omega, by go_num, by simpa [Nat.sub_sub] using hst.1, hPs, hbs⟩
        case measure => simp [intOf]; omega
      · have hconv := run_string_seen (P := Tryd.prog) 22 5 9 Tryd.underlying22 Tryd.underlying5 Tryd.underlying9 (seen_part hPw HPL.out (by unfold maxLen; omega) (Nat.le_refl _) hle)
        rw [← hsp] at hconv
        clear hsp
        go_wp2_with fail
        go_roundw
        case rel => exact ⟨m + 1, by omega, by go_num, by simpa [Nat.sub_sub] using hst.1, hPs, hbs⟩
        case measure => simp [intOf]; omega
    · obtain rfl : m = k := by omega
      have hki : ¬ (m : Int) < (m : Int) := by omega
      go_wp2_with fail
      go_ret2
      refine ⟨_, rfl, ?_, TurnIn.of_below hb⟩
      rw [List.take_of_length_le (by simp), Nat.sub_self] at hown
      exact ⟨by have h := own_base hown (Nat.le_of_lt hsz2); simpa using h, Nat.le_refl _, fun g e => (hown.lt g e).2⟩

set_option maxRecDepth 100000 in
set_option maxHeartbeats 2000000 in
theorem splitText_own (s : List UInt8) (k : Int) (w : World) (hn : s.length ≤ 1048576) : Calls Tryd.prog 12 #[.string (str s), .int .i64 k] w (RetStrsOk 9 w (splitR s k) (splitOk s k)) := by
  have hsz := str_size s
  by_cases h : dataOk k = true
  · have HI : Hid (dataOk k = true) := h
    have hb : 1 ≤ k ∧ k ≤ 8 := by simpa [dataOk] using h
    obtain ⟨m, rfl⟩ := Int.eq_ofNat_of_zero_le (show 0 ≤ k by omega)
    by_cases h2 : s.length ≤ m * 40
    · have HO : splitOk s m = true := by simp only [splitOk, h, Bool.true_and, decide_eq_true_eq]; omega
      have HR : splitR s m = splitL s m := by unfold splitR; rw [if_pos HO]; simp
      rw [HO, HR]
      exact splitText_yes s m w (by omega) (by omega) h2
    · have HO : Hid (splitOk s m = false) := by show splitOk s m = false; simp only [splitOk, h, Bool.true_and, decide_eq_false_iff_not]; omega
      have HR : Hid (splitR s m = []) := by show splitR s m = _; unfold splitR; rw [if_neg (by rw [HO.out]; simp)]
      have hno : (m : Int) * 40 < (s.length : Int) := by omega
      have hdc : decide ((m : Int) * 40 < (s.length : Int)) = true := by simpa using hno
      clear h h2
      go_enter Tryd.func12, Tryd.ntmps12
      go_wp2_with fail
      refine (goodDataCount_any _ _).mono ?_
      rintro e w' ⟨rfl, rfl⟩
      rw [HI.out]
      go_wp2_with fail
      go_ret2
      exact ⟨.slice none 0 0, by rw [HO.out]; rfl, by rw [HR.out]; exact OwnStrs.nil _ _ _, TurnIn.refl _⟩
  · have HI : Hid (dataOk k = false) := by show dataOk k = false; simpa using h
    have HO : Hid (splitOk s k = false) := by show splitOk s k = false; simp [splitOk, h]
    have HR : Hid (splitR s k = []) := by show splitR s k = _; unfold splitR; rw [if_neg (by rw [HO.out]; simp)]
    clear h
    go_enter Tryd.func12, Tryd.ntmps12
    go_wp2_with fail
    refine (goodDataCount_any _ _).mono ?_
    rintro e w' ⟨rfl, rfl⟩
    rw [HI.out]
    go_wp2_with fail
    go_ret2
    exact ⟨.slice none 0 0, by rw [HO.out]; rfl, by rw [HR.out]; exact OwnStrs.nil _ _ _, TurnIn.refl _⟩

end Go.Proofs.YtbfchebnooanjaaDoor

/- equallyLong, l3Texts; JoinShards: the model's and the program's. -/
namespace Go.Proofs.YtbfchebnooanjaaDoor
open Go.RowKit G294

set_option maxRecDepth 100000 in
set_option maxHeartbeats 2000000 in
theorem equallyLong_any (v : Value) (L : List (List UInt8)) (w : World) (hv : Seen w v (strs L)) : Calls Tryd.prog 38 #[v] w fun e w' => e = .returned (.bool (textsOk L)) ∧ w = w' := by
  obtain ⟨A, c, rfl, hlc, hcm, hx⟩ := hv
  rw [strs_length] at hlc hx
  simp only [strs_length]
  unfold maxLen at hcm
  generalize hnn : L.length = n at *
  have HN := Lib.hid hnn
  clear hnn
  go_enter Tryd.func38, Tryd.ntmps38
  go_wp2_with fail
  go_loop [7] (fun i => ∃ k : Nat, k ≤ n ∧ i = .int .i64 k ∧ Hid (∀ i (h : i < L.length), i < k → L[i].length = (L.getD 0 []).length ∧ L[i].length ≤ 40)) (fun i => n - (intOf i).toNat)
  case atStart => exact ⟨0, Nat.zero_le _, rfl, fun i h h' => by omega⟩
  case round =>
    obtain ⟨k, hk, rfl, HE⟩ := hrel
    by_cases hlt : k < n
    · have hki : (k : Int) < (n : Int) := by omega
      have hkl : k < L.length := by rw [HN.out]; exact hlt
      obtain ⟨b, off, rfl, hbl, hcell⟩ := hx (by omega)
      have hcx := hcell k _ (strs_get L k hkl)
      have hc0 := hcell 0 _ (strs_get L 0 (by omega))
      rw [Nat.add_zero] at hc0
      have hsk := str_size L[k]
      have hs0 := str_size (L[0]'(by omega))
      have HG : Hid (L.getD 0 [] = L[0]'(by omega)) := by show _ = _; simp [List.getD, show 0 < L.length by omega]
      clear hcell hx
      by_cases h40 : L[k].length ≤ 40
      · by_cases heq : L[k].length = (L[0]'(by omega)).length
        · have HK : Hid (∀ i (h : i < L.length), i < k + 1 → L[i].length = (L.getD 0 []).length ∧ L[i].length ≤ 40) := fun i h h' => by
            rcases Nat.lt_or_ge i k with h2 | h2
            · exact HE.out i h h2
            · obtain rfl : i = k := by omega
              rw [HG.out]; exact ⟨heq, h40⟩
          generalize hnk : L[k].length = nk at *
          generalize hn0 : (L[0]'(by omega)).length = n0 at *
          subst heq
          have t1 : decide ((40 : Int) < (nk : Int)) = false := by simp; omega
          have t2 : ((nk : Int) != (nk : Int)) = false := by simp
          go_wp2_with fail
          go_round
          case rel => exact ⟨k + 1, by omega, by go_num, HK⟩
          case measure => simp [intOf]; omega
        · have HF : Hid (textsOk L = false) := textsOk_false hkl (by rw [HG.out]; omega)
          generalize hnk : L[k].length = nk at *
          generalize hn0 : (L[0]'(by omega)).length = n0 at *
          have t1 : decide ((40 : Int) < (nk : Int)) = false := by simp; omega
          have t2 : ((nk : Int) != (n0 : Int)) = true := by simp; omega
          go_wp2_with fail
          go_ret
          exact ⟨by rw [HF.out]; rfl, rfl⟩
      · have HF : Hid (textsOk L = false) := textsOk_false hkl (by omega)
        generalize hnk : L[k].length = nk at *
        have t1 : decide ((40 : Int) < (nk : Int)) = true := by simp; omega
        go_wp2_with fail
        go_ret
        exact ⟨by rw [HF.out]; rfl, rfl⟩
    · obtain rfl : k = n := by omega
      have hki : ¬ (k : Int) < (k : Int) := by omega
      have HF : Hid (textsOk L = true) := (textsOk_iff L).2 fun i h => HE.out i h (by rw [HN.out] at h; exact h)
      go_wp2_with fail
      go_ret
      exact ⟨by rw [HF.out]; rfl, rfl⟩

set_option maxRecDepth 100000 in
set_option maxHeartbeats 2000000 in
theorem l3Texts_any (v : Value) (L : List (List UInt8)) (w : World) (hv : Seen w v (strs L)) : Calls Tryd.prog 78 #[v] w fun e w' => e = .returned (.bool (textsOk L)) ∧ w = w' := by
  obtain ⟨A, c, rfl, hlc, hcm, hx⟩ := hv
  rw [strs_length] at hlc hx
  simp only [strs_length]
  unfold maxLen at hcm
  generalize hnn : L.length = n at *
  have HN := Lib.hid hnn
  clear hnn
  go_enter Tryd.func78, Tryd.ntmps78
  go_wp2_with fail
  go_loop [7] (fun i => ∃ k : Nat, k ≤ n ∧ i = .int .i64 k ∧ Hid (∀ i (h : i < L.length), i < k → L[i].length = (L.getD 0 []).length ∧ L[i].length ≤ 40)) (fun i => n - (intOf i).toNat)
  case atStart => exact ⟨0, Nat.zero_le _, rfl, fun i h h' => by omega⟩
  case round =>
    obtain ⟨k, hk, rfl, HE⟩ := hrel
    by_cases hlt : k < n
    · have hki : (k : Int) < (n : Int) := by omega
      have hkl : k < L.length := by rw [HN.out]; exact hlt
      obtain ⟨b, off, rfl, hbl, hcell⟩ := hx (by omega)
      have hcx := hcell k _ (strs_get L k hkl)
      have hc0 := hcell 0 _ (strs_get L 0 (by omega))
      rw [Nat.add_zero] at hc0
      have hsk := str_size L[k]
      have hs0 := str_size (L[0]'(by omega))
      have HG : Hid (L.getD 0 [] = L[0]'(by omega)) := by show _ = _; simp [List.getD, show 0 < L.length by omega]
      clear hcell hx
      by_cases heq : L[k].length = (L[0]'(by omega)).length
      · by_cases h40 : L[k].length ≤ 40
        · have HK : Hid (∀ i (h : i < L.length), i < k + 1 → L[i].length = (L.getD 0 []).length ∧ L[i].length ≤ 40) := fun i h h' => by
            rcases Nat.lt_or_ge i k with h2 | h2
            · exact HE.out i h h2
            · obtain rfl : i = k := by omega
              rw [HG.out]; exact ⟨heq, h40⟩
          generalize hnk : L[k].length = nk at *
          generalize hn0 : (L[0]'(by omega)).length = n0 at *
          subst heq
          have t1 : decide ((40 : Int) < (nk : Int)) = false := by simp; omega
          have t2 : ((nk : Int) != (nk : Int)) = false := by simp
          go_wp2_with fail
          go_round
          case rel => exact ⟨k + 1, by omega, by go_num, HK⟩
          case measure => simp [intOf]; omega
        · have HF : Hid (textsOk L = false) := textsOk_false hkl (by omega)
          generalize hnk : L[k].length = nk at *
          generalize hn0 : (L[0]'(by omega)).length = n0 at *
          subst heq
          have t1 : decide ((40 : Int) < (nk : Int)) = true := by simp; omega
          have t2 : ((nk : Int) != (nk : Int)) = false := by simp
          go_wp2_with fail
          go_ret
          exact ⟨by rw [HF.out]; rfl, rfl⟩
      · have HF : Hid (textsOk L = false) := textsOk_false hkl (by rw [HG.out]; omega)
        generalize hnk : L[k].length = nk at *
        generalize hn0 : (L[0]'(by omega)).length = n0 at *
        have t2 : ((nk : Int) != (n0 : Int)) = true := by simp; omega
        go_wp2_with fail
        go_ret
        exact ⟨by rw [HF.out]; rfl, rfl⟩
    · obtain rfl : k = n := by omega
      have hki : ¬ (k : Int) < (k : Int) := by omega
      have HF : Hid (textsOk L = true) := (textsOk_iff L).2 fun i h => HE.out i h (by rw [HN.out] at h; exact h)
      go_wp2_with fail
      go_ret
      exact ⟨by rw [HF.out]; rfl, rfl⟩

end Go.Proofs.YtbfchebnooanjaaDoor

/- EncodeShards: the program's. -/
namespace Go.Proofs.YtbfchebnooanjaaDoor
open Go.RowKit Go.Shelf G294

attribute [local go_sem] Oper.semAt_some

end Go.Proofs.YtbfchebnooanjaaDoor

/- eliminate: the rank and the reduced rows. -/
namespace G294
theorem swF_rows {r c a p : Nat} (E : Ents) (ha : a < r) (hp : p < r) : ∀ i, i < r → (mkM r c (swF a p E)).getD i [] = (mkM r c E).getD (sw a p i) [] := by
  intro i hi
  rw [mkM_getD _ _ _ _ hi, mkM_getD _ _ _ _ (sw_lt ha hp hi)]; rfl
theorem op_eq (E : Ents) (a k p : Nat) (i j : Nat) : clF a (fun i => scF a (ginv (E p k)) (swF a p E) i k) (scF a (ginv (E p k)) (swF a p E)) i j = opF (G294.opAt E a k p) E i j := by
  unfold opF G294.opAt clF
  by_cases h : i = a
  · simp [h]
  · simp [h, scF]
end G294
namespace Go.Proofs.YtbfchebnooanjaaDoor
open Go.RowKit G294

def RetElim (E EE : TypeId) (w : World) (lo hi : Nat) (v : Value) (L : Mat) (n : Nat) (e : Ending) (w' : World) : Prop := ∃ vs, e = .returned (.int .i64 n) ∧ OwnM E EE w' lo hi v L vs ∧ TurnIn lo hi w w'

set_option maxRecDepth 100000 in
set_option maxHeartbeats 4000000 in
theorem eliminate_any (r c n lo hi : Nat) (F : Ents) (v : Value) (vs0 : List Value) (w : World) (hM : OwnM 127 142 w lo hi v (mkM r c F) vs0) (hr1 : 1 ≤ r) (hn : n ≤ c) (hr : r ≤ 1000) (hc : c ≤ 1000) (ht : Tab w) (h0 : 0 < lo) :
    Calls Tryd.prog 110 #[v, .int .i64 n] w (RetElim 127 142 w lo hi v (mkM r c (est F r n).1) (est F r n).2) := by
  obtain ⟨g, cp, rfl, hg1, hg2, hg3, hg4⟩ := hM.sliceF (by omega)
  have HM0 := Lib.hid hM
  have HT := Lib.hid ht
  have htop := hM.top
  have hm1 := methInverse
  unfold maxLen at hg4
  clear hM ht
  go_enter Tryd.func110, Tryd.ntmps110
  go_wp2_with fail
  go_loopw [5, 10] (fun q i wr => ∃ (k a : Nat) (E : Ents) (vs : List Value), k ≤ n ∧ a ≤ r ∧ i = .int .i64 k ∧ q = .int .i64 a ∧ Hid (est F r k = (E, a)) ∧ Hid (OwnM 127 142 wr lo hi (.slice (some ⟨g, 0, none⟩) r cp) (mkM r c E) vs) ∧ Hid (TurnIn lo hi w wr)) (fun _ i _ => n - (intOf i).toNat)
  case atStart => exact ⟨0, 0, F, vs0, Nat.zero_le _, Nat.zero_le _, rfl, rfl, rfl, HM0, Lib.hid ⟨rfl, rfl, rfl, Nat.le_refl _, fun _ _ _ => rfl⟩⟩
  case round =>
    obtain ⟨k, a, E, vs, hk, har, rfl, rfl, HE, HM, HK⟩ := hrel
    by_cases hlt : k < n
    · have hki : (k : Int) < (n : Int) := by omega
      have hseen := Lib.hid HM.out.seen
      have htr : Tab wr := fun i hi => (World.cell?_of_block (HK.out.block 0 (by omega) (by omega))).trans (HT.out i hi)
      have HTR := Lib.hid htr
      clear htr
      go_wp2_with fail
      refine (pivotBelow_any r c a k E _ _ hseen.out hr1 hr hc har (by omega)).mono ?_
      rintro e w' ⟨rfl, rfl⟩
      rcases piv_cases E r a k with ⟨hp, _⟩ | ⟨p, hp, hap, hpr, hne, _⟩
      · rw [hp]
        have HE2 : Hid (est F r (k + 1) = (E, a)) := by
          show est F r (k + 1) = (E, a)
          rw [est_none (by rw [HE.out]; exact hp)]; exact HE.out
        clear hp
        unfold pivV
        go_wp2_with fail
        go_roundw
        case rel => exact ⟨k + 1, a, E, vs, by omega, har, by go_num, rfl, HE2, HM, HK⟩
        case measure => simp [intOf]; omega
      · rw [hp]
        have HE2 : Hid (est F r (k + 1) = (opF (G294.opAt E a k p) E, a + 1)) := by
          show est F r (k + 1) = _
          rw [est_some (p := p) (by rw [HE.out]; exact hp), HE.out]
        have har' : a < r := by omega
        obtain ⟨ba, ca, hua, _, _, _, _, _, _, _⟩ := HM.out.rowF a har' (by omega)
        obtain ⟨bp, cpp, hup, _, _, _, _, _, _, _⟩ := HM.out.rowF p hpr (by omega)
        have hca := HM.out.cellAt hua
        have hcp := HM.out.cellAt hup
        have hfa := HM.out.frozenAt a
        have hfp := HM.out.frozenAt p
        have hsw := (HM.out.swap (p := a) (q := p) (by simp) hua hup (L' := mkM r c (swF a p E)) (by simp) (fun i hi => swF_rows E har' hpr i (by simpa using hi)))
        have hrow : wr.ownsRow lo 142 1 (.slice (some ⟨g, 0, none⟩) r cp) r vs := by simpa using HM.out.row
        have hst := (hrow.stored a (.slice (some ⟨bp, 0, none⟩) c cpp)).1
        obtain ⟨z, hz⟩ : ∃ z, (wr.setCell ⟨g, a, none⟩ (.slice (some ⟨bp, 0, none⟩) c cpp)).cell? ⟨g, p, none⟩ = some z := by
          rw [hst.cellAt p (by omega)]
          exact ⟨_, List.getElem?_eq_getElem (by have := hst.1; omega)⟩
        have HSW := Lib.hid hsw
        have ha0 : (0 : Int) ≤ (a : Int) := Int.natCast_nonneg _
        have hai : (a : Int) < (r : Int) := by omega
        have hp0 : (0 : Int) ≤ (p : Int) := Int.natCast_nonneg _
        have hpi : (p : Int) < (r : Int) := by omega
        clear hp hne hsw hrow hst
        unfold pivV
        go_wp2_with fail
        go_region
        have HSW5 := Lib.hid (HSW.out.drewN 1)
        have hK5 : TurnIn lo hi w ((wr.setCell ⟨g, a, none⟩ (.slice (some ⟨bp, 0, none⟩) c cpp)).setCell ⟨g, p, none⟩ (.slice (some ⟨ba, 0, none⟩) c ca)).drew := by
          have t := turn_trans (turn_trans HK.out (turn_setCell wr g a (.slice (some ⟨bp, 0, none⟩) c cpp)) (by omega)) (turn_setCell _ g p (.slice (some ⟨ba, 0, none⟩) c ca)) (by omega)
          exact ⟨t.os, t.tape, t.output, t.size, t.block⟩
        change Hid (OwnM 127 142 ((wr.setCell ⟨g, a, none⟩ (.slice (some ⟨bp, 0, none⟩) c cpp)).setCell ⟨g, p, none⟩ (.slice (some ⟨ba, 0, none⟩) c ca)).drew lo hi (.slice (some ⟨g, 0, none⟩) r cp) (mkM r c (swF a p E)) ((vs.set a (.slice (some ⟨bp, 0, none⟩) c cpp)).set p (.slice (some ⟨ba, 0, none⟩) c ca))) at HSW5
        generalize ((wr.setCell ⟨g, a, none⟩ (.slice (some ⟨bp, 0, none⟩) c cpp)).setCell ⟨g, p, none⟩ (.slice (some ⟨ba, 0, none⟩) c ca)).drew = w5 at *
        generalize (vs.set a (.slice (some ⟨bp, 0, none⟩) c cpp)).set p (.slice (some ⟨ba, 0, none⟩) c ca) = vs5 at *
        have HK5 := Lib.hid hK5
        obtain ⟨b5, c5, hu5, _, _, _, _, e5, _, hcell5⟩ := HSW5.out.rowF a har' (by omega)
        have hc5 := HSW5.out.cellAt hu5
        have hx5 := hcell5 k (by omega)
        have ee : swF a p E a k = E p k := by simp [swF, sw]
        rw [ee] at hx5
        have HU5 := Lib.hid hu5
        have htr5 : Tab w5 := fun i hi => (World.cell?_of_block (HK5.out.block 0 (by omega) (by omega))).trans (HT.out i hi)
        have htd5 : Tab w5.drew := htr5
        have HTR5 := Lib.hid htd5
        have hkc : (k : Int) < (c : Int) := by omega
        have hk0 : (0 : Int) ≤ (k : Int) := Int.natCast_nonneg _
        unfold maxLen at e5
        clear hK5 hcell5 hu5 ee htr5 htd5 hca hcp hfa hfp hz hua hup HSW
        go_wp2_with fail
        refine wp_region_still_tail 13 (by kernel_rfl) (by kernel_rfl) ?_
        simp only [List.take_succ_cons, List.take_zero, List.drop_succ_cons, List.drop_zero]
        repeat (first | still_step | still_call (stilly (fbInverse_any (E p k) _ HTR5.out)))
        refine wpStill_nil ?_
        go_wp2_with fail
        refine (scaleRow_any r c a lo hi (swF a p E) (ginv (E p k)) _ _ vs5 w5.drew (HSW5.out.drewN 1) har' HU5.out (by omega) hc HTR5.out h0).mono ?_
        rintro e w6 ⟨rfl, hM6, hK6⟩
        have hK6' : TurnIn lo hi w w6 := turn_trans HK5.out (⟨hK6.os, hK6.tape, hK6.output, hK6.size, hK6.block⟩ : TurnIn lo hi w5 w6) (by omega)
        have HM6 := Lib.hid hM6
        have HK6 := Lib.hid hK6'
        have htr6 : Tab w6 := fun i hi => (World.cell?_of_block (HK6.out.block 0 (by omega) (by omega))).trans (HT.out i hi)
        have HTR6 := Lib.hid htr6
        clear hM6 hK6 hK6' htr6 hc5 hx5
        go_wp2_with fail
        refine (clearColumn_any r c a k lo hi (scF a (ginv (E p k)) (swF a p E)) _ vs5 w6 HM6.out har' (by omega) hr hc HTR6.out h0).mono ?_
        rintro e w7 ⟨rfl, hM7, hK7⟩
        have HM7 := Lib.hid (hM7.congr (L' := mkM r c (opF (G294.opAt E a k p) E)) (mkM_congr fun i j _ _ => op_eq E a k p i j))
        have HK7 := Lib.hid (turn_trans HK6.out hK7 (by omega))
        clear hM7 hK7
        go_wp2_with fail
        go_roundw
        case rel => exact ⟨k + 1, a + 1, _, vs5, by omega, by omega, by go_num, by go_num, HE2, HM7, HK7⟩
        case measure => simp [intOf]; omega
    · obtain rfl : k = n := by omega
      have hki : ¬ (k : Int) < (k : Int) := by omega
      go_wp2_with fail
      go_ret
      exact ⟨vs, by rw [HE.out]; rfl, by rw [HE.out]; exact HM.out, HK.out⟩
end Go.Proofs.YtbfchebnooanjaaDoor

/- sideBySide, multiplied, solved, fieldGrid, matrixOf. -/
namespace Go.Proofs.YtbfchebnooanjaaDoor
open Go.RowKit G294

set_option maxRecDepth 100000 in
set_option maxHeartbeats 1000000 in
theorem sideAt (r n c Bw Bl Br : Nat) (F G : Ents) (v u : Value) (w : World) (hBw : Bw < w.heap.size) (hBl : Bl < w.heap.size) (hBr : Br < w.heap.size) (hn : n ≤ 1000) (hc : c ≤ 1000)
    (hw : w.cell? ⟨Bw, 0, none⟩ = some (.int .i64 n)) (hv : w.cell? ⟨Bl, 0, none⟩ = some v) (hu : w.cell? ⟨Br, 0, none⟩ = some u) (hs : SeenM w v (mkM r n F)) (ht : SeenM w u (mkM r c G)) :
    GivesAt Tryd.prog 122 #[.pointer (some ⟨Bw, 0, none⟩), .pointer (some ⟨Bl, 0, none⟩), .pointer (some ⟨Br, 0, none⟩)] r (n + c) (hcF n F G) w := by
  intro W i j hb hi hj
  have hw' := (hb.cell (p := ⟨Bw, 0, none⟩) hBw).trans hw
  have hv' := (hb.cell (p := ⟨Bl, 0, none⟩) hBl).trans hv
  have hu' := (hb.cell (p := ⟨Br, 0, none⟩) hBr).trans hu
  by_cases hjn : j < n
  · obtain ⟨bb, off, cp, b', off', c', rfl, hl1, h1, h2, h3, hl2, h4⟩ := (hs.below hb).cellF i j hi hjn
    have HF : Hid (hcF n F G i j = F i j) := if_pos hjn
    unfold maxLen at hl1 hl2
    have hi' : (i : Int) < (r : Int) := by omega
    have hj' : (j : Int) < (n : Int) := by omega
    clear hw hv hu hs ht hu'
    go_enter Tryd.func122, Tryd.ntmps122
    go_wp2_with fail
    go_ret
    exact ⟨by rw [HF.out]; rfl, 0, rfl⟩
  · obtain ⟨d, rfl⟩ : ∃ d, j = n + d := ⟨j - n, by omega⟩
    obtain ⟨bb, off, cp, b', off', c', rfl, hl1, h1, h2, h3, hl2, h4⟩ := (ht.below hb).cellF i d hi (by omega)
    have HF : Hid (hcF n F G i (n + d) = G i d) := by show hcF n F G i (n + d) = G i d; unfold hcF; rw [if_neg (by omega)]; congr 1; omega
    unfold maxLen at hl1 hl2
    have hi' : (i : Int) < (r : Int) := by omega
    have hi0 : (0 : Int) ≤ (i : Int) := Int.natCast_nonneg _
    have hd0 : (0 : Int) ≤ (d : Int) := Int.natCast_nonneg _
    have hd' : (d : Int) < (c : Int) := by omega
    obtain ⟨x, hx⟩ : ∃ x, x = n + d := ⟨_, rfl⟩
    rw [← hx] at HF hjn ⊢
    have hxx : IntKind.i64.wrap ((x : Int) - (n : Int)) = (d : Int) := by rw [IntWalk.i64_in _ (by omega)]; omega
    have hj' : ¬ (x : Int) < (n : Int) := by omega
    clear hw hv hu hs ht hv' hx hjn
    go_enter Tryd.func122, Tryd.ntmps122
    go_wp2_with fail
    go_quiet (fail)
    go_wp2_with fail
    go_ret
    exact ⟨by rw [HF.out]; rfl, _, rfl⟩

set_option maxRecDepth 100000 in
set_option maxHeartbeats 1000000 in
theorem solvedAt (r n c Bb Bn : Nat) (F : Ents) (v : Value) (w : World) (hBb : Bb < w.heap.size) (hBn : Bn < w.heap.size) (hn : n ≤ 1000) (hc : c ≤ 1000)
    (hv : w.cell? ⟨Bb, 0, none⟩ = some v) (hw : w.cell? ⟨Bn, 0, none⟩ = some (.int .i64 n)) (hs : SeenM w v (mkM r (n + c) F)) :
    GivesAt Tryd.prog 112 #[.pointer (some ⟨Bb, 0, none⟩), .pointer (some ⟨Bn, 0, none⟩)] r c (fun i j => F i (n + j)) w := by
  intro W i j hb hi hj
  have hw' := (hb.cell (p := ⟨Bn, 0, none⟩) hBn).trans hw
  have hv' := (hb.cell (p := ⟨Bb, 0, none⟩) hBb).trans hv
  obtain ⟨x, hx⟩ : ∃ x, x = n + j := ⟨_, rfl⟩
  obtain ⟨y, hy⟩ : ∃ y, y = n + c := ⟨_, rfl⟩
  rw [← hy] at hs
  obtain ⟨bb, off, cp, b', off', c', rfl, hl1, h1, h2, h3, hl2, h4⟩ := (hs.below hb).cellF i x hi (by omega)
  have HF : Hid (F i (n + j) = F i x) := by show F i (n + j) = F i x; rw [hx]
  unfold maxLen at hl1 hl2
  have hi' : (i : Int) < (r : Int) := by omega
  have hi0 : (0 : Int) ≤ (i : Int) := Int.natCast_nonneg _
  have hx0 : (0 : Int) ≤ (x : Int) := Int.natCast_nonneg _
  have hx' : (x : Int) < (y : Int) := by omega
  have hxx : IntKind.i64.wrap ((n : Int) + (j : Int)) = (x : Int) := by rw [IntWalk.i64_in _ (by omega)]; omega
  clear hw hv hs hx hy
  go_enter Tryd.func112, Tryd.ntmps112
  go_wp2_with fail
  go_quiet (fail)
  go_wp2_with fail
  go_ret
  exact ⟨by rw [HF.out]; rfl, _, rfl⟩

set_option maxHeartbeats 1000000 in
theorem fieldGrid_own (r c : Nat) (F : Ents) (v : Value) (w : World) (hs : SeenM w v (mkM r c F)) (hr : 1 ≤ r) (hr2 : r ≤ 1000) (hc : c ≤ 1000) :
    Calls Tryd.prog 95 #[.agg #[v]] w (RetM 127 142 w (mkM r c F)) := by
  have k1 : TurnIn 0 0 w (w.alloc (.cells #[v] 67)) := turn_alloc _ _
  have HS := Lib.hid (hs.touch k1)
  have K1 := Lib.hid k1
  obtain ⟨A, cp, hvv, _, _⟩ := hs.len
  rw [mkM_length] at hvv
  subst hvv
  clear hs k1
  go_enter Tryd.func95, Tryd.ntmps95
  go_wp2_with fail
  refine (convertedB r c F _ _ HS.out hr hr2 hc).mono ?_
  rintro e w' ⟨v', vs', rfl, hM, ht⟩
  go_wp2_with fail
  go_ret
  exact RetM.base ⟨_, _, rfl, hM, ht⟩ K1.out.to_below

set_option maxHeartbeats 1000000 in
theorem matrixOf_own (r c : Nat) (F : Ents) (v : Value) (w : World) (hs : SeenM w v (mkM r c F)) (hr : 1 ≤ r) (hr2 : r ≤ 1000) (hc : c ≤ 1000) :
    Calls Tryd.prog 97 #[v] w (RetMat 5 22 w (mkM r c F)) := by
  have k1 : TurnIn 0 0 w (w.alloc (.cells #[.slice none 0 0] 67)) := turn_alloc _ _
  have HS := Lib.hid (hs.touch k1)
  have K1 := Lib.hid k1
  obtain ⟨A, cp, hvv, _, _⟩ := hs.len
  rw [mkM_length] at hvv
  subst hvv
  clear hs k1
  go_enter Tryd.func97, Tryd.ntmps97
  go_wp2_with fail
  refine (convertedF r c F _ _ HS.out hr hr2 hc).mono ?_
  rintro e w' ⟨v', vs', rfl, hM, ht⟩
  obtain ⟨A', n', c', rfl⟩ := hM.isSlice
  have hq := cell_turn ht (B := w.heap.size) (o := 0) (x := .slice none 0 0) (by simp) (by simp)
  have hqf := frozen_turn ht (B := w.heap.size) (o := 0) (x := false) (by simp) (by simp)
  have HF := Lib.hid (ret_store K1.out.to_below hM ht w.heap.size 0 (Nat.le_refl _) (by simp) (.slice A' n' c'))
  clear hM ht
  go_wp2_with fail
  refine bodyPost_ret (v := .agg #[.slice A' n' c']) (by simp [results, Tryd.results97, go_sem, hq]) rfl ?_
  exact ⟨_, vs', rfl, HF.out.1, HF.out.2⟩
end Go.Proofs.YtbfchebnooanjaaDoor

/- sideBySide and solved. -/
namespace G294
def solB (F : Ents) (n : Nat) : Bool := decide ((est F n n).2 = n)
end G294
namespace Go.Proofs.YtbfchebnooanjaaDoor
open Go.RowKit G294

set_option maxRecDepth 100000 in
set_option maxHeartbeats 1000000 in
theorem sideBySide_own (r n c : Nat) (F G : Ents) (v u : Value) (w : World) (hs : SeenM w v (mkM r n F)) (hu : SeenM w u (mkM r c G)) (hr1 : 1 ≤ r) (hr : r ≤ 1000) (hn : n ≤ 400) (hc : c ≤ 400) :
    Calls Tryd.prog 109 #[v, u] w (RetM 127 142 w (mkM r (n + c) (hcF n F G))) := by
  have k3 : TurnIn 0 0 w (((w.alloc (.cells #[v] 124)).alloc (.cells #[u] 124)).alloc (.cells #[.int .i64 n] 3)) := turn_trans (turn_trans (turn_alloc _ _) (turn_alloc _ _) (by omega)) (turn_alloc _ _) (by omega)
  have z3 : (((w.alloc (.cells #[v] 124)).alloc (.cells #[u] 124)).alloc (.cells #[.int .i64 n] 3)).heap.size = w.heap.size + 3 := by simp
  have q1 : (((w.alloc (.cells #[v] 124)).alloc (.cells #[u] 124)).alloc (.cells #[.int .i64 n] 3)).cell? ⟨w.heap.size, 0, none⟩ = some v := cell_turn (turn_trans (turn_alloc _ _) (turn_alloc _ _) (by omega)) (show (w.alloc (.cells #[v] 124)).cell? ⟨w.heap.size, 0, none⟩ = some v by simp) (by simp)
  have q2 : (((w.alloc (.cells #[v] 124)).alloc (.cells #[u] 124)).alloc (.cells #[.int .i64 n] 3)).cell? ⟨w.heap.size + 1, 0, none⟩ = some u := alloc_mid_cell _ _ _ _ _
  have q3 : (((w.alloc (.cells #[v] 124)).alloc (.cells #[u] 124)).alloc (.cells #[.int .i64 n] 3)).cell? ⟨w.heap.size + 1 + 1, 0, none⟩ = some (.int .i64 n) := alloc_last_cell _ _ _ _ _
  have HG := Lib.hid (sideAt r n c (w.heap.size + 1 + 1) w.heap.size (w.heap.size + 1) F G v u _ (by omega) (by omega) (by omega) (by omega) (by omega) q3 q1 q2 (hs.touch k3) (hu.touch k3))
  obtain ⟨bb, off, cp, A1, c1, rfl, hl1, hbb, hrow0, hl2, _⟩ := hs.rowF 0 (by omega)
  obtain ⟨bb2, off2, cp2, A2, c2, rfl, hl3, hbb2, hrow2, hl4, _⟩ := hu.rowF 0 (by omega)
  rw [Nat.add_zero] at hrow0 hrow2
  have q5 := cell_turn k3 hrow2 hbb2
  have k2 : TurnIn 0 0 w ((w.alloc (.cells #[.slice (some ⟨bb, off, none⟩) r cp] 124)).alloc (.cells #[.slice (some ⟨bb2, off2, none⟩) r cp2] 124)) := turn_trans (turn_alloc _ _) (turn_alloc _ _) (by omega)
  have q6 := cell_turn k2 hrow0 hbb
  have K3 := Lib.hid k3
  have eg := enters_of Tryd.func122 (by kernel_rfl) rfl
  have hpos : 0 < r := hr1
  unfold maxLen at hl1 hl2 hl3 hl4
  clear hs hu k3 k2
  go_enter Tryd.func109, Tryd.ntmps109
  go_wp2_with fail
  generalize (((w.alloc (.cells #[.slice (some ⟨bb, off, none⟩) r cp] 124)).alloc (.cells #[.slice (some ⟨bb2, off2, none⟩) r cp2] 124)).alloc (.cells #[.int .i64 n] 3)) = w2 at *
  have Z3 := Lib.hid z3
  have hsum : IntKind.i64.wrap ((n : Int) + (c : Int)) = ((n + c : Nat) : Int) := by rw [IntWalk.i64_in _ (by omega)]; omega
  clear z3 q6
  go_region_held3 (fun w' => w'.cell? ⟨w.heap.size, 0, none⟩ = some (.slice (some ⟨bb, off, none⟩) r cp) ∧ w'.cell? ⟨w.heap.size + 1, 0, none⟩ = some (.slice (some ⟨bb2, off2, none⟩) r cp2) ∧ w'.cell? ⟨w.heap.size + 1 + 1, 0, none⟩ = some (.int .i64 n) ∧ w'.cell? ⟨bb2, off2, none⟩ = some (.slice A2 c c2))
    (first | exact ⟨q1, q2, q3, q5⟩ | exact ⟨y1, y2, y3, y5⟩)
    ((go_at_call 111; refine (newGridF r (n + c) _ _ _ w2.drew eg (HG.out.later (Below.refl _ _).drew) hr (by omega)).mono ?_; rintro e w' ⟨v', vs', rfl, hM, ht⟩; have z3 := Z3.out; have y1 := cell_turn ht (show w2.drew.cell? _ = _ from q1) (show _ < w2.heap.size by omega); have y2 := cell_turn ht (show w2.drew.cell? _ = _ from q2) (show _ < w2.heap.size by omega); have y3 := cell_turn ht (show w2.drew.cell? _ = _ from q3) (show _ < w2.heap.size by omega); have y5 := cell_turn ht (show w2.drew.cell? _ = _ from q5) (show _ < w2.heap.size by omega); clear z3))
  go_wp2_with fail
  go_ret
  exact RetM.base ⟨_, _, rfl, hM, ht⟩ K3.out.to_below.drew

def RetGridOk (E EE : TypeId) (w : World) (L : Mat) (ok : Bool) (e : Ending) (w' : World) : Prop := ∃ v vs, e = .returned (.tuple #[v, .bool ok]) ∧ OwnM E EE w' w.heap.size w'.heap.size v L vs ∧ TurnIn 0 0 w w'
abbrev solOk (F : Ents) (n : Nat) : Bool := solB F n
def solL (F G : Ents) (n c : Nat) : Mat := if solOk F n = true then mkM n c (bst F G n n) else []

set_option maxRecDepth 100000 in
set_option maxHeartbeats 2000000 in
theorem solved_own (n c : Nat) (F G : Ents) (v u : Value) (w : World) (hs : SeenM w v (mkM n n F)) (hu : SeenM w u (mkM n c G)) (hn1 : 1 ≤ n) (hn : n ≤ 400) (hc : c ≤ 400) (htab : Tab w) (h0 : 0 < w.heap.size) :
    Calls Tryd.prog 94 #[v, u] w (RetGridOk 127 142 w (solL F G n c) (solOk F n)) := by
  have k1 : TurnIn 0 0 w (w.alloc (.cells #[.int .i64 n] 3)) := turn_alloc _ _
  have q1 : (w.alloc (.cells #[.int .i64 n] 3)).cell? ⟨w.heap.size, 0, none⟩ = some (.int .i64 n) := by simp
  have z1 : (w.alloc (.cells #[.int .i64 n] 3)).heap.size = w.heap.size + 1 := by simp
  have HS := Lib.hid (hs.touch k1)
  have HU := Lib.hid (hu.touch k1)
  have HT := Lib.hid (htab.below k1.to_below h0)
  have hle := est_le F n n
  obtain ⟨A, cp, hvv, hl1, hl1'⟩ := hs.len
  rw [mkM_length] at hvv hl1
  obtain ⟨bb2, off2, cp2, A2, c2, rfl, hl3, hbb2, hrow2, hl4, _⟩ := hu.rowF 0 (by omega)
  rw [Nat.add_zero] at hrow2
  subst hvv
  have HR2 := Lib.hid hrow2
  have K1 := Lib.hid k1
  have hpos : 0 < n := hn1
  unfold maxLen at hl1' hl3 hl4
  clear hs hu htab k1 hrow2
  go_enter Tryd.func94, Tryd.ntmps94
  go_wp2_with fail
  generalize (w.alloc (.cells #[.int .i64 n] 3)) = w1 at *
  refine (sideBySide_own n n c F G _ _ _ HS.out HU.out hn1 (by omega) hn hc).mono ?_
  rintro e w2 ⟨y, vs, rfl, hM, ht⟩
  obtain ⟨g, cpb, rfl, hg1, hg2, hg3, hg4⟩ := hM.sliceF hn1
  have s2 := ht.size
  have p1 := cell_turn ht q1 (by omega)
  have k3 : TurnIn 0 0 w2 (w2.alloc (.cells #[.slice (some ⟨g, 0, none⟩) n cpb] 124)) := turn_alloc _ _
  have z3 : (w2.alloc (.cells #[.slice (some ⟨g, 0, none⟩) n cpb] 124)).heap.size = w2.heap.size + 1 := by simp
  have p2 := cell_turn k3 p1 (by omega)
  have p3 : (w2.alloc (.cells #[.slice (some ⟨g, 0, none⟩) n cpb] 124)).cell? ⟨w2.heap.size, 0, none⟩ = some (.slice (some ⟨g, 0, none⟩) n cpb) := by simp
  have HM := Lib.hid (hM.keep k3 (by omega))
  have K3 := Lib.hid (turn_trans ht k3 (by omega))
  have hT3 : Tab (w2.alloc (.cells #[.slice (some ⟨g, 0, none⟩) n cpb] 124)) := HT.out.below K3.out.to_below (by omega)
  have HT3 := Lib.hid hT3
  have Z3 := Lib.hid z3
  have hsz3 : w2.heap.size < (w2.alloc (.cells #[.slice (some ⟨g, 0, none⟩) n cpb] 124)).heap.size := by omega
  unfold maxLen at hg4
  clear hM ht k3 z3 p1 hT3 q1
  go_wp2_with fail
  generalize hw3 : (w2.alloc (.cells #[.slice (some ⟨g, 0, none⟩) n cpb] 124)) = w3 at *
  clear hw3
  have hgl : 0 < w1.heap.size := by omega
  go_region_held3 (fun w' => w'.cell? ⟨w.heap.size, 0, none⟩ = some (.int .i64 n) ∧ w'.cell? ⟨w2.heap.size, 0, none⟩ = some (.slice (some ⟨g, 0, none⟩) n cpb))
    (first | exact ⟨p2, p3⟩ | exact ⟨y2, y3⟩)
    ((go_at_call 110; refine (eliminate_any n (n + c) n _ _ (hcF n F G) _ vs w3.drew (HM.out.drewN 1) hn1 (by omega) (by omega) (by omega) HT3.out hgl).mono ?_; rintro e w4 ⟨vs4, rfl, hM4, hK4⟩; have y2 := (World.cell?_of_block (hK4.block w.heap.size (show w.heap.size < w3.heap.size by omega) (by omega))).trans (show w3.drew.cell? _ = _ from p2); have y3 := (World.cell?_of_block (hK4.block w2.heap.size (show w2.heap.size < w3.heap.size by omega) (by omega))).trans (show w3.drew.cell? _ = _ from p3)))
  rw [est_hc F G n n n (Nat.le_refl _)] at hM4 ⊢
  dsimp only at hM4 ⊢
  have kW4 : TurnIn 0 0 w w4 := turn_trans (turn_trans K1.out K3.out (by omega)) (⟨hK4.os, hK4.tape, hK4.output, hK4.size, hK4.block⟩ : TurnIn w1.heap.size w2.heap.size w3 w4) (by omega)
  have KW4 := Lib.hid kW4
  have s4 := hK4.size
  have s4' : w3.heap.size ≤ w4.heap.size := s4
  have hr4 := cell_turn kW4 HR2.out hbb2
  have HOK : Hid (solB F n = decide ((est F n n).2 = n)) := rfl
  have HLL : Hid (∀ b, solOk F n = b → solL F G n c = if b = true then mkM n c (bst F G n n) else []) := fun b h => by unfold solL; rw [h]
  have HG := Lib.hid (solvedAt n n c w2.heap.size w.heap.size (hcF n (est F n n).1 (bst F G n n)) _ w4 (by omega) (by omega) (by omega) (by omega) y3 y2 hM4.seen)
  have eg := enters_of Tryd.func112 (by kernel_rfl) rfl
  clear hM4 hK4 kW4 s4 p2 p3
  generalize (est F n n).2 = rk at *
  by_cases hrk : rk < n
  · have HO : Hid (solOk F n = false) := by show solB F n = false; rw [HOK.out]; simp; omega
    go_wp2_with fail
    go_ret2
    exact ⟨_, [], by rw [HO.out]; rfl, by rw [HLL.out false HO.out]; exact OwnM.nil _ _ _ _, KW4.out⟩
  · have HO : Hid (solOk F n = true) := by show solB F n = true; rw [HOK.out]; simp; omega
    have hd : decide (rk < n) = false := by simpa using hrk
    go_wp2_with fail
    go_region_held3 (fun w' => w'.cell? ⟨w.heap.size, 0, none⟩ = some (.int .i64 n) ∧ w'.cell? ⟨bb2, off2, none⟩ = some (.slice A2 c c2))
      (first | exact ⟨y2, hr4⟩ | exact ⟨x2, x3⟩)
      ((go_at_call 111; refine (newGridF n c _ _ _ w4.drew eg (HG.out.later (Below.refl _ _).drew) (by omega) (by omega)).mono ?_; rintro e w5 ⟨v5, vs5, rfl, hM5, ht5⟩; have x2 := cell_turn ht5 (show w4.drew.cell? _ = _ from y2) (show _ < w4.heap.size by omega); have x3 := cell_turn ht5 (show w4.drew.cell? _ = _ from hr4) (show _ < w4.heap.size by omega)))
    go_wp2_with fail
    go_ret2
    have hb5 := KW4.out.to_below.drew
    refine ⟨v5, vs5, by rw [HO.out]; rfl, ?_, turn_of_below hb5 ht5⟩
    rw [HLL.out true HO.out, if_pos rfl]
    exact (hM5.congr (mkM_congr fun i j _ _ => by unfold hcF; rw [if_neg (by omega)]; congr 1; omega)).wider hb5.size (Nat.le_refl _) (Nat.le_refl _)
end Go.Proofs.YtbfchebnooanjaaDoor

/- The program's RankOf and InverseOf. -/
namespace G294
theorem int_beq (a b : Nat) : ((a : Int) == (b : Int)) = decide (a = b) := by
  by_cases h : a = b
  · subst h; simp
  · rw [decide_eq_false h, beq_eq_false_iff_ne]; omega
end G294
namespace Go.Proofs.YtbfchebnooanjaaDoor
open Go.RowKit G294

set_option maxRecDepth 100000 in
set_option maxHeartbeats 1000000 in
theorem squareMatrix_any (v : Value) (L : Mat) (w : World) (hs : SeenM w v L) : Calls Tryd.prog 93 #[.agg #[v]] w (RetBool w (squareM L)) := by
  have k1 : TurnIn 0 0 w (w.alloc (.cells #[v] 67)) := turn_alloc _ _
  have q1 : (w.alloc (.cells #[v] 67)).cell? ⟨w.heap.size, 0, none⟩ = some v := by simp
  have z1 : (w.alloc (.cells #[v] 67)).heap.size = w.heap.size + 1 := by simp
  have HS := Lib.hid (hs.touch k1)
  obtain ⟨A, cp, rfl, hlc, hcm⟩ := hs.len
  unfold maxLen at hcm
  have K1 := Lib.hid k1
  have Z1 := Lib.hid z1
  by_cases hg : goodM L = true
  · have HG := Lib.hid hg
    obtain ⟨g1, g2, g3, g4, _⟩ := (goodM_iff L).1 hg
    obtain ⟨bb, off, c9, A0, c0, hvv, _, hbb, hrow0, hl2, _⟩ := (show SeenM w (.slice A L.length cp) (mkM L.length (wid L) (ent L)) from (good_eq hg) ▸ hs).rowF 0 (by omega)
    simp only [Value.slice.injEq] at hvv
    obtain ⟨rfl, z9, rfl⟩ := hvv
    clear z9
    rw [Nat.add_zero] at hrow0
    have q2 := cell_turn k1 hrow0 hbb
    have hpos : 0 < L.length := g1
    have HSQ : Hid (squareM L = decide (L.length = wid L)) := by show squareM L = _; unfold squareM; rw [hg]; rfl
    unfold maxLen at hl2
    clear hg hs k1 hrow0 z1
    go_enter Tryd.func93, Tryd.ntmps93
    go_wp2_with fail
    generalize (w.alloc (.cells #[.slice (some ⟨bb, off, none⟩) L.length cp] 67)) = w1 at *
    go_region_held3 (fun w' => w'.cell? ⟨w.heap.size, 0, none⟩ = some (.slice (some ⟨bb, off, none⟩) L.length cp) ∧ w'.cell? ⟨bb, off, none⟩ = some (.slice A0 (wid L) c0))
      (first | exact ⟨q1, q2⟩ | exact ⟨y1, y2⟩)
      ((go_at_call 108; refine (igood_any _ L w1.drew HS.out).mono ?_; rintro e w2 ⟨rfl, ht⟩; rw [HG.out]; have z1 := Z1.out; have y1 := cell_turn ht (show w1.drew.cell? _ = _ from q1) (show _ < w1.heap.size by omega); have y2 := cell_turn ht (show w1.drew.cell? _ = _ from q2) (show _ < w1.heap.size by omega); clear z1))
    all_goals
      go_wp2_with fail
      go_ret
      exact ⟨by rw [HSQ.out, ← int_beq]; rfl, turn_of_below K1.out.to_below.drew ht⟩
  · have HG : Hid (goodM L = false) := by show goodM L = false; simpa using hg
    have HSQ : Hid (squareM L = false) := by show squareM L = false; unfold squareM; rw [HG.out]; rfl
    clear hg hs k1 z1
    go_enter Tryd.func93, Tryd.ntmps93
    go_wp2_with fail
    generalize (w.alloc (.cells #[.slice A L.length cp] 67)) = w1 at *
    have hz1 := Z1.out
    have hcc := grew_cell q1 (by omega)
    have HGG := Lib.hid (fun p : Grew w1 => HG.out ▸ grew_bool (igood_any _ L p.at_ (HS.out.below p.old)))
    clear q1 hz1
    refine wp_region_grew (by kernel_rfl) (by kernel_rfl) ?_
    repeat (first | go_big_quiet_skip | quiet_step ((go_at_call 108; exact HGG.out _)))
    refine wpQuiet_nil ?_
    rintro _ ⟨p, rfl⟩
    go_wp2_with fail
    go_ret
    exact ⟨by rw [HSQ.out]; rfl, turn_of_below K1.out.to_below (TurnIn.of_below p.old)⟩

set_option maxRecDepth 100000 in
set_option maxHeartbeats 1000000 in
theorem rankOf_own (v : Value) (L : Mat) (w : World) (hs : SeenM w v L) (htab : Tab w) (h0 : 0 < w.heap.size) : Calls Tryd.prog 99 #[.agg #[v]] w (RetIntOk w (rankR L) (goodM L)) := by
  have k1 : TurnIn 0 0 w (w.alloc (.cells #[v] 67)) := turn_alloc _ _
  have q1 : (w.alloc (.cells #[v] 67)).cell? ⟨w.heap.size, 0, none⟩ = some v := by simp
  have z1 : (w.alloc (.cells #[v] 67)).heap.size = w.heap.size + 1 := by simp
  have HS := Lib.hid (hs.touch k1)
  obtain ⟨A, cp, rfl, hlc, hcm⟩ := hs.len
  unfold maxLen at hcm
  have K1 := Lib.hid k1
  have Z1 := Lib.hid z1
  have HT := Lib.hid (htab.below k1.to_below h0)
  by_cases hg : goodM L = true
  · have HG := Lib.hid hg
    have HLE := Lib.hid (good_eq hg)
    obtain ⟨g1, g2, g3, g4, _⟩ := (goodM_iff L).1 hg
    obtain ⟨bb, off, c9, A0, c0, hvv, _, hbb, hrow0, hl2, _⟩ := (show SeenM w (.slice A L.length cp) (mkM L.length (wid L) (ent L)) from (good_eq hg) ▸ hs).rowF 0 (by omega)
    simp only [Value.slice.injEq] at hvv
    obtain ⟨rfl, z9, rfl⟩ := hvv
    clear z9
    rw [Nat.add_zero] at hrow0
    have q2 := cell_turn k1 hrow0 hbb
    have hpos : 0 < L.length := g1
    have HR : Hid (rankR L = (est (ent L) L.length (wid L)).2) := if_pos hg
    unfold maxLen at hl2
    clear hg hs k1 hrow0 htab
    go_enter Tryd.func99, Tryd.ntmps99
    go_wp2_with fail
    generalize (w.alloc (.cells #[.slice (some ⟨bb, off, none⟩) L.length cp] 67)) = w1 at *
    refine (igood_any _ L w1 HS.out).mono ?_
    rintro e w2 ⟨rfl, ht⟩
    rw [HG.out]
    have y1 := cell_turn ht q1 (by omega)
    have y2 := cell_turn ht q2 (by omega)
    have s2 := ht.size
    have HS2 := Lib.hid (HS.out.touch ht)
    have K2 := Lib.hid (turn_trans K1.out ht (by omega))
    have HT2 := Lib.hid (HT.out.below ht.to_below (by omega))
    have hz2 : w.heap.size + 1 ≤ w2.heap.size := by omega
    clear ht q1 q2 z1
    go_wp2_with fail
    go_region_held3 (fun w' => w'.cell? ⟨w.heap.size, 0, none⟩ = some (.slice (some ⟨bb, off, none⟩) L.length cp) ∧ w'.cell? ⟨bb, off, none⟩ = some (.slice A0 (wid L) c0))
      (first | exact ⟨y1, y2⟩ | exact ⟨x1, x2⟩ | exact ⟨u1, u2⟩)
      (first
        | (go_at_call 95; refine (fieldGrid_own L.length (wid L) (ent L) _ w2.drew (HLE.out ▸ HS2.out) g1 (by omega) (by omega)).mono ?_; rintro e w3 ⟨v3, vs3, rfl, hM3, ht3⟩; have x1 := cell_turn ht3 (show w2.drew.cell? _ = _ from y1) (show _ < w2.heap.size by omega); have x2 := cell_turn ht3 (show w2.drew.cell? _ = _ from y2) (show _ < w2.heap.size by omega); have s3 : w2.heap.size ≤ w3.heap.size := ht3.size)
        | (go_at_call 110; refine (eliminate_any L.length (wid L) (wid L) _ _ (ent L) v3 vs3 w3 hM3 g1 (Nat.le_refl _) (by omega) (by omega) (HT2.out.below (show Below w2.heap.size w2 w3 from ⟨ht3.os, ht3.tape, ht3.output, ht3.size, fun k hk => ht3.block k hk (by omega)⟩) (by omega)) (show _ < w2.heap.size by omega)).mono ?_; rintro e w4 ⟨vs4, rfl, hM4, hK4⟩; have u1 := (World.cell?_of_block (hK4.block w.heap.size (by omega) (Or.inl (show _ < w2.heap.size by omega)))).trans x1; have u2 := (World.cell?_of_block (hK4.block bb (by omega) (Or.inl (show _ < w2.heap.size by omega)))).trans x2))
    go_wp2_with fail
    go_ret2
    have t3 : TurnIn 0 0 w w3 := turn_trans K2.out (⟨ht3.os, ht3.tape, ht3.output, ht3.size, ht3.block⟩ : TurnIn 0 0 w2 w3) (by omega)
    exact ⟨by rw [HR.out, HG.out]; rfl, turn_trans t3 hK4 (Or.inr (Or.inl (show w.heap.size ≤ w2.heap.size by omega)))⟩
  · have HG : Hid (goodM L = false) := by show goodM L = false; simpa using hg
    have HR : Hid (rankR L = 0) := if_neg hg
    clear hg hs k1 htab z1
    go_enter Tryd.func99, Tryd.ntmps99
    go_wp2_with fail
    refine (igood_any _ L _ HS.out).mono ?_
    rintro e w2 ⟨rfl, ht⟩
    rw [HG.out]
    go_wp2_with fail
    go_ret2
    exact ⟨by rw [HR.out, HG.out]; rfl, turn_of_below K1.out.to_below ht⟩
end Go.Proofs.YtbfchebnooanjaaDoor
