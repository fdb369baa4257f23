/- Joined texts: ShardArgs, SplitMath, JoinMath, Split, SplitI, Join, GoodSh. -/
import Derived.Test.YtlkoafnlklhaeabDoorBd04
import Derived.Test.YtlkoafnlklhaeabDoorBd03
import Derived.Test.YtlkoafnlklhaeabDoorBd01
import Derived.Test.YtlkoafnlklhaeabDoorBd05
import Derived.Test.YtlkoafnlklhaeabDoorBd02
import Derived.Lib.LazyBuf
import Derived.Lib.AppendStr
set_option linter.unusedSimpArgs false
set_option linter.unusedVariables false
/- Shards as arguments: the laws' copies and sizes, and the program's textsOf. -/
namespace G294
open Go Go.RowKit
def sizH (l : List Sh) : Nat := sizM (l.map (·.2))
theorem sizH_take_succ (l : List Sh) (k : Nat) (h : k < l.length) : sizH (l.take (k + 1)) = sizH (l.take k) + l[k].2.length := by
  unfold sizH
  rw [List.map_take, List.map_take, sizM_take_succ _ k (by simpa using h)]
  simp [List.getD, h]
theorem sizH_take_le (l : List Sh) (k : Nat) : sizH (l.take k) ≤ sizH l := by
  unfold sizH
  rw [List.map_take]; exact sizM_take_le _ _
theorem toList_madeCells_shs (n : Nat) : (madeCells #[.int .i64 0, .string ⟨#[]⟩] (n * 2)).toList = shs (List.replicate n ((0 : Int), ([] : List UInt8))) := by
  apply List.ext_getElem?
  intro j
  by_cases hj : j < n * 2
  · rcases Nat.mod_two_eq_zero_or_one j with h | h
    · have e : j = (j / 2) * 2 := by omega
      rw [e, shs_no _ (j / 2) (by simp; omega)]
      simp [madeCells, show j / 2 * 2 < n * 2 by omega]
    · have e : j = (j / 2) * 2 + 1 := by omega
      have h2 : (j / 2 * 2 + 1) % 2 = 1 := by omega
      rw [e, shs_data _ (j / 2) (by simp; omega)]
      simp [madeCells, show j / 2 * 2 + 1 < n * 2 by omega, h2]
      rfl
  · rw [List.getElem?_eq_none (by simp [madeCells]; omega), List.getElem?_eq_none (by simp; omega)]
end G294
namespace Go.Proofs.YtlkoafnlklhaeabDoor
open Go.RowKit G294

set_option maxRecDepth 100000 in
set_option maxHeartbeats 1000000 in
theorem textsOf_own (v : Value) (l : List Sh) (w : World) (hv : SeenH w v l) (hn : l.length ≤ 1048576) : Calls Tryd.prog 60 #[v] w (RetStrs 9 w (l.map (·.2))) := by
  obtain ⟨i0, hi0, hz0, hz1, hz2⟩ := info_parts infoStr
  obtain ⟨A, c, rfl, hlc, hcm, hx⟩ := hv
  unfold maxLen at hcm
  have hlm : (l.map (·.2)).length = l.length := by simp
  generalize hT : l.map (·.2) = T at *
  have HTT := Lib.hid hT
  clear hT
  generalize hnn : l.length = n at *
  have HN := Lib.hid hnn
  have HLM := Lib.hid hlm
  clear hnn hlm
  go_enter Tryd.func60, Tryd.ntmps60
  go_wp2_with (at_make; refine wpList_make_full _ rfl _ _ _ rfl w.heap.size _ i0 _ 1 Tryd.underlying35 hi0 hz0 hz1 _ _ _ _ n rfl rfl rfl rfl ?b2 ?b3 ?b4 ?_)
  case b2 => rw [hz2]; omega
  case b3 => unfold maxLen; omega
  case b4 => exact Nat.le_refl _
  intro w1 hown1 hg1
  have hb1 : Below w.heap.size w w1 := below_of_grown hg1 (Nat.le_refl _) (by simp)
  rw [toList_madeCells_one] at hown1
  have hs1 := (hown1.lt w.heap.size rfl).2
  clear hg1
  go_wp2_with fail
  go_loopw [11] (fun i wr => ∃ k : Nat, k ≤ n ∧ i = .int .i64 k ∧ wr.ownsRow w.heap.size 9 1 (.slice (some ⟨w.heap.size, 0, none⟩) n n) n ((strs T).take k ++ List.replicate (n - k) (.string ⟨#[]⟩)) ∧ Below w.heap.size w wr)
    (fun i _ => n - (intOf i).toNat)
  case atStart => exact ⟨0, Nat.zero_le _, rfl, by simpa using hown1, hb1⟩
  case round =>
    obtain ⟨k, hk, rfl, hown, hb⟩ := hrel
    clear hown1 hb1
    by_cases hlt : k < n
    · obtain ⟨b, off, rfl, hbl, hcell⟩ := hx (by omega)
      obtain ⟨⟨no, s⟩, hks⟩ := at_lt HN.out hlt
      have hc1 := (hb.cell (p := ⟨b, off + k * 2, none⟩) hbl).trans (hcell k _ hks).1
      have hc2 := (hb.cell (p := ⟨b, off + k * 2 + 1, none⟩) hbl).trans (hcell k _ hks).2
      simp only at hc1 hc2
      have hki : (k : Int) < (n : Int) := by omega
      have hTk : (strs T)[k]? = some (.string (str s)) := by
        rw [← HTT.out]; simp [strs, hks]
      have HTK := Lib.hid hTk
      have hwr := (hown.lt w.heap.size rfl).2
      have hown2 := hown.alloc (.cells #[.int .i64 no, .string (str s)] 27)
      have hco : (wr.alloc (.cells #[.int .i64 no, .string (str s)] 27)).cell? ⟨w.heap.size, k, none⟩ = some (.string ⟨#[]⟩) := by
        have ht : ((strs T).take k).length = k := by simp [HLM.out]; omega
        rw [hown2.cellAt k (by omega), List.getElem?_append_right (by omega), ht, Nat.sub_self, List.getElem?_replicate, if_pos (by omega)]
      have hfr := hown2.frozenAt k
      have hst := hown.stored k (.string (str s))
      rw [take_set_next (strs T) _ k _ hTk (by simp [HLM.out]; omega)] at hst
      have hst1 := hst.1.alloc (.cells #[.int .i64 no, .string (str s)] 27)
      have hb2 := (hb.setCell (p := ⟨w.heap.size, k, none⟩) (Nat.le_refl _) (.string (str s))).alloc (by have := hb.size; simp; omega) (.cells #[.int .i64 no, .string (str s)] 27)
      clear hcell hx hown2 hTk
      go_wp2_with fail
      go_roundw
      case rel => exact ⟨k + 1, by omega, by go_num, by simpa [Nat.sub_sub] using hst1, hb2⟩
      case measure => simp [intOf]; omega
    · obtain rfl : k = n := by omega
      have hki : ¬ (k : Int) < (k : Int) := by omega
      go_wp2_with fail
      go_ret
      refine ⟨_, rfl, OwnStrs.of_made ?_, TurnIn.of_below hb⟩
      rw [List.take_of_length_le (by simp [HLM.out]), Nat.sub_self] at hown
      rw [HLM.out]
      simpa using hown

end Go.Proofs.YtlkoafnlklhaeabDoor

/- The mathematics of SplitText and JoinShards. -/
namespace G294
open Go Go.RowKit
/-- the length of a part -/
def partSize (n k : Nat) : Nat := (n + k - 1) / k
def padded (s : List UInt8) (k : Nat) : List UInt8 := s ++ List.replicate (k * partSize s.length k - s.length) 0
def splitP (s : List UInt8) (k : Nat) (i : Nat) : List UInt8 := ((padded s k).drop (i * partSize s.length k)).take (partSize s.length k)
def splitL (s : List UInt8) (k : Nat) : List (List UInt8) := (List.range k).map (splitP s k)
def splitOk (s : List UInt8) (k : Int) : Bool := dataOk k && decide ((s.length : Int) ≤ k * 40)
def splitR (s : List UInt8) (k : Int) : List (List UInt8) := if splitOk s k then splitL s k.toNat else []
theorem partSize_mul (n k : Nat) (hk : 1 ≤ k) : n ≤ k * partSize n k := by
  unfold partSize
  have h := Nat.div_add_mod (n + k - 1) k
  have h2 := Nat.mod_lt (n + k - 1) (show 0 < k by omega)
  omega
theorem partSize_le (n k : Nat) (hk : 1 ≤ k) (h : n ≤ k * 40) : partSize n k ≤ 40 := by
  unfold partSize
  have h1 : n + k - 1 < 41 * k := by omega
  have := (Nat.div_lt_iff_lt_mul (show 0 < k by omega)).2 h1
  omega
theorem padded_length (s : List UInt8) (k : Nat) (hk : 1 ≤ k) : (padded s k).length = k * partSize s.length k := by
  have := partSize_mul s.length k hk
  simp [padded]; omega
theorem splitP_length (s : List UInt8) (k i : Nat) (hk : 1 ≤ k) (hi : i < k) : (splitP s k i).length = partSize s.length k := by
  unfold splitP
  rw [List.length_take, List.length_drop, padded_length s k hk]
  have : (i + 1) * partSize s.length k ≤ k * partSize s.length k := Nat.mul_le_mul_right _ hi
  rw [Nat.add_mul] at this
  omega
@[simp] theorem splitL_length (s : List UInt8) (k : Nat) : (splitL s k).length = k := by simp [splitL]
theorem splitL_succ (s : List UInt8) (k i : Nat) : (List.range (i + 1)).map (splitP s k) = (List.range i).map (splitP s k) ++ [splitP s k i] := by simp [List.range_succ]
theorem extract_str (l : List UInt8) (a b : Nat) : (str l).extract a b = str ((l.drop a).take (b - a)) := by
  apply ByteArray.ext
  rw [ByteArray.data_extract]
  apply Array.ext'
  simp [str]
end G294

/- Texts of one length: equallyLong and l3Texts; the mathematics of JoinShards. -/
namespace G294
open Go Go.RowKit
/-- texts of one length, at most 40 -/
def textsOk (L : List (List UInt8)) : Bool := L.all fun s => decide (s.length = (L.getD 0 []).length ∧ s.length ≤ 40)
theorem textsOk_iff (L : List (List UInt8)) : textsOk L = true ↔ ∀ i (h : i < L.length), L[i].length = (L.getD 0 []).length ∧ L[i].length ≤ 40 := by
  unfold textsOk
  rw [List.all_eq_true]
  constructor
  · intro h i hi
    simpa using h L[i] (List.getElem_mem hi)
  · intro h s hs
    obtain ⟨i, hi, rfl⟩ := List.getElem_of_mem hs
    simpa using h i hi
theorem textsOk_false {L : List (List UInt8)} {i : Nat} (hi : i < L.length) (h : ¬ (L[i].length = (L.getD 0 []).length ∧ L[i].length ≤ 40)) : textsOk L = false := by
  rw [Bool.eq_false_iff]
  intro ht
  exact h ((textsOk_iff L).1 ht i hi)
theorem flatten_const : ∀ (L : List (List UInt8)) (n : Nat), (∀ s ∈ L, s.length = n) → L.flatten.length = L.length * n
  | [], n, _ => by simp
  | a :: L, n, h => by
    have h1 := h a (by simp)
    have ih := flatten_const L n (fun s hs => h s (by simp [hs]))
    simp only [List.flatten_cons, List.length_append, List.length_cons, ih, h1]
    rw [Nat.add_mul]; omega
theorem textsOk_flatten {L : List (List UInt8)} (h : textsOk L = true) : L.flatten.length = L.length * (L.getD 0 []).length := by
  apply flatten_const
  intro s hs
  obtain ⟨i, hi, rfl⟩ := List.getElem_of_mem hs
  exact ((textsOk_iff L).1 h i hi).1
theorem textsOk_first {L : List (List UInt8)} (h : textsOk L = true) : (L.getD 0 []).length ≤ 40 := by
  cases L with
  | nil => simp
  | cons a L => have := ((textsOk_iff _).1 h 0 (by simp)).2; simpa using this
theorem flatten_take_succ (L : List (List UInt8)) (k : Nat) (hk : k < L.length) : (L.take (k + 1)).flatten = (L.take k).flatten ++ L[k] := by
  rw [List.take_succ_eq_append_getElem hk, List.flatten_append]; simp
theorem flatten_take_le (L : List (List UInt8)) (k : Nat) : (L.take k).flatten.length ≤ L.flatten.length := by
  have h : L.flatten = (L.take k).flatten ++ (L.drop k).flatten := by rw [← List.flatten_append, List.take_append_drop]
  rw [h]; simp
def joinOk (L : List (List UInt8)) (z : Int) : Bool := (dataOk L.length && textsOk L) && decide (0 ≤ z ∧ z ≤ L.flatten.length)
def joinR (L : List (List UInt8)) (z : Int) : List UInt8 := if joinOk L z then L.flatten.take z.toNat else []
end G294

/- SplitText: the model's and the program's. -/
namespace Go.Proofs.YtlkoafnlklhaeabDoor
open Go.RowKit G294

set_option maxRecDepth 100000 in
set_option maxHeartbeats 2000000 in
theorem l3Split_own (s : List UInt8) (k : Nat) (w : World) (h1 : 1 ≤ k) (h8 : k ≤ 8) (hs : s.length ≤ k * 40) : Calls Tryd.prog 38 #[.string (str s), .int .i64 k] w (RetStrs 9 w (splitL s k)) := by
  obtain ⟨i0, hi0, hz0, hz1, hz2⟩ := info_parts infoByte
  have hps := partSize_le s.length k h1 hs
  have hpm := partSize_mul s.length k h1
  have HL := Lib.hid (padded_length s k h1)
  have hsz := str_size s
  have hkz : (k : Int) ≠ 0 := by omega
  have hdiv : ((s.length : Int) + (k : Int) - 1) / (k : Int) = ((partSize s.length k : Nat) : Int) := by
    unfold partSize
    have : ((s.length + k - 1 : Nat) : Int) = (s.length : Int) + (k : Int) - 1 := by omega
    rw [Int.natCast_ediv, this]
  obtain ⟨z, hz⟩ : ∃ z, z = partSize s.length k := ⟨_, rfl⟩
  rw [← hz] at hps hpm hdiv
  have HZ := Lib.hid hz
  clear hz
  obtain ⟨n, hn⟩ : ∃ n, n = s.length := ⟨_, rfl⟩
  rw [← hn] at hs hpm hsz hdiv
  have HN := Lib.hid hn
  clear hn
  obtain ⟨kz, hkz'⟩ : ∃ kz, kz = k * z := ⟨_, rfl⟩
  have hkb : kz ≤ 320 := by rw [hkz']; exact Nat.mul_le_mul h8 hps
  have hkm : (k : Int) * (z : Int) = (kz : Int) := by rw [hkz']; exact (Int.natCast_mul k z).symm
  rw [← hkz'] at hpm
  have HKZ := Lib.hid hkz'
  clear hkz'
  have hsub : (kz : Int) - (n : Int) = ((kz - n : Nat) : Int) := by omega
  have hpad : str s ++ str (List.replicate (kz - n) 0) = str (padded s k) := by
    rw [str_append, padded, ← HZ.out, ← HN.out, ← HKZ.out]
  have hpl : (str (padded s k)).size = kz := by rw [str_size, HL.out, ← HZ.out, HKZ.out]
  have hsm : ¬ 9223372036854775807 < n + (str (List.replicate (kz - n) 0)).size := by rw [str_size]; simp; omega
  go_enter Tryd.func38, Tryd.ntmps38
  go_wp2_with (at_make; refine wpList_make_full _ rfl _ _ _ rfl w.heap.size _ i0 _ 1 Tryd.underlying22 hi0 hz0 hz1 _ _ _ _ (kz - n) rfl rfl (by first | rfl | exact hsub) (by first | rfl | exact hsub) ?b2 ?b3 ?b4 ?_)
  case b2 => rw [hz2]; omega
  case b3 => unfold maxLen; omega
  case b4 => exact Nat.le_refl _
  intro w1 hown1 hg1
  have hb1 : Below w.heap.size w w1 := below_of_grown hg1 (Nat.le_refl _) (by simp)
  rw [toList_madeCells_one] at hown1
  have hseen : Seen w1 (.slice (some ⟨w.heap.size, 0, none⟩) (kz - n) (kz - n)) (bys (List.replicate (kz - n) 0)) := by
    have e : bys (List.replicate (kz - n) 0) = List.replicate (kz - n) (.int .u8 0) := by simp [bys, List.map_replicate]
    rw [e]; exact Seen.of_own hown1
  have hconv := run_string_seen (P := Tryd.prog) 22 5 9 Tryd.underlying22 Tryd.underlying5 Tryd.underlying9 hseen
  clear hg1 hown1 hseen
  go_wp2_with fail
  clear hconv hdiv hpad hsub
  go_loopw [6, 7] (fun o i wr => ∃ m : Nat, m ≤ k ∧ i = .int .i64 m ∧ wr.ownsRow w.heap.size 9 1 o m (strs ((List.range m).map (splitP s k))) ∧ Below w.heap.size w wr)
    (fun _ i _ => k - (intOf i).toNat)
  case atStart => exact ⟨0, Nat.zero_le _, rfl, World.ownsRow_nil _ _ _ _, hb1⟩
  case round =>
    obtain ⟨m, hm, rfl, hown, hb⟩ := hrel
    by_cases hlt : m < k
    · have hki : (m : Int) < (k : Int) := by omega
      have hmz1 : (m + 1) * z ≤ k * z := Nat.mul_le_mul_right _ hlt
      obtain ⟨mz, hmz⟩ : ∃ mz, mz = m * z := ⟨_, rfl⟩
      have hm1 : (m + 1) * z = mz + z := by rw [Nat.add_mul, hmz]; omega
      have q1 : (m : Int) * (z : Int) = (mz : Int) := by rw [hmz]; exact (Int.natCast_mul m z).symm
      have q2 : ((m : Int) + 1) * (z : Int) = (mz : Int) + (z : Int) := by rw [Int.add_mul, q1]; omega
      have hle : mz + z ≤ kz := by rw [hm1, ← HKZ.out] at hmz1; exact hmz1
      have hex : (str (padded s k)).extract mz (mz + z) = str (splitP s k m) := by
        rw [extract_str, splitP, ← HZ.out, hmz, Nat.add_sub_cancel_left]
      have HMZ := Lib.hid hmz
      clear hmz hm1 hmz1
      go_wp2_with (at_builtin; refine wpList_append1 rfl _ _ _ rfl w.heap.size 9 _ _ Tryd.underlying35 infoStr rfl _ m _ rfl (hown.alloc _) wr.heap.size (.string (str (splitP s k m))) rfl ?c1 rfl ?c2 ?c3 ?c4 ?_)
      case c1 => simp
      case c2 => omega
      case c3 => omega
      case c4 => have := hb.size; simp; omega
      intro v' w' hown' hg' _
      have hb' : Below w.heap.size w w' := below_append (hb.alloc hb.size _) (hown.alloc _) hg' (Nat.le_refl _) (by have := hb.size; simp; omega)
      have hown2 : w'.ownsRow w.heap.size 9 1 v' (m + 1) (strs ((List.range (m + 1)).map (splitP s k))) := by
        rw [splitL_succ, strs_append]; exact hown'
      clear hown' hg'
      go_wp2_with fail
      go_roundw
      case rel => exact ⟨m + 1, by omega, by go_num, hown2, hb'⟩
      case measure => simp [intOf]; omega
    · obtain rfl : m = k := by omega
      have hki : ¬ (m : Int) < (m : Int) := by omega
      go_wp2_with fail
      go_ret
      exact ⟨_, rfl, OwnStrs.of_made (by simpa [splitL] using hown), TurnIn.of_below hb⟩

set_option maxRecDepth 100000 in
set_option maxHeartbeats 2000000 in
theorem sSplitText_own (s : List UInt8) (k : Int) (w : World) (hn : s.length ≤ 1048576) : Calls Tryd.prog 13 #[.string (str s), .int .i64 k] w (RetStrsOk 9 w (splitR s k) (splitOk s k)) := by
  have hsz := str_size s
  by_cases h : dataOk k = true
  · have HI : Hid (inB k 1 8 = true) := h
    have hb : 1 ≤ k ∧ k ≤ 8 := by simpa [dataOk] using h
    obtain ⟨m, rfl⟩ := Int.eq_ofNat_of_zero_le (show 0 ≤ k by omega)
    by_cases h2 : s.length ≤ m * 40
    · have HO : Hid (splitOk s m = true) := by show splitOk s m = true; simp only [splitOk, h, Bool.true_and, decide_eq_true_eq]; omega
      have HR : Hid (splitR s m = splitL s m) := by show splitR s m = _; unfold splitR; rw [if_pos HO.out]; simp
      have hno : ¬ (m : Int) * 40 < (s.length : Int) := by omega
      have hdc : decide ((m : Int) * 40 < (s.length : Int)) = false := by simpa using hno
      have H2 := Lib.hid h2
      clear h h2
      go_enter Tryd.func13, Tryd.ntmps13
      go_wp2_with fail
      refine (l1In_any _ _ _ _).mono ?_
      rintro e w' ⟨rfl, rfl⟩
      rw [HI.out]
      go_wp2_with fail
      refine (l3Split_own s m _ (by omega) (by omega) H2.out).mono ?_
      rintro e w' ⟨v', rfl, ho, ht⟩
      go_wp2_with fail
      go_ret2
      exact ⟨v', by rw [HO.out]; rfl, by rw [HR.out]; exact ho, ht⟩
    · have HO : Hid (splitOk s m = false) := by show splitOk s m = false; simp only [splitOk, h, Bool.true_and, decide_eq_false_iff_not]; omega
      have HR : Hid (splitR s m = []) := by show splitR s m = _; unfold splitR; rw [if_neg (by rw [HO.out]; simp)]
      have hno : (m : Int) * 40 < (s.length : Int) := by omega
      have hdc : decide ((m : Int) * 40 < (s.length : Int)) = true := by simpa using hno
      clear h h2
      go_enter Tryd.func13, Tryd.ntmps13
      go_wp2_with fail
      refine (l1In_any _ _ _ _).mono ?_
      rintro e w' ⟨rfl, rfl⟩
      rw [HI.out]
      go_wp2_with fail
      go_ret2
      exact ⟨.slice none 0 0, by rw [HO.out]; rfl, by rw [HR.out]; exact OwnStrs.nil _ _ _, TurnIn.refl _⟩
  · have HI : Hid (inB k 1 8 = false) := by show inB k 1 8 = false; simpa [dataOk, inB] using h
    have HO : Hid (splitOk s k = false) := by show splitOk s k = false; simp [splitOk, h]
    have HR : Hid (splitR s k = []) := by show splitR s k = _; unfold splitR; rw [if_neg (by rw [HO.out]; simp)]
    clear h
    go_enter Tryd.func13, Tryd.ntmps13
    go_wp2_with fail
    refine (l1In_any _ _ _ _).mono ?_
    rintro e w' ⟨rfl, rfl⟩
    rw [HI.out]
    go_wp2_with fail
    go_ret2
    exact ⟨.slice none 0 0, by rw [HO.out]; rfl, by rw [HR.out]; exact OwnStrs.nil _ _ _, TurnIn.refl _⟩

end Go.Proofs.YtlkoafnlklhaeabDoor

/- SplitText: the program's. -/
namespace G294
open Go Go.RowKit
theorem own_setCells {base g n cap : Nat} {e : TypeId} : ∀ (vs : List Value) (o : Nat) (w : World) (xs : List Value), w.ownsRow base e 1 (.slice (some ⟨g, 0, none⟩) n cap) n xs → o + vs.length ≤ n →
    (w.setCells g o vs).ownsRow base e 1 (.slice (some ⟨g, 0, none⟩) n cap) n (xs.take o ++ (vs ++ xs.drop (o + vs.length))) ∧ w.grownBy (w.setCells g o vs) (some g)
  | [], o, w, xs, h, hl => ⟨by simpa [World.setCells] using h, World.grownBy.refl _ _⟩
  | v :: r, o, w, xs, h, hl => by
    have hx : xs.length = n := by have := h.1; omega
    have hs := h.stored o v
    have ih := own_setCells r (o + 1) _ _ hs.1 (by simp at hl; omega)
    refine ⟨?_, hs.2.trans ih.2⟩
    have e : xs.take o ++ (v :: r ++ xs.drop (o + (v :: r).length)) = (xs.set o v).take (o + 1) ++ (r ++ (xs.set o v).drop (o + 1 + r.length)) := by
      have ho : o < xs.length := by simp at hl; omega
      rw [List.take_succ_eq_append_getElem (by simpa using ho)]
      simp only [List.getElem_set_self, List.take_set_of_le (Nat.le_refl o), List.append_assoc, List.cons_append, List.nil_append, List.length_cons]
      rw [List.drop_set_of_lt (by omega)]
      congr 4
      omega
    rw [e]
    exact ih.1
/-- copy(dst, s) of a text that is no longer than the row, onto a row of the call's own -/
theorem run_copy_str {P : Program} {w : World} (dT sT ty elem : TypeId) (hu : P.underlying dT = some (.slice elem)) (hsz : ∀ w, (Go.sizeOf elem).run P w = .ok 1 w)
    (base g n cap : Nat) (t : List UInt8) (xs : List Value) (hown : w.ownsRow base elem 1 (.slice (some ⟨g, 0, none⟩) n cap) n xs) (hle : t.length ≤ n) :
    ∃ w', (Builtin.copy_ #[dT, sT] ty #[.slice (some ⟨g, 0, none⟩) n cap, .string (str t)]).run P w = .ok (goInt t.length) w' ∧ w'.ownsRow base elem 1 (.slice (some ⟨g, 0, none⟩) n cap) n (bys t ++ xs.drop t.length) ∧ w.grownBy w' (some g) := by
  have hx : xs.length = n := by have := hown.1; omega
  have hrun := run_copy_string (P := P) w dT sT ty elem g 0 n cap (str t) hu hsz (by rw [str_size]; exact hle) (fun j hj => by
    rw [str_size] at hj
    rw [Nat.zero_add, hown.cellAt j (by omega), List.getElem?_eq_getElem (by omega)]; rfl) (fun j hj => by rw [Nat.zero_add]; exact hown.frozenAt j)
  have hst := own_setCells (bys t) 0 w xs hown (by simpa using hle)
  have hm : ((str t).data.toList.map fun x => Value.int .u8 (x.toNat : Int)) = bys t := by simp [str, bys]
  rw [hm, str_size] at hrun
  exact ⟨_, hrun, by simpa using hst.1, hst.2⟩
/-- a part of a row of bytes -/
theorem seen_part {E : TypeId} {w : World} {lo hi g n cap a z : Nat} {l : List UInt8} (h : OwnBytes E w lo hi (.slice (some ⟨g, 0, none⟩) n cap) l) (hl : l.length = n) (hc : cap ≤ maxLen) (hnc : n ≤ cap) (ha : a + z ≤ n) :
    Seen w (.slice (some ⟨g, a, none⟩) z (cap - a)) (bys ((l.drop a).take z)) := by
  have hlen : ((l.drop a).take z).length = z := by rw [List.length_take, List.length_drop]; omega
  refine ⟨_, cap - a, by rw [bys_length, hlen], by rw [bys_length, hlen]; omega, by omega, fun _ => ⟨g, a, rfl, (h.1.lt g rfl).2, fun i u hu => ?_⟩⟩
  have hi : i < ((l.drop a).take z).length := by have := (List.getElem?_eq_some_iff.1 hu).1; simpa using this
  rw [bys_get _ i hi] at hu
  rw [hlen] at hi
  have hc' := h.1.cells (g := g) rfl (a + i) _ (bys_get l (a + i) (by omega))
  rw [Addr.add_lit, Nat.zero_add] at hc'
  rw [hc', ← hu]
  simp
theorem seen_part0 {w : World} {A : Option Addr} {c : Nat} (hc : c ≤ maxLen) (l : List UInt8) (hl : l = []) : Seen w (.slice A 0 c) (bys l) := by
  subst hl
  exact ⟨A, c, rfl, Nat.zero_le _, hc, fun h => by simp at h⟩
end G294
namespace Go.Proofs.YtlkoafnlklhaeabDoor
open Go.RowKit G294

theorem sizeByte (w : World) : (Go.sizeOf 5).run Tryd.prog w = .ok 1 w := by
  obtain ⟨i0, hi0, hz0, hz1, hz2⟩ := info_parts infoByte
  simp [Go.sizeOf, typeInfo, hi0, hz1]

set_option maxRecDepth 100000 in
set_option maxHeartbeats 2000000 in
theorem splitText_yes (s : List UInt8) (k : Nat) (w : World) (h1 : 1 ≤ k) (h8 : k ≤ 8) (hs : s.length ≤ k * 40) : Calls Tryd.prog 12 #[.string (str s), .int .i64 k] w (RetStrsOk 9 w (splitL s k) true) := by
  obtain ⟨i0, hi0, hz0, hz1, hz2⟩ := info_parts infoByte
  obtain ⟨i1, hi1, hy0, hy1, hy2⟩ := info_parts infoStr
  have hps := partSize_le s.length k h1 hs
  have hpm := partSize_mul s.length k h1
  have HL := Lib.hid (padded_length s k h1)
  have hsz := str_size s
  have HD : Hid (dataOk k = true) := by show dataOk k = true; simp [dataOk]; omega
  have hkz : (k : Int) ≠ 0 := by omega
  have hdiv : ((s.length : Int) + (k : Int) - 1) / (k : Int) = ((partSize s.length k : Nat) : Int) := by
    unfold partSize
    have : ((s.length + k - 1 : Nat) : Int) = (s.length : Int) + (k : Int) - 1 := by omega
    rw [Int.natCast_ediv, this]
  obtain ⟨z, hz⟩ : ∃ z, z = partSize s.length k := ⟨_, rfl⟩
  rw [← hz] at hps hpm hdiv
  have HZ := Lib.hid hz
  clear hz
  obtain ⟨n, hn⟩ : ∃ n, n = s.length := ⟨_, rfl⟩
  rw [← hn] at hs hpm hsz hdiv
  have HN := Lib.hid hn
  clear hn
  obtain ⟨kz, hkz'⟩ : ∃ kz, kz = k * z := ⟨_, rfl⟩
  have hkb : kz ≤ 320 := by rw [hkz']; exact Nat.mul_le_mul h8 hps
  have hkm : (k : Int) * (z : Int) = (kz : Int) := by rw [hkz']; exact (Int.natCast_mul k z).symm
  rw [← hkz'] at hpm
  have HKZ := Lib.hid hkz'
  clear hkz'
  have hno : ¬ (k : Int) * 40 < (n : Int) := by omega
  have hdc : decide ((k : Int) * 40 < (n : Int)) = false := by simpa using hno
  have hpl : (padded s k).length = kz := by rw [HL.out, ← HZ.out, HKZ.out]
  have hpb : bys (padded s k) = bys s ++ List.replicate (kz - n) (.int .u8 0) := by
    rw [padded, ← HZ.out, ← HN.out, ← HKZ.out, bys_append]
    congr 1
    simp [bys, List.map_replicate]
  have HPL := Lib.hid hpl
  have HPB := Lib.hid hpb
  clear hpl hpb
  go_enter Tryd.func12, Tryd.ntmps12
  go_wp2_with fail
  refine (goodDataCount_any _ _).mono ?_
  rintro e w' ⟨rfl, rfl⟩
  rw [HD.out]
  go_wp2_with (at_make; refine wpList_make_full _ rfl _ _ _ rfl w.heap.size _ i0 _ 1 Tryd.underlying22 hi0 hz0 hz1 _ _ _ _ kz rfl rfl rfl rfl ?b2 ?b3 ?b4 ?_)
  case b2 => rw [hz2]; omega
  case b3 => unfold maxLen; omega
  case b4 => exact Nat.le_refl _
  intro w1 hown1 hg1
  have hb1 : Below w.heap.size w w1 := below_of_grown hg1 (Nat.le_refl _) (by simp)
  rw [toList_madeCells_one] at hown1
  obtain ⟨w2, hrun, hown2, hg2⟩ := run_copy_str (P := Tryd.prog) 22 9 3 5 Tryd.underlying22 sizeByte w.heap.size w.heap.size kz kz s _ hown1 (by rw [← HN.out]; exact hpm)
  have hb2 : Below w.heap.size w w2 := hb1.grown hg2 hb1.size (fun g e => by cases e; exact Nat.le_refl _)
  have hsz2 : w.heap.size < w2.heap.size := (hown2.lt w.heap.size rfl).2
  have hP : OwnBytes 5 w2 w.heap.size w2.heap.size (.slice (some ⟨w.heap.size, 0, none⟩) kz kz) (padded s k) := by
    refine ⟨?_, Nat.le_refl _, fun g e => by simp [Value.ownBlock] at e; omega⟩
    rw [HPL.out, HPB.out]
    rw [List.drop_replicate, ← HN.out] at hown2
    exact hown2
  clear hown1 hg1 hg2 hown2 hb1
  go_wp2_with (at_make; refine wpList_make_full _ rfl _ _ _ rfl w2.heap.size _ i1 _ 1 Tryd.underlying35 hi1 hy0 hy1 _ _ _ _ k rfl rfl rfl rfl ?d2 ?d3 ?d4 ?_)
  case d2 => rw [hy2]; omega
  case d3 => unfold maxLen; omega
  case d4 => exact Nat.le_refl _
  intro w3 hown3 hg3
  rw [toList_madeCells_one] at hown3
  have k3 : TurnIn 0 0 w2 w3 := TurnIn.of_grown hg3 (by simp)
  have hb3 : Below w.heap.size w w3 := k3.base hb2 (by omega) (by omega)
  replace hP := hP.keep k3 (by omega)
  have hs3 := k3.size
  obtain ⟨B, hB⟩ : ∃ B, B = w2.heap.size := ⟨_, rfl⟩
  rw [← hB] at hP hown3 ⊢
  rw [← hB] at hsz2 hs3
  clear hg3 hb2 k3 hB
  go_wp2_with fail
  go_loopw [9, 38] (fun _ i wr => ∃ m : Nat, m ≤ k ∧ i = .int .i64 m ∧ wr.ownsRow B 9 1 (.slice (some ⟨B, 0, none⟩) k k) k ((strs (splitL s k)).take m ++ List.replicate (k - m) (.string ⟨#[]⟩)) ∧ OwnBytes 5 wr w.heap.size B (.slice (some ⟨w.heap.size, 0, none⟩) kz kz) (padded s k) ∧ Below w.heap.size w wr)
    (fun _ i _ => k - (intOf i).toNat)
  case atStart => exact ⟨0, Nat.zero_le _, rfl, by simpa using hown3, hP, hb3⟩
  case round =>
    obtain ⟨m, hm, rfl, hown, hPw, hb⟩ := hrel
    clear hown3 hP hb3
    by_cases hlt : m < k
    · have hki : (m : Int) < (k : Int) := by omega
      have hmz1 : (m + 1) * z ≤ k * z := Nat.mul_le_mul_right _ hlt
      obtain ⟨mz, hmz⟩ : ∃ mz, mz = m * z := ⟨_, rfl⟩
      have hm1 : (m + 1) * z = mz + z := by rw [Nat.add_mul, hmz]; omega
      have q1 : (m : Int) * (z : Int) = (mz : Int) := by rw [hmz]; exact (Int.natCast_mul m z).symm
      have q2 : ((m : Int) + 1) * (z : Int) = (mz : Int) + (z : Int) := by rw [Int.add_mul, q1]; omega
      have hle : mz + z ≤ kz := by rw [hm1, ← HKZ.out] at hmz1; exact hmz1
      have HMZ := Lib.hid hmz
      clear hmz hm1 hmz1
      have hsp : splitP s k m = ((padded s k).drop mz).take z := by rw [splitP, ← HZ.out, HMZ.out]
      have hms : m < (splitL s k).length := by simpa using hlt
      have hco : wr.cell? ⟨B, m, none⟩ = some (.string ⟨#[]⟩) := by
        have ht : ((strs (splitL s k)).take m).length = m := by simp; omega
        rw [hown.cellAt m (by omega), List.getElem?_append_right (by omega), ht, Nat.sub_self, List.getElem?_replicate, if_pos (by omega)]
      have hfr := hown.frozenAt m
      have hst := hown.stored m (.string (str (splitP s k m)))
      rw [take_set_next (strs (splitL s k)) _ m _ (by rw [strs_get _ m hms]; simp [splitL]) (by simp; omega)] at hst
      have hPs : OwnBytes 5 (wr.setCell ⟨B, m, none⟩ (.string (str (splitP s k m)))) w.heap.size B (.slice (some ⟨w.heap.size, 0, none⟩) kz kz) (padded s k) := hPw.other hst.2 (fun g e => by simp [Value.ownBlock] at e ⊢; omega)
      have hbs : Below w.heap.size w (wr.setCell ⟨B, m, none⟩ (.string (str (splitP s k m)))) := hb.setCell (Nat.le_of_lt hsz2) _
      by_cases hkm2 : kz = mz
      · have hz0' : z = 0 := by omega
        have hconv := run_string_seen (P := Tryd.prog) 22 5 9 Tryd.underlying22 Tryd.underlying5 Tryd.underlying9 (seen_part0 (w := wr) (A := some ⟨w.heap.size, 0, none⟩) (c := 0) (by unfold maxLen; omega) (splitP s k m) (by rw [hsp, hz0']; simp))
        have hm0 : mz = 0 := by rw [HMZ.out, hz0']; simp
        clear hsp
        subst hz0'
        subst hm0
        subst hkm2
        go_wp2_with fail
        go_roundw
        case rel => exact ⟨m + 1, by omega, by go_num, by simpa [Nat.sub_sub] using hst.1, hPs, hbs⟩
        case measure => simp [intOf]; omega
      · have hconv := run_string_seen (P := Tryd.prog) 22 5 9 Tryd.underlying22 Tryd.underlying5 Tryd.underlying9 (seen_part hPw HPL.out (by unfold maxLen; omega) (Nat.le_refl _) hle)
        rw [← hsp] at hconv
        clear hsp
        go_wp2_with fail
        go_roundw
        case rel => exact ⟨m + 1, by omega, by go_num, by simpa [Nat.sub_sub] using hst.1, hPs, hbs⟩
        case measure => simp [intOf]; omega
    · obtain rfl : m = k := by omega
      have hki : ¬ (m : Int) < (m : Int) := by omega
      go_wp2_with fail
      go_ret2
      refine ⟨_, rfl, ?_, TurnIn.of_below hb⟩
      rw [List.take_of_length_le (by simp), Nat.sub_self] at hown
      exact ⟨by have h := own_base hown (Nat.le_of_lt hsz2); simpa using h, Nat.le_refl _, fun g e => (hown.lt g e).2⟩

set_option maxRecDepth 100000 in
set_option maxHeartbeats 2000000 in
theorem splitText_own (s : List UInt8) (k : Int) (w : World) (hn : s.length ≤ 1048576) : Calls Tryd.prog 12 #[.string (str s), .int .i64 k] w (RetStrsOk 9 w (splitR s k) (splitOk s k)) := by
  have hsz := str_size s
  by_cases h : dataOk k = true
  · have HI : Hid (dataOk k = true) := h
    have hb : 1 ≤ k ∧ k ≤ 8 := by simpa [dataOk] using h
    obtain ⟨m, rfl⟩ := Int.eq_ofNat_of_zero_le (show 0 ≤ k by omega)
    by_cases h2 : s.length ≤ m * 40
    · have HO : splitOk s m = true := by simp only [splitOk, h, Bool.true_and, decide_eq_true_eq]; omega
      have HR : splitR s m = splitL s m := by unfold splitR; rw [if_pos HO]; simp
      rw [HO, HR]
      exact splitText_yes s m w (by omega) (by omega) h2
    · have HO : Hid (splitOk s m = false) := by show splitOk s m = false; simp only [splitOk, h, Bool.true_and, decide_eq_false_iff_not]; omega
      have HR : Hid (splitR s m = []) := by show splitR s m = _; unfold splitR; rw [if_neg (by rw [HO.out]; simp)]
      have hno : (m : Int) * 40 < (s.length : Int) := by omega
      have hdc : decide ((m : Int) * 40 < (s.length : Int)) = true := by simpa using hno
      clear h h2
      go_enter Tryd.func12, Tryd.ntmps12
      go_wp2_with fail
      refine (goodDataCount_any _ _).mono ?_
      rintro e w' ⟨rfl, rfl⟩
      rw [HI.out]
      go_wp2_with fail
      go_ret2
      exact ⟨.slice none 0 0, by rw [HO.out]; rfl, by rw [HR.out]; exact OwnStrs.nil _ _ _, TurnIn.refl _⟩
  · have HI : Hid (dataOk k = false) := by show dataOk k = false; simpa using h
    have HO : Hid (splitOk s k = false) := by show splitOk s k = false; simp [splitOk, h]
    have HR : Hid (splitR s k = []) := by show splitR s k = _; unfold splitR; rw [if_neg (by rw [HO.out]; simp)]
    clear h
    go_enter Tryd.func12, Tryd.ntmps12
    go_wp2_with fail
    refine (goodDataCount_any _ _).mono ?_
    rintro e w' ⟨rfl, rfl⟩
    rw [HI.out]
    go_wp2_with fail
    go_ret2
    exact ⟨.slice none 0 0, by rw [HO.out]; rfl, by rw [HR.out]; exact OwnStrs.nil _ _ _, TurnIn.refl _⟩

end Go.Proofs.YtlkoafnlklhaeabDoor

/- equallyLong, l3Texts; JoinShards: the model's and the program's. -/
namespace Go.Proofs.YtlkoafnlklhaeabDoor
open Go.RowKit G294

set_option maxRecDepth 100000 in
set_option maxHeartbeats 2000000 in
theorem equallyLong_any (v : Value) (L : List (List UInt8)) (w : World) (hv : Seen w v (strs L)) : Calls Tryd.prog 39 #[v] w fun e w' => e = .returned (.bool (textsOk L)) ∧ w = w' := by
  obtain ⟨A, c, rfl, hlc, hcm, hx⟩ := hv
  rw [strs_length] at hlc hx
  simp only [strs_length]
  unfold maxLen at hcm
  generalize hnn : L.length = n at *
  have HN := Lib.hid hnn
  clear hnn
  go_enter Tryd.func39, Tryd.ntmps39
  go_wp2_with fail
  go_loop [7] (fun i => ∃ k : Nat, k ≤ n ∧ i = .int .i64 k ∧ Hid (∀ i (h : i < L.length), i < k → L[i].length = (L.getD 0 []).length ∧ L[i].length ≤ 40)) (fun i => n - (intOf i).toNat)
  case atStart => exact ⟨0, Nat.zero_le _, rfl, fun i h h' => by omega⟩
  case round =>
    obtain ⟨k, hk, rfl, HE⟩ := hrel
    by_cases hlt : k < n
    · have hki : (k : Int) < (n : Int) := by omega
      have hkl : k < L.length := by rw [HN.out]; exact hlt
      obtain ⟨b, off, rfl, hbl, hcell⟩ := hx (by omega)
      have hcx := hcell k _ (strs_get L k hkl)
      have hc0 := hcell 0 _ (strs_get L 0 (by omega))
      rw [Nat.add_zero] at hc0
      have hsk := str_size L[k]
      have hs0 := str_size (L[0]'(by omega))
      have HG : Hid (L.getD 0 [] = L[0]'(by omega)) := by show _ = _; simp [List.getD, show 0 < L.length by omega]
      clear hcell hx
      by_cases h40 : L[k].length ≤ 40
      · by_cases heq : L[k].length = (L[0]'(by omega)).length
        · have HK : Hid (∀ i (h : i < L.length), i < k + 1 → L[i].length = (L.getD 0 []).length ∧ L[i].length ≤ 40) := fun i h h' => by
            rcases Nat.lt_or_ge i k with h2 | h2
            · exact HE.out i h h2
            · obtain rfl : i = k := by omega
              rw [HG.out]; exact ⟨heq, h40⟩
          generalize hnk : L[k].length = nk at *
          generalize hn0 : (L[0]'(by omega)).length = n0 at *
          subst heq
          have t1 : decide ((40 : Int) < (nk : Int)) = false := by simp; omega
          have t2 : ((nk : Int) != (nk : Int)) = false := by simp
          go_wp2_with fail
          go_round
          case rel => exact ⟨k + 1, by omega, by go_num, HK⟩
          case measure => simp [intOf]; omega
        · have HF : Hid (textsOk L = false) := textsOk_false hkl (by rw [HG.out]; omega)
          generalize hnk : L[k].length = nk at *
          generalize hn0 : (L[0]'(by omega)).length = n0 at *
          have t1 : decide ((40 : Int) < (nk : Int)) = false := by simp; omega
          have t2 : ((nk : Int) != (n0 : Int)) = true := by simp; omega
          go_wp2_with fail
          go_ret
          exact ⟨by rw [HF.out]; rfl, rfl⟩
      · have HF : Hid (textsOk L = false) := textsOk_false hkl (by omega)
        generalize hnk : L[k].length = nk at *
        have t1 : decide ((40 : Int) < (nk : Int)) = true := by simp; omega
        go_wp2_with fail
        go_ret
        exact ⟨by rw [HF.out]; rfl, rfl⟩
    · obtain rfl : k = n := by omega
      have hki : ¬ (k : Int) < (k : Int) := by omega
      have HF : Hid (textsOk L = true) := (textsOk_iff L).2 fun i h => HE.out i h (by rw [HN.out] at h; exact h)
      go_wp2_with fail
      go_ret
      exact ⟨by rw [HF.out]; rfl, rfl⟩

set_option maxRecDepth 100000 in
set_option maxHeartbeats 2000000 in
theorem l3Texts_any (v : Value) (L : List (List UInt8)) (w : World) (hv : Seen w v (strs L)) : Calls Tryd.prog 44 #[v] w fun e w' => e = .returned (.bool (textsOk L)) ∧ w = w' := by
  obtain ⟨A, c, rfl, hlc, hcm, hx⟩ := hv
  rw [strs_length] at hlc hx
  simp only [strs_length]
  unfold maxLen at hcm
  generalize hnn : L.length = n at *
  have HN := Lib.hid hnn
  clear hnn
  go_enter Tryd.func44, Tryd.ntmps44
  go_wp2_with fail
  go_loop [7] (fun i => ∃ k : Nat, k ≤ n ∧ i = .int .i64 k ∧ Hid (∀ i (h : i < L.length), i < k → L[i].length = (L.getD 0 []).length ∧ L[i].length ≤ 40)) (fun i => n - (intOf i).toNat)
  case atStart => exact ⟨0, Nat.zero_le _, rfl, fun i h h' => by omega⟩
  case round =>
    obtain ⟨k, hk, rfl, HE⟩ := hrel
    by_cases hlt : k < n
    · have hki : (k : Int) < (n : Int) := by omega
      have hkl : k < L.length := by rw [HN.out]; exact hlt
      obtain ⟨b, off, rfl, hbl, hcell⟩ := hx (by omega)
      have hcx := hcell k _ (strs_get L k hkl)
      have hc0 := hcell 0 _ (strs_get L 0 (by omega))
      rw [Nat.add_zero] at hc0
      have hsk := str_size L[k]
      have hs0 := str_size (L[0]'(by omega))
      have HG : Hid (L.getD 0 [] = L[0]'(by omega)) := by show _ = _; simp [List.getD, show 0 < L.length by omega]
      clear hcell hx
      by_cases heq : L[k].length = (L[0]'(by omega)).length
      · by_cases h40 : L[k].length ≤ 40
        · have HK : Hid (∀ i (h : i < L.length), i < k + 1 → L[i].length = (L.getD 0 []).length ∧ L[i].length ≤ 40) := fun i h h' => by
            rcases Nat.lt_or_ge i k with h2 | h2
            · exact HE.out i h h2
            · obtain rfl : i = k := by omega
              rw [HG.out]; exact ⟨heq, h40⟩
          generalize hnk : L[k].length = nk at *
          generalize hn0 : (L[0]'(by omega)).length = n0 at *
          subst heq
          have t1 : decide ((40 : Int) < (nk : Int)) = false := by simp; omega
          have t2 : ((nk : Int) != (nk : Int)) = false := by simp
          go_wp2_with fail
          go_round
          case rel => exact ⟨k + 1, by omega, by go_num, HK⟩
          case measure => simp [intOf]; omega
        · have HF : Hid (textsOk L = false) := textsOk_false hkl (by omega)
          generalize hnk : L[k].length = nk at *
          generalize hn0 : (L[0]'(by omega)).length = n0 at *
          subst heq
          have t1 : decide ((40 : Int) < (nk : Int)) = true := by simp; omega
          have t2 : ((nk : Int) != (nk : Int)) = false := by simp
          go_wp2_with fail
          go_ret
          exact ⟨by rw [HF.out]; rfl, rfl⟩
      · have HF : Hid (textsOk L = false) := textsOk_false hkl (by rw [HG.out]; omega)
        generalize hnk : L[k].length = nk at *
        generalize hn0 : (L[0]'(by omega)).length = n0 at *
        have t2 : ((nk : Int) != (n0 : Int)) = true := by simp; omega
        go_wp2_with fail
        go_ret
        exact ⟨by rw [HF.out]; rfl, rfl⟩
    · obtain rfl : k = n := by omega
      have hki : ¬ (k : Int) < (k : Int) := by omega
      have HF : Hid (textsOk L = true) := (textsOk_iff L).2 fun i h => HE.out i h (by rw [HN.out] at h; exact h)
      go_wp2_with fail
      go_ret
      exact ⟨by rw [HF.out]; rfl, rfl⟩

end Go.Proofs.YtlkoafnlklhaeabDoor

/- Valid shards: the program's goodShards, the model's l3Shards; the model's l3All. -/
namespace G294
open Go Go.RowKit
/-- the number of the last of the first k -/
def lastNo (l : List Sh) : Nat → Int
  | 0 => -1
  | k + 1 => (l.getD k (0, [])).1
/-- the numbers rise strictly from 0 on and stay below n -/
def risesN (n : Int) (l : List Sh) : Bool := (List.range l.length).all fun i => decide (lastNo l i < (l.getD i (0, [])).1 ∧ (l.getD i (0, [])).1 < n)
def shardsOk (l : List Sh) (n : Int) : Bool := risesN n l && textsOk (l.map (·.2))
theorem rises_at (n : Int) (l : List Sh) : risesN n l = true ↔ ∀ (i : Nat) (s : Sh), l[i]? = some s → lastNo l i < s.1 ∧ s.1 < n := by
  unfold risesN
  rw [List.all_eq_true]
  constructor
  · intro h i s hi
    have hl := (List.getElem?_eq_some_iff.1 hi).1
    have h3 := h i (List.mem_range.2 hl)
    rw [decide_eq_true_eq] at h3
    have e : l.getD i (0, []) = s := by simp [List.getD, hi]
    rw [e] at h3
    exact h3
  · intro h i hi
    have hl := List.mem_range.1 hi
    have e : l.getD i (0, []) = l[i] := by simp [List.getD, hl]
    rw [decide_eq_true_eq, e]
    exact h i l[i] (List.getElem?_eq_getElem hl)
theorem rises_false {n : Int} {l : List Sh} {i : Nat} {s : Sh} (hi : l[i]? = some s) (h : ¬ (lastNo l i < s.1 ∧ s.1 < n)) : risesN n l = false := by
  rw [Bool.eq_false_iff]
  intro ht
  exact h ((rises_at n l).1 ht i s hi)
theorem lastNo_succ {l : List Sh} {k : Nat} {s : Sh} (h : l[k]? = some s) : lastNo l (k + 1) = s.1 := by simp [lastNo, List.getD, h]
theorem all_ints (n : Nat) : (List.range (n + 1)).map (fun i : Nat => (i : Int)) = (List.range n).map (fun i : Nat => (i : Int)) ++ [(n : Int)] := by simp [List.range_succ]
end G294
namespace Go.Proofs.YtlkoafnlklhaeabDoor
open Go.RowKit G294

set_option maxRecDepth 100000 in
set_option maxHeartbeats 2000000 in
theorem goodShards_any (v : Value) (l : List Sh) (m : Int) (w : World) (hv : SeenH w v l) (hn : l.length ≤ 1048576) : Calls Tryd.prog 45 #[v, .int .i64 m] w (RetBool w (shardsOk l m)) := by
  have HV := Lib.hid hv
  obtain ⟨A, c, rfl, hlc, hcm, hx⟩ := hv
  unfold maxLen at hcm
  generalize hnn : l.length = n at *
  have HN := Lib.hid hnn
  clear hnn
  go_enter Tryd.func45, Tryd.ntmps45
  go_wp2_with fail
  go_loopw [5, 10] (fun q i wr => ∃ (k : Nat) (la : Int), k ≤ n ∧ i = .int .i64 k ∧ q = .int .i64 la ∧ Hid (la = lastNo l k) ∧ Hid (∀ j s, l[j]? = some s → j < k → lastNo l j < s.1 ∧ s.1 < m) ∧ Below w.heap.size w wr)
    (fun _ i _ => n - (intOf i).toNat)
  case atStart => exact ⟨0, -1, Nat.zero_le _, rfl, rfl, Eq.refl (-1 : Int), (fun j s hj h => by omega), Below.refl _ _⟩
  case round =>
    obtain ⟨k, la, hk, rfl, rfl, HLA, HE, hb⟩ := hrel
    by_cases hlt : k < n
    · obtain ⟨b, off, rfl, hbl, hcell⟩ := hx (by omega)
      obtain ⟨⟨no, s⟩, hks⟩ := at_lt HN.out hlt
      have hc1 := (hb.cell (p := ⟨b, off + k * 2, none⟩) hbl).trans (hcell k _ hks).1
      have hc2 := (hb.cell (p := ⟨b, off + k * 2 + 1, none⟩) hbl).trans (hcell k _ hks).2
      simp only at hc1 hc2
      have hki : (k : Int) < (n : Int) := by omega
      have hb2 := hb.alloc hb.size (.cells #[.int .i64 no, .string (str s)] 27)
      have HLN : Hid (no = lastNo l (k + 1)) := (lastNo_succ hks).symm
      clear hcell hx
      by_cases h1 : la < no
      · have t1 : decide (no ≤ la) = false := by simp; omega
        by_cases h2 : no < m
        · have t2 : decide (m ≤ no) = false := by simp; omega
          have HK : Hid (∀ j s, l[j]? = some s → j < k + 1 → lastNo l j < s.1 ∧ s.1 < m) := fun j s' hj h => by
            rcases Nat.lt_or_ge j k with h' | h'
            · exact HE.out j s' hj h'
            · obtain rfl : j = k := by omega
              obtain rfl : (no, s) = s' := Option.some.inj (hks.symm.trans hj)
              rw [← HLA.out]; exact ⟨h1, h2⟩
          clear hks
          go_wp2_with fail
          go_roundw
          case rel => exact ⟨k + 1, no, by omega, by go_num, rfl, HLN, HK, hb2⟩
          case measure => simp [intOf]; omega
        · have t2 : decide (m ≤ no) = true := by simp; omega
          have HF : Hid (shardsOk l m = false) := by show shardsOk l m = false; rw [shardsOk, rises_false hks (by simp only; omega)]; rfl
          clear hks
          go_wp2_with fail
          go_ret
          exact ⟨by rw [HF.out]; rfl, TurnIn.of_below hb2⟩
      · have t1 : decide (no ≤ la) = true := by simp; omega
        have HF : Hid (shardsOk l m = false) := by show shardsOk l m = false; rw [shardsOk, rises_false hks (by rw [← HLA.out]; simp only; omega)]; rfl
        clear hks
        go_wp2_with fail
        go_ret
        exact ⟨by rw [HF.out]; rfl, TurnIn.of_below hb2⟩
    · obtain rfl : k = n := by omega
      have hki : ¬ (k : Int) < (k : Int) := by omega
      have HR : Hid (shardsOk l m = textsOk (l.map (·.2))) := by
        show _ = _
        rw [shardsOk, (rises_at m l).2 (fun j s hj => HE.out j s hj (by have := (List.getElem?_eq_some_iff.1 hj).1; rw [HN.out] at this; exact this))]; rfl
      have hbs := hb.size
      go_wp2_with fail
      refine (textsOf_own _ l _ (HV.out.below hb) (by rw [HN.out]; exact hn)).mono ?_
      rintro e w2 ⟨v2, rfl, hO, k2⟩
      have HO := Lib.hid hO
      clear hO
      go_wp2_with fail
      refine (equallyLong_any _ _ _ HO.out.seen).mono ?_
      rintro e w' ⟨rfl, rfl⟩
      go_wp2_with fail
      go_ret
      exact ⟨by rw [HR.out]; rfl, TurnIn.of_below (k2.base hb (by omega) (by omega))⟩

set_option maxRecDepth 100000 in
set_option maxHeartbeats 1000000 in
theorem l3All_own (n : Nat) (w : World) (hn : n ≤ 1000) : Calls Tryd.prog 71 #[.int .i64 n] w (RetInts 3 w ((List.range n).map fun i : Nat => (i : Int))) := by
  go_enter Tryd.func71, Tryd.ntmps71
  go_wp2_with fail
  go_loopw [3, 4] (fun o i wr => ∃ k : Nat, k ≤ n ∧ i = .int .i64 k ∧ wr.ownsRow w.heap.size 3 1 o k (ints ((List.range k).map fun i : Nat => (i : Int))) ∧ Below w.heap.size w wr)
    (fun _ i _ => n - (intOf i).toNat)
  case atStart => exact ⟨0, Nat.zero_le _, rfl, World.ownsRow_nil _ _ _ _, Below.refl _ _⟩
  case round =>
    obtain ⟨k, hk, rfl, hown, hb⟩ := hrel
    by_cases hlt : k < n
    · have hki : (k : Int) < (n : Int) := by omega
      have hbs := hb.size
      go_wp2_with (at_builtin; refine wpList_append1 rfl _ _ _ rfl w.heap.size 3 _ _ Tryd.underlying47 infoInt rfl _ k _ rfl (hown.alloc _) wr.heap.size (.int .i64 k) rfl ?c1 rfl ?c2 ?c3 ?c4 ?_)
      case c1 => simp
      case c2 => omega
      case c3 => omega
      case c4 => simp; omega
      intro v' w' hown' hg' _
      have hb' : Below w.heap.size w w' := below_append (hb.alloc hb.size _) (hown.alloc _) hg' (Nat.le_refl _) (by simp; omega)
      have hown2 : w'.ownsRow w.heap.size 3 1 v' (k + 1) (ints ((List.range (k + 1)).map fun i : Nat => (i : Int))) := by
        rw [all_ints, ints_append]; exact hown'
      clear hown' hg'
      go_wp2_with fail
      go_roundw
      case rel => exact ⟨k + 1, by omega, by go_num, hown2, hb'⟩
      case measure => simp [intOf]; omega
    · obtain rfl : k = n := by omega
      have hki : ¬ (k : Int) < (k : Int) := by omega
      go_wp2_with fail
      go_ret
      exact ⟨_, rfl, OwnInts.of_made (by simpa using hown), TurnIn.of_below hb⟩

end Go.Proofs.YtlkoafnlklhaeabDoor
