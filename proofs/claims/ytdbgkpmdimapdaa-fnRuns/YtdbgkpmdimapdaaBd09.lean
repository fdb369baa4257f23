/- Joined texts: UnpX. -/
import Derived.Test.YtdbgkpmdimapdaaBd07
import Derived.Test.YtdbgkpmdimapdaaBd05
import Derived.Test.YtdbgkpmdimapdaaBd06
import Derived.Test.YtdbgkpmdimapdaaBd08
set_option linter.unusedSimpArgs false
set_option linter.unusedVariables false
/- Chapter 12: UnpackRuns, the program's and the model's. -/
namespace G294
open Go Go.RowKit
def strLen : Value → Nat
  | .string b => b.size
  | _ => 0
def unpOk (s : List UInt8) : Bool := (unpOf s).isSome
def unpR (s : List UInt8) : List Ru := (unpOf s).getD []
theorem unpR_len (s : List UInt8) : (unpR s).length ≤ 200 := by
  unfold unpR
  cases h : unpOf s with
  | none => simp
  | some l =>
    have := good_sum (unpOf_spec h).1
    simp only [Option.getD_some]; omega
theorem unp_none {s : List UInt8} (h : unpOf s = none) : unpR s = [] ∧ unpOk s = false := by simp [unpR, unpOk, h]
theorem unp_some {s : List UInt8} {l : List Ru} (h : unpOf s = some l) : unpR s = l ∧ unpOk s = true := by simp [unpR, unpOk, h]
theorem unp_next {s : List UInt8} {out : List Ru} {k k' : Nat} {r : Ru} (h1 : unpL out (s.drop k) = unpL [] s) (h2 : pkOf out = s.take k) (h3 : ∀ q ∈ out, 1 ≤ q.2) (hf : fstRun (s.drop k) = some (r, s.drop k')) :
    unpL (out ++ [r]) (s.drop k') = unpL [] s ∧ pkOf (out ++ [r]) = s.take k' ∧ ∀ q ∈ out ++ [r], 1 ≤ q.2 := by
  have e := (fstRun_one hf).2.2
  refine ⟨by rw [← h1, unpL_some hf], ?_, ?_⟩
  · rw [pkOf_snoc, h2]
    apply List.append_cancel_right (bs := s.drop k')
    rw [List.append_assoc, e, List.take_append_drop, List.take_append_drop]
  · intro q hq
    rcases List.mem_append.1 hq with h | h
    · exact h3 q h
    · rw [List.mem_singleton.1 h]; exact (fstRun_one hf).1
theorem getD_dropU {l : List UInt8} {k i : Nat} : (l.drop k).getD i 0 = l.getD (k + i) 0 := by simp [List.getD, List.getElem?_drop]
theorem fst_at1 {s : List UInt8} {k : Nat} (h : k + 1 = s.length) : fstRun (s.drop k) = some ((s.getD k 0, 1), s.drop (k + 1)) := by
  have := fst_one' (s := s.drop k) (by simp; omega)
  rwa [getD_dropU, List.drop_drop] at this
theorem fst_at2 {s : List UInt8} {k : Nat} (h : k + 2 ≤ s.length) (hn : s.getD (k + 1) 0 ≠ s.getD k 0) : fstRun (s.drop k) = some ((s.getD k 0, 1), s.drop (k + 1)) := by
  have := fst_new (s := s.drop k) (by simp; omega) (by rw [getD_dropU, getD_dropU]; exact hn)
  rwa [getD_dropU, List.drop_drop] at this
theorem fst_at3 {s : List UInt8} {k : Nat} (h : k + 2 = s.length) (hn : s.getD (k + 1) 0 = s.getD k 0) : fstRun (s.drop k) = none :=
  fst_short (s := s.drop k) (by simp; omega) (by rw [getD_dropU, getD_dropU]; exact hn)
theorem fst_at4 {s : List UInt8} {k : Nat} (h : k + 3 ≤ s.length) (hn : s.getD (k + 1) 0 = s.getD k 0) : fstRun (s.drop k) = some ((s.getD k 0, ((s.getD (k + 2) 0).toNat : Int) + 2), s.drop (k + 3)) := by
  have := fst_long (s := s.drop k) (by simp; omega) (by rw [getD_dropU, getD_dropU]; exact hn)
  rwa [getD_dropU, getD_dropU, List.drop_drop] at this
theorem alloc_at0 {W : World} {g : Nat} (hg : W.heap.size = g) (u v : Value) (T : TypeId) : (W.alloc (.cells #[u, v] T)).cell? ⟨g, 0, none⟩ = some u := by subst hg; simp
theorem alloc_at1 {W : World} {g : Nat} (hg : W.heap.size = g) (u v : Value) (T : TypeId) : (W.alloc (.cells #[u, v] T)).cell? ⟨g, 1, none⟩ = some v := by subst hg; simp
theorem drop_ne {s : List UInt8} {k : Nat} (h : k < s.length) : s.drop k ≠ [] := by
  intro e
  have := congrArg List.length e
  simp at this
  omega
theorem str_empty (s : List UInt8) : (str s).toList.isEmpty = decide (s.length = 0) := by
  rw [str_toList]
  cases s with
  | nil => rfl
  | cons a s => simp
end G294
namespace Go.Proofs.Ytdbgkpmdimapdaa
open Go.RowKit G294

set_option maxRecDepth 100000 in
set_option maxHeartbeats 4000000 in
theorem unpackRuns_own (s : List UInt8) (w : World) (hs : s.length ≤ 1000000000000) : Calls Try.prog 42 #[.string (str s)] w (RetRusOk 86 w (unpR s) (unpOk s)) := by
  have HRN := Lib.hid (fun h => @unp_none s h)
  have HRS := Lib.hid (fun l h => @unp_some s l h)
  have HBAD := Lib.hid (fun out t h hb => @unpOf_bad s out t h hb)
  have HFAIL := Lib.hid (fun out t h h0 hf => @unpOf_fail s out t h h0 hf)
  have HEND := Lib.hid (fun out h hg => @unpOf_end s out h hg)
  have HOW0 : Hid (w.ownsRow w.heap.size 86 2 (.slice none 0 0) ([] : List Ru).length (rus [])) := by
    show World.ownsRow _ _ _ _ _ _ _
    exact World.ownsRow_nil _ _ _ _
  generalize hR : unpR s = R at *
  generalize hB : unpOk s = B at *
  have HG0 : Hid (goodRs ([] : List Ru) = true) := Lib.hid rfl
  have HSE := Lib.hid str_empty
  generalize hnn : s.length = n at *
  clear hR hB
  go_enter Try.func42, Try.ntmps42
  go_wp2_with fail
  go_loopw [0, 4] (fun q v wr => ∃ (t : List UInt8) (out : List Ru), q = .string (str t) ∧ t.length ≤ n ∧ Hid (unpL out t = unpL [] s) ∧ Hid (goodRs out = true) ∧ Hid (wr.ownsRow w.heap.size 86 2 v out.length (rus out)) ∧ Hid (TurnIn 0 0 w wr)) (fun q _ _ => strLen q)
  case atStart => exact ⟨s, [], rfl, by omega, Lib.hid rfl, HG0, HOW0, Lib.hid (TurnIn.refl _)⟩
  case round =>
    clear HOW0 HG0
    obtain ⟨t, out, rfl, htn, HU, HGD, HBr, HK⟩ := hrel
    have hwr := HK.out.size
    have hol : out.length ≤ 200 := by have := good_sum HGD.out; omega
    by_cases ht : 0 < t.length
    · have he := HSE.out t
      rw [decide_eq_false (by omega)] at he
      have HTN : Hid (t ≠ []) := Lib.hid (by rintro rfl; simp at ht)
      have HFC := Lib.hid (fun W => firstRun_own t W ht (by omega))
      cases hf : fstRun t with
      | none =>
        obtain ⟨b, y, hV⟩ : ∃ (b : UInt8) (y : Int), fstV t = .tuple #[.agg #[.int .u8 (b.toNat : Int), .int .i64 y], .string (str []), .bool false] := ⟨0, 0, fstV_none hf⟩
        rw [hV] at HFC
        have HF := Lib.hid hf
        clear hf hV
        go_wp2_with fail
        refine (HFC.out _).mono ?_
        rintro e w1 ⟨rfl, k1⟩
        have HO2 := Lib.hid ((owns_turn0 HBr.out k1).alloc (.cells #[.int .u8 (b.toNat : Int), .int .i64 y] 86) |>.alloc (.cells #[.int .u8 (b.toNat : Int), .int .i64 y] 86))
        have KA := Lib.hid (turn_trans (turn_trans (turn_trans HK.out k1 (by omega)) (turn_alloc w1 (.cells #[.int .u8 (b.toNat : Int), .int .i64 y] 86)) (by omega)) (turn_alloc _ (.cells #[.int .u8 (b.toNat : Int), .int .i64 y] 86)) (by omega))
        have hw1 := k1.size
        clear HBr k1
        go_wp2_with (at_builtin; refine wpList_appendRu rfl _ _ _ rfl w.heap.size 86 _ _ Try.underlying44 infoRun rfl _ _ _ rfl HO2.out _ b y rfl ?c0 ?c1 ?c2 ?c3 ?c4 ?_)
        case c0 => exact alloc_at0 (by first | rfl | (simp; done) | (simp [World.setCell]; done)) _ _ _
        case c1 => exact alloc_at1 (by first | rfl | (simp; done) | (simp [World.setCell]; done)) _ _ _
        case c2 => first | (simp; done) | omega
        case c3 => omega
        case c4 => simp; omega
        intro v' w3 hown3 hg3 _
        have hown3 : w3.ownsRow w.heap.size 86 2 v' (out.length + 1) (rus (out ++ [(b, y)])) := hown3
        have K3 := Lib.hid (growTz KA.out hg3 (fun g e => (HO2.out.lt g e).1))
        have HO3 : Hid (w3.ownsRow w.heap.size 86 2 v' (out ++ [(b, y)]).length (rus (out ++ [(b, y)]))) := by
          show World.ownsRow _ _ _ _ _ _ _
          rw [List.length_append]; exact hown3
        have HS3 := Lib.hid (OwnRu.seen (E := 86) (w := w3) (lo := w.heap.size) (hi := w3.heap.size) ⟨HO3.out, Nat.le_refl _, fun g e => (HO3.out.lt g e).2⟩)
        have hw3 := K3.out.size
        clear hown3 hg3 HO2 KA
        go_wp2_with fail
        go_ret2
        obtain ⟨rfl, rfl⟩ := HRN.out (HFAIL.out out t HU.out HTN.out HF.out)
        exact ⟨_, rfl, OwnRu.nil _ _ _, K3.out⟩
      | some q =>
        obtain ⟨⟨b, y⟩, t'⟩ := q
        rw [fstV_some hf] at HFC
        have HLT := fstRun_less hf
        have HU2 : Hid (unpL (out ++ [(b, y)]) t' = unpL [] s) := by
          show _ = _
          rw [← HU.out, unpL_some hf]
        have hsz' := str_size t'
        have hsz := str_size t
        clear hf
        go_wp2_with fail
        refine (HFC.out _).mono ?_
        rintro e w1 ⟨rfl, k1⟩
        have HO2 := Lib.hid ((owns_turn0 HBr.out k1).alloc (.cells #[.int .u8 (b.toNat : Int), .int .i64 y] 86) |>.alloc (.cells #[.int .u8 (b.toNat : Int), .int .i64 y] 86))
        have KA := Lib.hid (turn_trans (turn_trans (turn_trans HK.out k1 (by omega)) (turn_alloc w1 (.cells #[.int .u8 (b.toNat : Int), .int .i64 y] 86)) (by omega)) (turn_alloc _ (.cells #[.int .u8 (b.toNat : Int), .int .i64 y] 86)) (by omega))
        have hw1 := k1.size
        clear HBr k1
        go_wp2_with (at_builtin; refine wpList_appendRu rfl _ _ _ rfl w.heap.size 86 _ _ Try.underlying44 infoRun rfl _ _ _ rfl HO2.out _ b y rfl ?c0 ?c1 ?c2 ?c3 ?c4 ?_)
        case c0 => exact alloc_at0 (by first | rfl | (simp; done) | (simp [World.setCell]; done)) _ _ _
        case c1 => exact alloc_at1 (by first | rfl | (simp; done) | (simp [World.setCell]; done)) _ _ _
        case c2 => first | (simp; done) | omega
        case c3 => omega
        case c4 => simp; omega
        intro v' w3 hown3 hg3 _
        have hown3 : w3.ownsRow w.heap.size 86 2 v' (out.length + 1) (rus (out ++ [(b, y)])) := hown3
        have K3 := Lib.hid (growTz KA.out hg3 (fun g e => (HO2.out.lt g e).1))
        have HO3 : Hid (w3.ownsRow w.heap.size 86 2 v' (out ++ [(b, y)]).length (rus (out ++ [(b, y)]))) := by
          show World.ownsRow _ _ _ _ _ _ _
          rw [List.length_append]; exact hown3
        have HS3 := Lib.hid (OwnRu.seen (E := 86) (w := w3) (lo := w.heap.size) (hi := w3.heap.size) ⟨HO3.out, Nat.le_refl _, fun g e => (HO3.out.lt g e).2⟩)
        have hw3 := K3.out.size
        clear hown3 hg3 HO2 KA
        by_cases hg : goodRs (out ++ [(b, y)]) = true
        · have HGC := Lib.hid (fun W h => goodRuns_own v' (out ++ [(b, y)]) W h)
          rw [hg] at HGC
          go_wp2_with fail
          refine (HGC.out _ HS3.out).mono ?_
          rintro e w4 ⟨rfl, k4⟩
          have HO4 := Lib.hid (owns_turn0 HO3.out k4)
          have K4 := Lib.hid (turn_trans K3.out k4 (by omega))
          clear k4 HO3 HS3
          go_wp2_with fail
          go_roundw
          case rel => exact ⟨t', out ++ [(b, y)], rfl, by omega, HU2, Lib.hid hg, HO4, K4⟩
          case measure => simp only [strLen]; omega
        · have HGC := Lib.hid (fun W h => goodRuns_own v' (out ++ [(b, y)]) W h)
          have hg' : goodRs (out ++ [(b, y)]) = false := by simpa using hg
          rw [hg'] at HGC
          go_wp2_with fail
          refine (HGC.out _ HS3.out).mono ?_
          rintro e w4 ⟨rfl, k4⟩
          have K4 := Lib.hid (turn_trans K3.out k4 (by omega))
          have HG' := Lib.hid hg'
          clear k4 HO3 HS3 hg hg'
          go_wp2_with fail
          go_ret2
          obtain ⟨rfl, rfl⟩ := HRN.out (HBAD.out _ _ HU2.out HG'.out)
          exact ⟨_, rfl, OwnRu.nil _ _ _, K4.out⟩
    · have HTE : Hid (t = []) := Lib.hid (List.eq_nil_of_length_eq_zero (by omega))
      have he := HSE.out t
      rw [decide_eq_true (by omega)] at he
      rw [HTE.out] at HU
      go_wp2_with fail
      go_ret2
      obtain ⟨rfl, rfl⟩ := HRS.out _ (HEND.out _ HU.out HGD.out)
      exact ⟨_, rfl, ⟨HBr.out, Nat.le_refl _, fun g e => (HBr.out.lt g e).2⟩, HK.out⟩

set_option maxRecDepth 100000 in
set_option maxHeartbeats 4000000 in
theorem sUnpackRuns_own (s : List UInt8) (w : World) (hs : s.length ≤ 1000000000000) : Calls Try.prog 45 #[.string (str s)] w (RetRusOk 86 w (unpR s) (unpOk s)) := by
  have hsz : (str s).size = s.length := str_size s
  have HRN := Lib.hid (fun h => @unp_none s h)
  have HRS := Lib.hid (fun l h => @unp_some s l h)
  have HBAD := Lib.hid (fun out t h hb => @unpOf_bad s out t h hb)
  have HFAIL := Lib.hid (fun out t h h0 hf => @unpOf_fail s out t h h0 hf)
  have HEND := Lib.hid (fun out h hg => @unpOf_end s out h hg)
  have HSG := Lib.hid (fun k h => str_get s k h)
  have HNX := Lib.hid (fun out k k' r h1 h2 h3 hf => @unp_next s out k k' r h1 h2 h3 hf)
  have HF1 := Lib.hid (fun k h => @fst_at1 s k h)
  have HF2 := Lib.hid (fun k h hn => @fst_at2 s k h hn)
  have HF3 := Lib.hid (fun k h hn => @fst_at3 s k h hn)
  have HF4 := Lib.hid (fun k h hn => @fst_at4 s k h hn)
  have HDN := Lib.hid (fun k h => @drop_ne s k h)
  have HTA : Hid (s.take s.length = s) := by show _ = _; rw [List.take_length]
  have HDA : Hid (s.drop s.length = []) := by show _ = _; rw [List.drop_length]
  have HOW0 : Hid (w.ownsRow w.heap.size 86 2 (.slice none 0 0) ([] : List Ru).length (rus [])) := by
    show World.ownsRow _ _ _ _ _ _ _
    exact World.ownsRow_nil _ _ _ _
  have HQ0 : Hid (∀ q ∈ ([] : List Ru), 1 ≤ q.2) := Lib.hid (fun q h => by cases h)
  have hse : ((str s).toList == (str s).toList) = true := by simp
  generalize hR : unpR s = R at *
  generalize hB : unpOk s = B at *
  generalize hnn : s.length = n at *
  clear hR hB hnn
  go_enter Try.func45, Try.ntmps45
  go_wp2_with fail
  go_loopw [4, 5] (fun v y wr => ∃ (k : Nat) (out : List Ru), k ≤ n ∧ y = .int .i64 k ∧ out.length ≤ 201 ∧ out.length ≤ k ∧ Hid (unpL out (s.drop k) = unpL [] s) ∧ Hid (pkOf out = s.take k) ∧ Hid (∀ q ∈ out, 1 ≤ q.2) ∧ Hid (wr.ownsRow w.heap.size 86 2 v out.length (rus out)) ∧ Hid (TurnIn 0 0 w wr)) (fun _ y _ => n - (intOf y).toNat)
  case atStart => exact ⟨0, [], Nat.zero_le _, rfl, Nat.zero_le _, Nat.zero_le _, Lib.hid rfl, Lib.hid rfl, HQ0, HOW0, Lib.hid (TurnIn.refl _)⟩
  case round =>
    clear HOW0 HQ0
    obtain ⟨k, out, hk, rfl, hol, hok, HU, HP, HQ, HBr, HK⟩ := hrel
    have hwr := HK.out.size
    have HSE := Lib.hid (OwnRu.seen (E := 86) (w := wr) (lo := w.heap.size) (hi := wr.heap.size) ⟨HBr.out, Nat.le_refl _, fun g e => (HBr.out.lt g e).2⟩)
    obtain ⟨A0, c0, hv0⟩ := HSE.out.len
    subst hv0
    by_cases hgo : k < n ∧ out.length ≤ 200
    · obtain ⟨hlt, hol2⟩ := hgo
      have hki : (k : Int) < (n : Int) := by omega
      have hoi : (out.length : Int) ≤ 200 := by omega
      have g0 := HSG.out k (by omega)
      by_cases h1 : k + 1 < n
      · have h1i : (k : Int) + 1 < (n : Int) := by omega
        have g1 := HSG.out (k + 1) (by omega)
        by_cases hb : s.getD (k + 1) 0 = s.getD k 0
        · have hbb : (((s.getD k 0).toNat : Int) == ((s.getD k 0).toNat : Int)) = true := beq_self_eq_true _
          rw [hb] at g1
          by_cases h2 : k + 2 < n
          · have h2i : ¬ (n : Int) ≤ (k : Int) + 2 := by omega
            have g2 := HSG.out (k + 2) (by omega)
            have HN := Lib.hid (HNX.out out k (k + 3) _ HU.out HP.out HQ.out (HF4.out k (by omega) hb))
            have hx := (s.getD (k + 2) 0).toNat_lt
            generalize s.getD (k + 2) 0 = z at *
            generalize s.getD k 0 = c at *
            clear hb HU HP HQ
            have HO2 := Lib.hid (fun m => (owns_turn0 HBr.out (turn_setM (turn_drewZ (turn_alloc wr (.cells #[.int .u8 (c.toNat : Int), .int .i64 1] 86)) m) (g := wr.heap.size) (i := 1) (.int .i64 ((z.toNat : Int) + 2)) (Nat.le_refl _))).alloc (.cells #[.int .u8 (c.toNat : Int), .int .i64 ((z.toNat : Int) + 2)] 86))
            have KA := Lib.hid (fun m => turn_trans (turn_trans HK.out (turn_setM (turn_drewZ (turn_alloc wr (.cells #[.int .u8 (c.toNat : Int), .int .i64 1] 86)) m) (g := wr.heap.size) (i := 1) (.int .i64 ((z.toNat : Int) + 2)) (Nat.le_refl _)) (by omega)) (turn_alloc _ (.cells #[.int .u8 (c.toNat : Int), .int .i64 ((z.toNat : Int) + 2)] 86)) (by omega))
            have HLE := Lib.hid (fun m => ((turn_setM (turn_drewZ (turn_alloc wr (.cells #[.int .u8 (c.toNat : Int), .int .i64 1] 86)) m) (g := wr.heap.size) (i := 1) (.int .i64 ((z.toNat : Int) + 2)) (Nat.le_refl _))).size)
            clear HBr
            go_wp2_with fail
            go_quiet (fail)
            go_wp2_with (at_builtin; refine wpList_appendRu rfl _ _ _ rfl w.heap.size 86 _ _ Try.underlying44 infoRun rfl _ _ _ rfl (HO2.out _) _ c ((z.toNat : Int) + 2) rfl ?c0 ?c1 ?c2 ?c3 ?c4 ?_)
            case c0 => exact alloc_at0 (by first | rfl | (simp; done) | (simp [World.setCell]; done)) _ _ _
            case c1 => exact alloc_at1 (by first | rfl | (simp; done) | (simp [World.setCell]; done)) _ _ _
            case c2 => first | (simp; done) | omega
            case c3 => omega
            case c4 => have := HLE.out 0; simp only [World.size_alloc]; first | omega | (simp at this ⊢; omega)
            intro v' w3 hown3 hg3 _
            have K3 := Lib.hid (growTz (KA.out _) hg3 (fun g e => ((HO2.out 0).lt g e).1))
            have HO3 : Hid (w3.ownsRow w.heap.size 86 2 v' (out ++ [(c, ((z.toNat : Int) + 2))]).length (rus (out ++ [(c, ((z.toNat : Int) + 2))]))) := by
              show World.ownsRow _ _ _ _ _ _ _
              rw [List.length_append]; exact hown3
            clear hown3 hg3 HO2 KA
            go_wp2_with fail
            go_roundw
            case rel => exact ⟨k + 3, out ++ [(c, ((z.toNat : Int) + 2))], by omega, by go_num, by simp; omega, by simp; omega, Lib.hid HN.out.1, Lib.hid HN.out.2.1, Lib.hid HN.out.2.2, HO3, K3⟩
            case measure => simp [intOf]; omega
          · have h2i : (n : Int) ≤ (k : Int) + 2 := by omega
            have HNN := Lib.hid (HFAIL.out out _ HU.out (HDN.out k hlt) (HF3.out k (by omega) hb))
            generalize s.getD k 0 = c at *
            have KX := Lib.hid (fun m => turn_trans HK.out (turn_drewZ (turn_alloc wr (.cells #[.int .u8 (c.toNat : Int), .int .i64 1] 86)) m) (by omega))
            clear hb HU HP HQ
            go_wp2_with fail
            go_quiet (fail)
            go_wp2_with fail
            go_ret2
            obtain ⟨rfl, rfl⟩ := HRN.out HNN.out
            exact ⟨_, rfl, OwnRu.nil _ _ _, KX.out _⟩
        · have hbb : (((s.getD (k + 1) 0).toNat : Int) == ((s.getD k 0).toNat : Int)) = false := by rw [beq_eq_false_iff_ne]; intro e; exact hb (UInt8.toNat_inj.1 (by omega))
          have HN := Lib.hid (HNX.out out k (k + 1) _ HU.out HP.out HQ.out (HF2.out k (by omega) hb))
          generalize s.getD (k + 1) 0 = x at *
          generalize s.getD k 0 = c at *
          clear hb HU HP HQ
          have HO2 := Lib.hid (fun m => (owns_turn0 HBr.out (turn_drewZ (turn_alloc wr (.cells #[.int .u8 (c.toNat : Int), .int .i64 1] 86)) m)).alloc (.cells #[.int .u8 (c.toNat : Int), .int .i64 1] 86))
          have KA := Lib.hid (fun m => turn_trans (turn_trans HK.out (turn_drewZ (turn_alloc wr (.cells #[.int .u8 (c.toNat : Int), .int .i64 1] 86)) m) (by omega)) (turn_alloc _ (.cells #[.int .u8 (c.toNat : Int), .int .i64 1] 86)) (by omega))
          have HLE := Lib.hid (fun m => ((turn_drewZ (turn_alloc wr (.cells #[.int .u8 (c.toNat : Int), .int .i64 1] 86)) m)).size)
          clear HBr
          go_wp2_with fail
          go_quiet (fail)
          go_wp2_with (at_builtin; refine wpList_appendRu rfl _ _ _ rfl w.heap.size 86 _ _ Try.underlying44 infoRun rfl _ _ _ rfl (HO2.out _) _ c 1 rfl ?c0 ?c1 ?c2 ?c3 ?c4 ?_)
          case c0 => exact alloc_at0 (by first | rfl | (simp; done) | (simp [World.setCell]; done)) _ _ _
          case c1 => exact alloc_at1 (by first | rfl | (simp; done) | (simp [World.setCell]; done)) _ _ _
          case c2 => first | (simp; done) | omega
          case c3 => omega
          case c4 => have := HLE.out 0; simp only [World.size_alloc]; first | omega | (simp at this ⊢; omega)
          intro v' w3 hown3 hg3 _
          have K3 := Lib.hid (growTz (KA.out _) hg3 (fun g e => ((HO2.out 0).lt g e).1))
          have HO3 : Hid (w3.ownsRow w.heap.size 86 2 v' (out ++ [(c, 1)]).length (rus (out ++ [(c, 1)]))) := by
            show World.ownsRow _ _ _ _ _ _ _
            rw [List.length_append]; exact hown3
          clear hown3 hg3 HO2 KA
          go_wp2_with fail
          go_roundw
          case rel => exact ⟨k + 1, out ++ [(c, 1)], by omega, by go_num, by simp; omega, by simp; omega, Lib.hid HN.out.1, Lib.hid HN.out.2.1, Lib.hid HN.out.2.2, HO3, K3⟩
          case measure => simp [intOf]; omega
      · have h1i : ¬ (k : Int) + 1 < (n : Int) := by omega
        have h1d : decide ((k : Int) + 1 < (n : Int)) = false := decide_eq_false h1i
        have HN := Lib.hid (HNX.out out k (k + 1) _ HU.out HP.out HQ.out (HF1.out k (by omega)))
        generalize s.getD k 0 = c at *
        clear HU HP HQ
        have HO2 := Lib.hid (fun m => (owns_turn0 HBr.out (turn_drewZ (turn_alloc wr (.cells #[.int .u8 (c.toNat : Int), .int .i64 1] 86)) m)).alloc (.cells #[.int .u8 (c.toNat : Int), .int .i64 1] 86))
        have KA := Lib.hid (fun m => turn_trans (turn_trans HK.out (turn_drewZ (turn_alloc wr (.cells #[.int .u8 (c.toNat : Int), .int .i64 1] 86)) m) (by omega)) (turn_alloc _ (.cells #[.int .u8 (c.toNat : Int), .int .i64 1] 86)) (by omega))
        have HLE := Lib.hid (fun m => ((turn_drewZ (turn_alloc wr (.cells #[.int .u8 (c.toNat : Int), .int .i64 1] 86)) m)).size)
        clear HBr
        go_wp2_with fail
        go_quiet (fail)
        go_wp2_with (at_builtin; refine wpList_appendRu rfl _ _ _ rfl w.heap.size 86 _ _ Try.underlying44 infoRun rfl _ _ _ rfl (HO2.out _) _ c 1 rfl ?c0 ?c1 ?c2 ?c3 ?c4 ?_)
        case c0 => exact alloc_at0 (by first | rfl | (simp; done) | (simp [World.setCell]; done)) _ _ _
        case c1 => exact alloc_at1 (by first | rfl | (simp; done) | (simp [World.setCell]; done)) _ _ _
        case c2 => first | (simp; done) | omega
        case c3 => omega
        case c4 => have := HLE.out 0; simp only [World.size_alloc]; first | omega | (simp at this ⊢; omega)
        intro v' w3 hown3 hg3 _
        have K3 := Lib.hid (growTz (KA.out _) hg3 (fun g e => ((HO2.out 0).lt g e).1))
        have HO3 : Hid (w3.ownsRow w.heap.size 86 2 v' (out ++ [(c, 1)]).length (rus (out ++ [(c, 1)]))) := by
          show World.ownsRow _ _ _ _ _ _ _
          rw [List.length_append]; exact hown3
        clear hown3 hg3 HO2 KA
        go_wp2_with fail
        go_roundw
        case rel => exact ⟨k + 1, out ++ [(c, 1)], by omega, by go_num, by simp; omega, by simp; omega, Lib.hid HN.out.1, Lib.hid HN.out.2.1, Lib.hid HN.out.2.2, HO3, K3⟩
        case measure => simp [intOf]; omega
    · have hgi : ¬ (k : Int) < (n : Int) ∨ ((k : Int) < (n : Int) ∧ ¬ (out.length : Int) ≤ 200) := by omega
      have HGC := Lib.hid (sGoodRuns_own (.slice A0 out.length c0) out wr HSE.out)
      by_cases hg : goodRs out = true
      · rw [hg] at HGC
        have hs2 := good_sum hg
        have hkn : k = n := by omega
        have hki : ¬ (k : Int) < (n : Int) := by omega
        have hkd : decide ((k : Int) < (n : Int)) = false := decide_eq_false hki
        rw [hkn, HTA.out] at HP
        rw [hkn, HDA.out] at HU
        have HSM := Lib.hid (HEND.out _ HU.out hg)
        have HPK := Lib.hid (fun W h => l12Pack_own (.slice A0 out.length c0) out W h hg)
        rw [HP.out] at HPK
        clear hg hgi hs2 hkn
        go_wp2_with fail
        refine HGC.out.mono ?_
        rintro e w1 ⟨rfl, k1⟩
        have K1 := Lib.hid (turn_trans HK.out k1 (by omega))
        have HO1 := Lib.hid (owns_turn0 HBr.out k1)
        have HS1 := Lib.hid (HSE.out.below k1.to_below)
        clear k1
        go_wp2_with fail
        refine (HPK.out _ HS1.out).mono ?_
        rintro e w2 ⟨rfl, k2⟩
        have hw1 := K1.out.size
        have K2 := Lib.hid (turn_trans K1.out k2 (by omega))
        have HO2 := Lib.hid (owns_turn0 HO1.out k2)
        clear k2
        go_wp2_with fail
        go_ret2
        obtain ⟨rfl, rfl⟩ := HRS.out _ HSM.out
        exact ⟨_, rfl, ⟨HO2.out, Nat.le_refl _, fun g e => (HO2.out.lt g e).2⟩, K2.out⟩
      · have hg' : goodRs out = false := by simpa using hg
        rw [hg'] at HGC
        have HNN := Lib.hid (HBAD.out _ _ HU.out hg')
        clear hg hg'
        rcases hgi with hki | ⟨hki, hoi⟩
        · have hkd : decide ((k : Int) < (n : Int)) = false := decide_eq_false hki
          go_wp2_with fail
          refine HGC.out.mono ?_
          rintro e w1 ⟨rfl, k1⟩
          have K1 := Lib.hid (turn_trans HK.out k1 (by omega))
          clear k1
          go_wp2_with fail
          go_ret2
          obtain ⟨rfl, rfl⟩ := HRN.out HNN.out
          exact ⟨_, rfl, OwnRu.nil _ _ _, K1.out⟩
        · go_wp2_with fail
          refine HGC.out.mono ?_
          rintro e w1 ⟨rfl, k1⟩
          have K1 := Lib.hid (turn_trans HK.out k1 (by omega))
          clear k1
          go_wp2_with fail
          go_ret2
          obtain ⟨rfl, rfl⟩ := HRN.out HNN.out
          exact ⟨_, rfl, OwnRu.nil _ _ _, K1.out⟩

end Go.Proofs.Ytdbgkpmdimapdaa
