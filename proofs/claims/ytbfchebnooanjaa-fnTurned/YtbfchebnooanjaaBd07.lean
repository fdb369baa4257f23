/- Joined texts: TurS2, RotX, TrfX, TrfS, NxtMath, ArrV, Rooms. -/
import Derived.Test.YtbfchebnooanjaaBd06
import Derived.Test.YtbfchebnooanjaaBd01
import Derived.Test.YtbfchebnooanjaaBd02
import Derived.Laws.Rows
import Derived.Laws.Tables
import Derived.Deep.RegionLaw
import Derived.Test.YtbfchebnooanjaaBd04
import Derived.Lib.Bytealg
set_option linter.unusedSimpArgs false
set_option linter.unusedVariables false
/- Chapter 11: TurnsOf, the model's. -/
namespace G294
theorem trnR_len (s : List UInt8) : (trnR s).length ≤ 120 := by
  unfold trnR; split
  · rename_i h
    rw [natI_len, trn_len]
    simpa [trnOk] using h
  · simp
end G294
namespace Go.Proofs.Ytbfchebnooanjaa
open Go.RowKit G294

set_option maxRecDepth 100000 in
set_option maxHeartbeats 1000000 in
theorem sTurnsOf_own (s : List UInt8) (w : World) (hs : s.length ≤ 1000000000000) : Calls Try.prog 33 #[.string (str s)] w (RetIntsOk 3 w (trnR s) (trnOk s)) := by
  have hsz : (str s).size = s.length := str_size s
  by_cases h : s.length ≤ 120
  · have HO : Hid (trnOk s = true) := by show _ = _; simpa [trnOk] using h
    have HR := Lib.hid (trnR_yes HO.out)
    have HT := Lib.hid (l11Turns_own s w h)
    rw [HR.out, HO.out]
    generalize s.length = n at *
    go_enter Try.func33, Try.ntmps33
    go_wp2_with fail
    refine HT.out.mono ?_
    rintro e w1 ⟨v, rfl, hO, hT⟩
    have HOT := Lib.hid (And.intro hO hT)
    clear hO hT
    go_wp2_with fail
    go_ret2
    exact ⟨v, rfl, HOT.out.1, HOT.out.2⟩
  · have HO : Hid (trnOk s = false) := by show _ = _; simpa [trnOk] using h
    have HR := Lib.hid (trnR_no HO.out)
    rw [HR.out, HO.out]
    generalize s.length = n at *
    go_enter Try.func33, Try.ntmps33
    go_wp2_with fail
    go_ret2
    exact ⟨_, rfl, OwnInts.nil _ _ _, TurnIn.refl _⟩
end Go.Proofs.Ytbfchebnooanjaa

/- Chapter 11: RotateText, the program's and the model's. -/
namespace G294
open Go Go.RowKit
def rtOk (s : List UInt8) (k : Int) : Bool := trnOk s && (decide (0 ≤ k) && decide (k < max (s.length : Int) 1))
def rtR (s : List UInt8) (k : Int) : List UInt8 := if rtOk s k = true then rotL s k.toNat else []
theorem rtR_no {s : List UInt8} {k : Int} (h : rtOk s k = false) : rtR s k = [] := if_neg (by rw [h]; decide)
theorem rtR_yes {s : List UInt8} {k : Nat} (h : rtOk s k = true) : rtR s k = rotL s k := by unfold rtR; rw [if_pos h]; simp
theorem rtOk_b {s : List UInt8} {k : Int} (h : rtOk s k = true) : s.length ≤ 120 ∧ ∃ q : Nat, k = (q : Int) ∧ q ≤ s.length ∧ (q < s.length ∨ (q = 0 ∧ s = [])) := by
  simp only [rtOk, trnOk, Bool.and_eq_true, decide_eq_true_eq] at h
  refine ⟨h.1, k.toNat, by omega, by omega, ?_⟩
  by_cases e : s.length = 0
  · right; exact ⟨by omega, List.eq_nil_of_length_eq_zero e⟩
  · left; omega
end G294
namespace Go.Proofs.Ytbfchebnooanjaa
open Go.RowKit G294

set_option maxHeartbeats 1000000 in
theorem goodTurn_any (k : Int) (s : List UInt8) (w : World) (hs : s.length ≤ 1000000000000) : Calls Try.prog 40 #[.int .i64 k, .string (str s)] w fun e w' => e = .returned (.bool (decide (0 ≤ k) && decide (k < max (s.length : Int) 1))) ∧ w = w' := by
  have hsz : (str s).size = s.length := str_size s
  generalize s.length = n at *
  obtain ⟨x, hx⟩ : ∃ x, x = max (n : Int) 1 := ⟨_, rfl⟩
  have HX : Hid ((decide (0 ≤ k) && decide (k < max (n : Int) 1)) = (decide (0 ≤ k) && decide (k < x))) := by show _ = _; rw [hx]
  rw [HX.out]
  have hxn : n ≤ 1 → x = 1 := fun h => by omega
  have hxn2 : 1 < n → x = (n : Int) := fun h => by omega
  have HXN := Lib.hid (And.intro hxn hxn2)
  clear hx hxn hxn2 HX
  by_cases h1 : 0 ≤ k
  · have h1d : decide (0 ≤ k) = true := decide_eq_true h1
    by_cases hn : 1 < n
    · have hni : (1 : Int) < (n : Int) := by omega
      have hni2 : ¬ (n : Int) ≤ 1 := by omega
      have e := HXN.out.2 hn
      subst e
      go_enter Try.func40, Try.ntmps40
      go_wp2_with fail
      all_goals
        go_ret
        refine ⟨?_, rfl⟩
        simp [h1] <;> omega
    · have e := HXN.out.1 (by omega)
      subst e
      have h01 : n = 0 ∨ n = 1 := by omega
      clear hn
      rcases h01 with rfl | rfl
      all_goals
        go_enter Try.func40, Try.ntmps40
        go_wp2_with fail
        go_ret
        refine ⟨?_, rfl⟩
        simp [h1] <;> omega
  · have h1d : decide (0 ≤ k) = false := decide_eq_false h1
    go_enter Try.func40, Try.ntmps40
    go_wp2_with fail
    go_ret
    refine ⟨?_, rfl⟩
    simp [h1]

set_option maxRecDepth 100000 in
set_option maxHeartbeats 1000000 in
theorem rotateText_own (s : List UInt8) (k : Int) (w : World) (hs : s.length ≤ 1000000000000) : Calls Try.prog 18 #[.string (str s), .int .i64 k] w (RetStrOk w (rtR s k) (rtOk s k)) := by
  have hsz : (str s).size = s.length := str_size s
  have HG := Lib.hid (fun W => goodTurnText_any s W hs)
  have HT := Lib.hid (fun W => goodTurn_any k s W hs)
  by_cases h : rtOk s k = true
  · obtain ⟨hn, q, rfl, hq, _⟩ := rtOk_b h
    have HR := Lib.hid (rtR_yes h)
    have HO1 : Hid (trnOk s = true) := by show _ = _; simp [trnOk, hn]
    have HO2 : Hid ((decide (0 ≤ (q : Int)) && decide ((q : Int) < max (s.length : Int) 1)) = true) := by
      simp only [rtOk, Bool.and_eq_true] at h
      show _ = _
      simp only [Bool.and_eq_true]; exact h.2
    have HO := Lib.hid h
    have HA : Hid (str s ++ str s = str (s ++ s)) := str_append s s
    have HRI := Lib.hid (fun W => rotationIn_any s q W hq (by omega))
    rw [HR.out, HO.out]
    rw [HO1.out] at HG
    rw [HO2.out] at HT
    clear h
    generalize s.length = n at *
    go_enter Try.func18, Try.ntmps18
    go_wp2_with fail
    refine (HG.out _).mono ?_
    rintro e w' ⟨rfl, rfl⟩
    go_wp2_with fail
    refine (HT.out _).mono ?_
    rintro e w' ⟨rfl, rfl⟩
    go_wp2_with fail
    rw [HA.out]
    refine (HRI.out _).mono ?_
    rintro e w' ⟨rfl, rfl⟩
    go_wp2_with fail
    go_ret2
    exact ⟨rfl, TurnIn.refl _⟩
  · have HO : Hid (rtOk s k = false) := by show rtOk s k = false; simpa using h
    have HR := Lib.hid (rtR_no HO.out)
    rw [HR.out, HO.out]
    by_cases h1 : trnOk s = true
    · have HO2 : Hid ((decide (0 ≤ k) && decide (k < max (s.length : Int) 1)) = false) := by
        have := HO.out
        simp only [rtOk, h1, Bool.true_and] at this
        exact this
      rw [h1] at HG
      rw [HO2.out] at HT
      clear h h1
      go_enter Try.func18, Try.ntmps18
      go_wp2_with fail
      refine (HG.out _).mono ?_
      rintro e w' ⟨rfl, rfl⟩
      go_wp2_with fail
      refine (HT.out _).mono ?_
      rintro e w' ⟨rfl, rfl⟩
      go_wp2_with fail
      go_ret2
      exact ⟨rfl, TurnIn.refl _⟩
    · rw [show trnOk s = false by simpa using h1] at HG
      clear h h1
      go_enter Try.func18, Try.ntmps18
      go_wp2_with fail
      refine (HG.out _).mono ?_
      rintro e w' ⟨rfl, rfl⟩
      go_wp2_with fail
      go_ret2
      exact ⟨rfl, TurnIn.refl _⟩

set_option maxRecDepth 100000 in
set_option maxHeartbeats 1000000 in
theorem sRotateText_own (s : List UInt8) (k : Int) (w : World) (hs : s.length ≤ 1000000000000) : Calls Try.prog 37 #[.string (str s), .int .i64 k] w (RetStrOk w (rtR s k) (rtOk s k)) := by
  have hsz : (str s).size = s.length := str_size s
  have HI := Lib.hid (fun W => l1In_any k 0 ((s.length : Int) - 1) W)
  by_cases hn : s.length ≤ 120
  · have hni : ¬ (120 : Int) < (s.length : Int) := by omega
    by_cases hk : 0 ≤ k ∧ k ≤ (s.length : Int) - 1
    · have HIN : Hid (inB k 0 ((s.length : Int) - 1) = true) := by show _ = _; simp [inB, hk.1]; omega
      obtain ⟨q, rfl⟩ : ∃ q : Nat, k = (q : Int) := ⟨k.toNat, by omega⟩
      have HO : Hid (rtOk s q = true) := by show _ = _; simp [rtOk, trnOk, hn]; omega
      have HR := Lib.hid (rtR_yes HO.out)
      have HT := Lib.hid (fun W => l11Turn_any s q W (by omega) (by omega))
      rw [HR.out, HO.out]
      rw [HIN.out] at HI
      generalize s.length = n at *
      go_enter Try.func37, Try.ntmps37
      go_wp2_with fail
      refine (HI.out _).mono ?_
      rintro e w' ⟨rfl, rfl⟩
      go_wp2_with fail
      refine (HT.out _).mono ?_
      rintro e w1 ⟨rfl, k1⟩
      have K1 := Lib.hid k1
      clear k1
      go_wp2_with fail
      go_ret2
      exact ⟨rfl, K1.out⟩
    · have HIN : Hid (inB k 0 ((s.length : Int) - 1) = false) := by
        show _ = _
        rw [Bool.eq_false_iff]; intro e
        simp only [inB, Bool.and_eq_true, decide_eq_true_eq] at e
        exact hk e
      rw [HIN.out] at HI
      by_cases hz : k = 0
      · subst hz
        have hl0 : s = [] := List.eq_nil_of_length_eq_zero (by omega)
        subst hl0
        have HT := Lib.hid (fun W => l11Turn_any [] 0 W (by simp) (by simp))
        have HO : Hid (rtOk [] 0 = true) := Lib.hid rfl
        have HR : Hid (rtR [] 0 = rotL [] 0) := Lib.hid rfl
        rw [HR.out, HO.out]
        have hem : ((str []).toList == (⟨#[]⟩ : ByteArray).toList) = true := by
          have e0 : (⟨#[]⟩ : ByteArray).toList = [] := str_toList []
          rw [str_toList, e0]; rfl
        have hem2 : (!((str []).toList == (⟨#[]⟩ : ByteArray).toList)) = false := by rw [hem]; rfl
        have hem3 : (str []).toList = [] := str_toList []
        simp only [List.length_nil] at hsz HI
        clear hn hni hk
        go_enter Try.func37, Try.ntmps37
        go_wp2_with fail
        refine (HI.out _).mono ?_
        rintro e w' ⟨rfl, rfl⟩
        go_wp2_with fail
        refine (HT.out _).mono ?_
        rintro e w1 ⟨rfl, k1⟩
        have K1 := Lib.hid k1
        clear k1
        go_wp2_with fail
        go_ret2
        exact ⟨rfl, K1.out⟩
      · have hzb : (k != 0) = true := by simpa using hz
        have HO : Hid (rtOk s k = false) := by
          show _ = _
          rw [Bool.eq_false_iff]; intro e
          obtain ⟨_, q, rfl, _, h1 | ⟨h1, _⟩⟩ := rtOk_b e
          · omega
          · omega
        have HR := Lib.hid (rtR_no HO.out)
        rw [HR.out, HO.out]
        clear hk hz
        generalize s.length = n at *
        go_enter Try.func37, Try.ntmps37
        go_wp2_with fail
        refine (HI.out _).mono ?_
        rintro e w' ⟨rfl, rfl⟩
        go_wp2_with fail
        go_ret2
        exact ⟨rfl, TurnIn.refl _⟩
  · have hni : (120 : Int) < (s.length : Int) := by omega
    have HO : Hid (rtOk s k = false) := by show _ = _; simp [rtOk, trnOk, hn]
    have HR := Lib.hid (rtR_no HO.out)
    rw [HR.out, HO.out]
    generalize s.length = n at *
    go_enter Try.func37, Try.ntmps37
    go_wp2_with fail
    go_ret2
    exact ⟨rfl, TurnIn.refl _⟩
end Go.Proofs.Ytbfchebnooanjaa

/- Chapter 11: Transform, the program's and the model's. -/
namespace G294
open Go Go.RowKit
/-- the last byte of the rotation by k -/
def lastAt (s : List UInt8) (k : Nat) : UInt8 := s.getD ((k + s.length - 1) % s.length) 0
def lastN (s : List UInt8) (k : Nat) : List UInt8 := ((trn s).take k).map (lastAt s)
def lastL (s : List UInt8) : List UInt8 := (trn s).map (lastAt s)
/-- where the number 0 stands last among the first k -/
def at0 (l : List Nat) : Nat → Nat
  | 0 => 0
  | k + 1 => if l.getD k 0 = 0 then k else at0 l k
theorem at0_le (l : List Nat) : ∀ k, at0 l k ≤ k
  | 0 => Nat.le_refl _
  | k + 1 => by have := at0_le l k; unfold at0; split <;> omega
theorem at0_yes {l : List Nat} {k : Nat} (h : l.getD k 0 = 0) : at0 l (k + 1) = k := by unfold at0; rw [if_pos h]
theorem at0_not {l : List Nat} {k : Nat} (h : l.getD k 0 ≠ 0) : at0 l (k + 1) = at0 l k := by rw [at0, if_neg h]
theorem lastN_len (s : List UInt8) {k : Nat} (h : k ≤ s.length) : (lastN s k).length = k := by simp [lastN, trn_len]; omega
theorem lastN_succ (s : List UInt8) {k : Nat} (h : k < s.length) : lastN s (k + 1) = lastN s k ++ [lastAt s ((trn s).getD k 0)] := by
  unfold lastN
  rw [List.take_add_one, List.getElem?_eq_getElem (by rw [trn_len]; exact h), getD_len (by rw [trn_len]; exact h), List.map_append]
  rfl
theorem lastN_all (s : List UInt8) : lastN s s.length = lastL s := by
  unfold lastN lastL
  rw [List.take_of_length_le (by rw [trn_len]; exact Nat.le_refl _)]
def trfR (s : List UInt8) : List UInt8 := if trnOk s = true then lastL s else []
def trfX (s : List UInt8) : Int := if trnOk s = true then (at0 (trn s) s.length : Nat) else 0
theorem trfR_no {s : List UInt8} (h : trnOk s = false) : trfR s = [] := if_neg (by rw [h]; decide)
theorem trfR_yes {s : List UInt8} (h : trnOk s = true) : trfR s = lastL s := if_pos h
theorem trfX_no {s : List UInt8} (h : trnOk s = false) : trfX s = 0 := if_neg (by rw [h]; decide)
theorem trfX_yes {s : List UInt8} (h : trnOk s = true) : trfX s = (at0 (trn s) s.length : Nat) := if_pos h
theorem trn_lt {s : List UInt8} {k : Nat} (h : k < s.length) : (trn s).getD k 0 < s.length := trnN_getD h
def RetTrf (w : World) (s : List UInt8) (n : Int) (ok : Bool) (e : Ending) (w' : World) : Prop := e = .returned (.tuple #[.string (str s), .int .i64 n, .bool ok]) ∧ TurnIn 0 0 w w'
def RetTrf2 (w : World) (s : List UInt8) (n : Int) (e : Ending) (w' : World) : Prop := e = .returned (.tuple #[.string (str s), .int .i64 n]) ∧ TurnIn 0 0 w w'
theorem fill_set {l : List UInt8} {k n : Nat} (x : UInt8) (hl : l.length = k) (hk : k < n) : (l ++ List.replicate (n - k) 0).set k x = (l ++ [x]) ++ List.replicate (n - (k + 1)) 0 := by
  have e : List.replicate (n - k) (0 : UInt8) = 0 :: List.replicate (n - (k + 1)) 0 := by
    rw [← List.replicate_succ]; congr 1; omega
  rw [e, List.set_append, if_neg (by omega), hl, Nat.sub_self, List.append_assoc]; rfl
theorem fill_at {l : List UInt8} {k n : Nat} (hl : l.length = k) (hk : k < n) : (l ++ List.replicate (n - k) 0)[k]? = some 0 := by
  rw [List.getElem?_append_right (by omega), hl, Nat.sub_self, List.getElem?_replicate, if_pos (by omega)]
theorem turn_setR (w : World) (B o : Nat) (x : Value) : TurnIn B (B + 1) w (w.setCell ⟨B, o, none⟩ x) := turn_setF w B o x
theorem last_num {k n : Nat} (h : k < n) : ((k : Int) + (n : Int) - 1) % (n : Int) = (((k + n - 1) % n : Nat) : Int) := by
  rw [show (k : Int) + (n : Int) - 1 = ((k + n - 1 : Nat) : Int) by omega, ← Int.natCast_emod]
end G294
namespace Go.Proofs.Ytbfchebnooanjaa
open Go.RowKit G294

set_option maxRecDepth 100000 in
set_option maxHeartbeats 2000000 in
theorem transform_own (s : List UInt8) (w : World) (hs : s.length ≤ 1000000000000) : Calls Try.prog 14 #[.string (str s)] w (RetTrf w (trfR s) (trfX s) (trnOk s)) := by
  obtain ⟨i0, hi0, hz0, hz1, hz2⟩ := info_parts infoByte
  have hsz : (str s).size = s.length := str_size s
  have HT := Lib.hid (turnsOf_own s w hs)
  by_cases h : trnOk s = true
  · have HO := Lib.hid h
    have HR := Lib.hid (trfR_yes h)
    have HX := Lib.hid (trfX_yes h)
    have HTR := Lib.hid (trnR_yes h)
    have hn : s.length ≤ 120 := by simpa [trnOk] using h
    have HLT := Lib.hid (fun k (hk : k < s.length) => trn_lt (s := s) hk)
    have HG : Hid (∀ k, k < s.length → (natI (trn s))[k]? = some (((trn s).getD k 0 : Nat) : Int)) := fun k hk => natI_get (trn s) k (by rw [trn_len]; exact hk)
    have HLN := Lib.hid (fun k (hk : k ≤ s.length) => lastN_len s hk)
    have HLS := Lib.hid (fun k (hk : k < s.length) => lastN_succ s hk)
    have HLA : Hid (lastN s s.length = lastL s) := lastN_all s
    have HLD : Hid (∀ k, lastAt s k = s.getD ((k + s.length - 1) % s.length) 0) := fun _ => rfl
    have HSG := Lib.hid (fun k h => str_get s k h)
    have HA := Lib.hid (at0_le (trn s))
    have HA1 := Lib.hid (fun k h => at0_yes (l := trn s) (k := k) h)
    have HA2 := Lib.hid (fun k h => at0_not (l := trn s) (k := k) h)
    have HA0 : Hid (at0 (trn s) 0 = 0) := rfl
    have HL0 : Hid (lastN s 0 = []) := rfl
    have HNN : Hid ((natI (trn s)).length = s.length) := by show _ = _; rw [natI_len, trn_len]
    rw [HTR.out, HO.out] at HT
    rw [HR.out, HX.out, HO.out]
    have HND : Hid (∀ k, k < s.length → (k + s.length - 1) % s.length < s.length) := fun k hk => Nat.mod_lt _ (by omega)
    have HNU := Lib.hid (fun k (hk : k < s.length) => last_num (k := k) (n := s.length) hk)
    generalize trn s = T at *
    clear h
    generalize hnn : s.length = n at *
    clear hnn
    go_enter Try.func14, Try.ntmps14
    go_wp2_with fail
    refine HT.out.mono ?_
    rintro e w1 ⟨v, rfl, hO, hT⟩
    have HOT := Lib.hid hO
    have HTU := Lib.hid hT
    obtain ⟨A, c, hv⟩ := hO.seen.len
    rw [ints_length, HNN.out] at hv
    subst hv
    clear hO hT HT
    go_wp2_with (at_make; refine wpList_make_full _ rfl _ _ _ rfl w1.heap.size _ i0 _ 1 Try.underlying22 hi0 hz0 hz1 _ _ _ _ n rfl rfl rfl rfl ?b2 ?b3 ?b4 ?_)
    case b2 => rw [hz2]; omega
    case b3 => unfold maxLen; omega
    case b4 => exact Nat.le_refl _
    intro w2 hown1 hg1
    have hb1 : TurnIn 0 0 w1 w2 := TurnIn.of_grown (lo := 0) (hi := 0) hg1 (fun g h => by simp at h)
    rw [toList_madeCells_one] at hown1
    have hBlt := (hown1.lt w1.heap.size rfl).2
    have HB0 : Hid (OwnBytes 5 w2 w1.heap.size (w1.heap.size + 1) (.slice (some ⟨w1.heap.size, 0, none⟩) n n) (lastN s 0 ++ List.replicate (n - 0) 0)) := by
      refine ⟨?_, by omega, fun g hg => ?_⟩
      · have e : bys (lastN s 0 ++ List.replicate (n - 0) 0) = List.replicate n (.int .u8 0) := by rw [HL0.out]; simp [bys]
        rw [e, HL0.out]
        simpa using hown1
      · have e : w1.heap.size = g := by simpa [Value.ownBlock] using hg
        omega
    have HOT2 := Lib.hid (HOT.out.keep hb1 (by omega))
    have HTU2 := Lib.hid (turn_trans HTU.out hb1 (by omega))
    have hw1 := HTU.out.size
    clear hg1 hown1 HOT HTU hb1
    generalize w1.heap.size = B at *
    go_wp2_with fail
    go_loopw [8, 23] (fun x y wr => ∃ k : Nat, k ≤ n ∧ y = .int .i64 k ∧ x = .int .i64 (at0 T k : Nat) ∧ Hid (OwnBytes 5 wr B (B + 1) (.slice (some ⟨B, 0, none⟩) n n) (lastN s k ++ List.replicate (n - k) 0)) ∧ Hid (TurnIn B (B + 1) w2 wr)) (fun _ y _ => n - (intOf y).toNat)
    case atStart => exact ⟨0, Nat.zero_le _, rfl, by rw [HA0.out]; rfl, HB0, Lib.hid ⟨rfl, rfl, rfl, Nat.le_refl _, fun _ _ _ => rfl⟩⟩
    case round =>
      clear HB0
      obtain ⟨k, hk, rfl, rfl, HB, HK⟩ := hrel
      by_cases hlt : k < n
      · have hki : (k : Int) < (n : Int) := by omega
        have hle := HA.out k
        have ht := HLT.out k hlt
        have hND := HND.out _ ht
        have hNU := HNU.out _ ht
        have HLK := Lib.hid (HLN.out k (by omega))
        have HLS2 := Lib.hid (HLS.out k hlt)
        have HLD2 := Lib.hid (HLD.out (T.getD k 0))
        have HAY := Lib.hid (HA1.out k)
        have HAN := Lib.hid (HA2.out k)
        have HOT3 := HOT2.out.keep HK.out (by omega)
        obtain ⟨A', c', e, _, _, h3⟩ := HOT3.seen
        rw [ints_length, HNN.out] at e h3
        simp only [Value.slice.injEq] at e
        obtain ⟨rfl, he, rfl⟩ := e
        clear he
        obtain ⟨b, o, rfl, hbb, hcc⟩ := h3 (by omega)
        have c1 : wr.cell? ⟨b, o + k, none⟩ = some (.int .i64 ((T.getD k 0 : Nat) : Int)) := hcc k _ (by
          simp only [ints, List.getElem?_map, HG.out k hlt, Option.map_some])
        generalize T.getD k 0 = t at *
        obtain ⟨q, hq⟩ : ∃ q, (t + n - 1) % n = q := ⟨_, rfl⟩
        rw [hq] at hND hNU HLD2
        have hqs : q < (str s).size := by rw [hsz]; exact hND
        have g1 := HSG.out q hqs
        rw [← HLD2.out] at g1
        generalize lastAt s t = y at *
        have hOn := HB.out.1
        rw [List.length_append, HLK.out, List.length_replicate, show k + (n - k) = n by omega] at hOn
        have hcb := hOn.cellAt k (by omega)
        have hfz := hOn.frozenAt k
        rw [show (bys (lastN s k ++ List.replicate (n - k) 0))[k]? = some (.int .u8 0) by
          simp only [bys, List.getElem?_map, fill_at HLK.out hlt]; rfl] at hcb
        have HST := Lib.hid (HB.out.store (q := k) (x := y) (by rw [List.length_append, HLK.out, List.length_replicate]; omega) (fill_set y HLK.out hlt))
        rw [← HLS2.out] at HST
        have HKS := Lib.hid (turn_trans HK.out (turn_setR wr B k (.int .u8 (y.toNat : Int))) (by omega))
        clear HB HK HOT3 h3 hcc hq HLD2 HLS2 hOn
        by_cases hz : t = 0
        · subst hz
          have hNU0 : (-1 : Int) % (n : Int) = (q : Int) := by simpa using hNU
          have HAE := Lib.hid (HAY.out rfl)
          clear HAY HAN
          go_wp2_with fail
          go_roundw
          case rel => exact ⟨k + 1, by omega, by go_num, by rw [HAE.out], HST, HKS⟩
          case measure => simp [intOf]; omega
        · have hzb : ((t : Int) == 0) = false := beq_eq_false_iff_ne.2 (by omega)
          have HAE := Lib.hid (HAN.out hz)
          clear HAY HAN hz
          go_wp2_with fail
          go_roundw
          case rel => exact ⟨k + 1, by omega, by go_num, by rw [HAE.out], HST, HKS⟩
          case measure => simp [intOf]; omega
      · obtain rfl : k = n := by omega
        have hki : ¬ (k : Int) < (k : Int) := by omega
        have hseen : Seen wr (.slice (some ⟨B, 0, none⟩) k k) (bys (lastL s)) := by
          have := HB.out.seen
          rw [Nat.sub_self, List.replicate_zero, List.append_nil, HLA.out] at this
          exact this
        have hconv := run_string_seen (P := Try.prog) 22 5 9 Try.underlying22 Try.underlying5 Try.underlying9 hseen
        have HF : Hid (TurnIn 0 0 w wr) := turn_trans HTU2.out HK.out (by omega)
        clear HB HK hseen
        go_wp2_with fail
        go_ret3
        exact ⟨rfl, HF.out⟩
  · have HO : Hid (trnOk s = false) := by show trnOk s = false; simpa using h
    have HR := Lib.hid (trfR_no HO.out)
    have HX := Lib.hid (trfX_no HO.out)
    rw [HO.out] at HT
    rw [HR.out, HX.out, HO.out]
    clear h
    go_enter Try.func14, Try.ntmps14
    go_wp2_with fail
    refine HT.out.mono ?_
    rintro e w1 ⟨v, rfl, hO, hT⟩
    have HOT := Lib.hid hT
    clear hO hT
    go_wp2_with fail
    go_ret3
    exact ⟨rfl, HOT.out⟩
end Go.Proofs.Ytbfchebnooanjaa

/- Chapter 11: Transform, the model's. -/
namespace G294
open Go Go.RowKit
theorem turn_grownBy {w w1 w2 : World} {row : Option Nat} (t : TurnIn 0 0 w w1) (hg : w1.grownBy w2 row) (hr : ∀ g, row = some g → w.heap.size ≤ g) : TurnIn 0 0 w w2 := growT t hg hr
end G294
namespace Go.Proofs.Ytbfchebnooanjaa
open Go.RowKit G294

set_option maxRecDepth 100000 in
set_option maxHeartbeats 2000000 in
theorem l11Transform_own (s : List UInt8) (w : World) (hs : s.length ≤ 120) : Calls Try.prog 39 #[.string (str s)] w (RetTrf2 w (lastL s) (at0 (trn s) s.length : Nat)) := by
  have hsz : (str s).size = s.length := str_size s
  have HT := Lib.hid (l11Turns_own s w hs)
  have HLT := Lib.hid (fun k (hk : k < s.length) => trn_lt (s := s) hk)
  have HG : Hid (∀ k, k < s.length → (natI (trn s))[k]? = some (((trn s).getD k 0 : Nat) : Int)) := fun k hk => natI_get (trn s) k (by rw [trn_len]; exact hk)
  have HLN := Lib.hid (fun k (hk : k ≤ s.length) => lastN_len s hk)
  have HLS := Lib.hid (fun k (hk : k < s.length) => lastN_succ s hk)
  have HLA : Hid (lastN s s.length = lastL s) := lastN_all s
  have HLD : Hid (∀ k, lastAt s k = s.getD ((k + s.length - 1) % s.length) 0) := fun _ => rfl
  have HSG := Lib.hid (fun k h => str_get s k h)
  have HA := Lib.hid (at0_le (trn s))
  have HA1 := Lib.hid (fun k h => at0_yes (l := trn s) (k := k) h)
  have HA2 := Lib.hid (fun k h => at0_not (l := trn s) (k := k) h)
  have HA0 : Hid (at0 (trn s) 0 = 0) := rfl
  have HL0 : Hid (lastN s 0 = []) := rfl
  have HNN : Hid ((natI (trn s)).length = s.length) := by show _ = _; rw [natI_len, trn_len]
  have HND : Hid (∀ k, k < s.length → (k + s.length - 1) % s.length < s.length) := fun k hk => Nat.mod_lt _ (by omega)
  have HNU := Lib.hid (fun k (hk : k < s.length) => last_num (k := k) (n := s.length) hk)
  generalize trn s = T at *
  generalize hnn : s.length = n at *
  clear hnn
  go_enter Try.func39, Try.ntmps39
  go_wp2_with fail
  refine HT.out.mono ?_
  rintro e w1 ⟨v, rfl, hO, hT⟩
  have HOT := Lib.hid hO
  have HTU := Lib.hid hT
  obtain ⟨A, c, hv⟩ := hO.seen.len
  rw [ints_length, HNN.out] at hv
  subst hv
  have hw1 := hT.size
  have HOW0 : Hid (w1.ownsRow w1.heap.size 5 1 (.slice none 0 0) 0 (bys (lastN s 0))) := by
    show World.ownsRow _ _ _ _ _ _ _
    rw [HL0.out]; exact World.ownsRow_nil _ _ _ _
  clear hO hT HT
  go_wp2_with fail
  go_loopw [4, 5, 11] (fun v x y wr => ∃ k : Nat, k ≤ n ∧ y = .int .i64 k ∧ x = .int .i64 (at0 T k : Nat) ∧ Hid (wr.ownsRow w1.heap.size 5 1 v k (bys (lastN s k))) ∧ Hid (TurnIn 0 0 w1 wr)) (fun _ _ y _ => n - (intOf y).toNat)
  case atStart => exact ⟨0, Nat.zero_le _, rfl, by rw [HA0.out]; rfl, HOW0, Lib.hid (TurnIn.refl _)⟩
  case round =>
    clear HOW0
    obtain ⟨k, hk, rfl, rfl, HB, HK⟩ := hrel
    by_cases hlt : k < n
    · have hki : (k : Int) < (n : Int) := by omega
      have hle := HA.out k
      have ht := HLT.out k hlt
      have hND := HND.out _ ht
      have hNU := HNU.out _ ht
      have HLS2 := Lib.hid (HLS.out k hlt)
      have HLD2 := Lib.hid (HLD.out (T.getD k 0))
      have HAY := Lib.hid (HA1.out k)
      have HAN := Lib.hid (HA2.out k)
      have HOT3 := HOT.out.keep HK.out (by omega)
      obtain ⟨A', c', e, _, _, h3⟩ := HOT3.seen
      rw [ints_length, HNN.out] at e h3
      simp only [Value.slice.injEq] at e
      obtain ⟨rfl, he, rfl⟩ := e
      clear he
      obtain ⟨b, o, rfl, hbb, hcc⟩ := h3 (by omega)
      have c1 : wr.cell? ⟨b, o + k, none⟩ = some (.int .i64 ((T.getD k 0 : Nat) : Int)) := hcc k _ (by
        simp only [ints, List.getElem?_map, HG.out k hlt, Option.map_some])
      generalize T.getD k 0 = t at *
      obtain ⟨q, hq⟩ : ∃ q, (t + n - 1) % n = q := ⟨_, rfl⟩
      rw [hq] at hND hNU HLD2
      have hqs : q < (str s).size := by rw [hsz]; exact hND
      have g1 := HSG.out q hqs
      rw [← HLD2.out] at g1
      generalize lastAt s t = y at *
      have HO2 := Lib.hid (HB.out.alloc (.cells #[.int .u8 (y.toNat : Int)] 5))
      have KA := Lib.hid (turn_trans HK.out (turn_alloc wr (.cells #[.int .u8 (y.toNat : Int)] 5)) (by omega))
      have hwr := HK.out.size
      clear HB HOT3 h3 hcc hq HLD2
      by_cases hz : t = 0
      · subst hz
        have hNU0 : (-1 : Int) % (n : Int) = (q : Int) := by simpa using hNU
        have HAE := Lib.hid (HAY.out rfl)
        clear HAY HAN
        go_wp2_with (at_builtin; refine wpList_append1 rfl _ _ _ rfl w1.heap.size 5 _ _ Try.underlying22 infoByte rfl _ k _ rfl HO2.out wr.heap.size (.int .u8 (y.toNat : Int)) rfl ?c1 rfl ?c2 ?c3 ?c4 ?_)
        case c1 => simp
        case c2 => omega
        case c3 => omega
        case c4 => simp; omega
        intro v' w3 hown3 hg3 _
        have K3 := Lib.hid (growT KA.out hg3 (fun g e => (HO2.out.lt g e).1))
        have HO3 : Hid (w3.ownsRow w1.heap.size 5 1 v' (k + 1) (bys (lastN s (k + 1)))) := by
          show World.ownsRow _ _ _ _ _ _ _
          rw [HLS2.out, bys_append]; exact hown3
        clear hown3 hg3 HO2 KA
        go_wp2_with fail
        go_roundw
        case rel => exact ⟨k + 1, by omega, by go_num, by rw [HAE.out], HO3, K3⟩
        case measure => simp [intOf]; omega
      · have hzb : ((t : Int) == 0) = false := beq_eq_false_iff_ne.2 (by omega)
        have HAE := Lib.hid (HAN.out hz)
        clear HAY HAN hz
        go_wp2_with (at_builtin; refine wpList_append1 rfl _ _ _ rfl w1.heap.size 5 _ _ Try.underlying22 infoByte rfl _ k _ rfl HO2.out wr.heap.size (.int .u8 (y.toNat : Int)) rfl ?c1 rfl ?c2 ?c3 ?c4 ?_)
        case c1 => simp
        case c2 => omega
        case c3 => omega
        case c4 => simp; omega
        intro v' w3 hown3 hg3 _
        have K3 := Lib.hid (growT KA.out hg3 (fun g e => (HO2.out.lt g e).1))
        have HO3 : Hid (w3.ownsRow w1.heap.size 5 1 v' (k + 1) (bys (lastN s (k + 1)))) := by
          show World.ownsRow _ _ _ _ _ _ _
          rw [HLS2.out, bys_append]; exact hown3
        clear hown3 hg3 HO2 KA
        go_wp2_with fail
        go_roundw
        case rel => exact ⟨k + 1, by omega, by go_num, by rw [HAE.out], HO3, K3⟩
        case measure => simp [intOf]; omega
    · obtain rfl : k = n := by omega
      have hki : ¬ (k : Int) < (k : Int) := by omega
      have hseen : Seen wr u4 (bys (lastL s)) := by
        have := Seen.of_own HB.out
        rw [HLA.out] at this
        exact this
      obtain ⟨A4, c4, h4⟩ := hseen.len
      rw [bys_length] at h4
      generalize (lastL s).length = n4 at h4
      have hconv := run_string_seen (P := Try.prog) 22 5 9 Try.underlying22 Try.underlying5 Try.underlying9 hseen
      have HF : Hid (TurnIn 0 0 w wr) := turn_trans HTU.out HK.out (by omega)
      subst h4
      clear HB HK hseen
      go_wp2_with fail
      go_ret2
      exact ⟨rfl, HF.out⟩

set_option maxHeartbeats 1000000 in
theorem sTransform_own (s : List UInt8) (w : World) (hs : s.length ≤ 1000000000000) : Calls Try.prog 15 #[.string (str s)] w (RetTrf w (trfR s) (trfX s) (trnOk s)) := by
  have hsz : (str s).size = s.length := str_size s
  by_cases h : s.length ≤ 120
  · have HO : Hid (trnOk s = true) := by show _ = _; simpa [trnOk] using h
    have HR := Lib.hid (trfR_yes HO.out)
    have HX := Lib.hid (trfX_yes HO.out)
    have HT := Lib.hid (l11Transform_own s w h)
    rw [HR.out, HX.out, HO.out]
    generalize at0 (trn s) s.length = x at *
    generalize s.length = n at *
    go_enter Try.func15, Try.ntmps15
    go_wp2_with fail
    refine HT.out.mono ?_
    rintro e w1 ⟨rfl, k1⟩
    have K1 := Lib.hid k1
    clear k1
    go_wp2_with fail
    go_ret3
    exact ⟨rfl, K1.out⟩
  · have HO : Hid (trnOk s = false) := by show _ = _; simpa [trnOk] using h
    have HR := Lib.hid (trfR_no HO.out)
    have HX := Lib.hid (trfX_no HO.out)
    rw [HR.out, HX.out, HO.out]
    generalize s.length = n at *
    go_enter Try.func15, Try.ntmps15
    go_wp2_with fail
    go_ret3
    exact ⟨rfl, TurnIn.refl _⟩
end Go.Proofs.Ytbfchebnooanjaa

/- Chapter 11: the places of the bytes of a text in the order of the bytes (mathematics). -/
namespace G294
open Go Go.RowKit
/-- the byte at a place, as a number -/
def byN (s : List UInt8) (j : Nat) : Nat := (s.getD j 0).toNat
theorem byN_lt (s : List UInt8) (j : Nat) : byN s j < 256 := (s.getD j 0).toNat_lt
/-- the places below i that hold the byte b -/
def posN (s : List UInt8) (i b : Nat) : List Nat := (List.range i).filter fun j => decide (byN s j = b)
def nxtL (s : List UInt8) : List Nat := (List.range 256).flatMap (posN s s.length)
def cntB (s : List UInt8) (b : Nat) : Nat := (posN s s.length b).length
def fstN (s : List UInt8) (b : Nat) : Nat := ((List.range b).flatMap (posN s s.length)).length
theorem posN_zero (s : List UInt8) (b : Nat) : posN s 0 b = [] := rfl
theorem posN_yes {s : List UInt8} {i b : Nat} (h : byN s i = b) : posN s (i + 1) b = posN s i b ++ [i] := by
  simp [posN, List.range_succ, h]
theorem posN_not {s : List UInt8} {i b : Nat} (h : byN s i ≠ b) : posN s (i + 1) b = posN s i b := by
  simp [posN, List.range_succ, h]
theorem posN_more (s : List UInt8) (i b : Nat) : ∀ k, (posN s i b).length ≤ (posN s (i + k) b).length
  | 0 => Nat.le_refl _
  | k + 1 => by
    have := posN_more s i b k
    by_cases h : byN s (i + k) = b
    · rw [← Nat.add_assoc, posN_yes h]; simp; omega
    · rw [← Nat.add_assoc, posN_not h]; exact this
theorem posN_le {s : List UInt8} {i : Nat} (h : i ≤ s.length) (b : Nat) : (posN s i b).length ≤ cntB s b := by
  have := posN_more s i b (s.length - i)
  rwa [show i + (s.length - i) = s.length by omega] at this
theorem posN_lt {s : List UInt8} {i : Nat} (h : i < s.length) : (posN s i (byN s i)).length < cntB s (byN s i) := by
  have := posN_le (s := s) (i := i + 1) (by omega) (byN s i)
  rw [posN_yes rfl] at this
  simp at this; omega
theorem fstN_zero (s : List UInt8) : fstN s 0 = 0 := rfl
theorem fstN_succ (s : List UInt8) (b : Nat) : fstN s (b + 1) = fstN s b + cntB s b := by
  simp [fstN, cntB, List.range_succ, List.flatMap_append]
def totN (s : List UInt8) (i m : Nat) : Nat := ((List.range m).flatMap (posN s i)).length
theorem totN_succ (s : List UInt8) (i m : Nat) : totN s i (m + 1) = totN s i m + (posN s i m).length := by
  simp [totN, List.range_succ, List.flatMap_append]
theorem totN_next (s : List UInt8) (i : Nat) : ∀ m, totN s (i + 1) m = totN s i m + (if byN s i < m then 1 else 0)
  | 0 => rfl
  | m + 1 => by
    rw [totN_succ, totN_succ, totN_next s i m]
    by_cases h : byN s i = m
    · rw [posN_yes h, if_neg (by omega), if_pos (by omega)]; simp; omega
    · rw [posN_not h]
      by_cases h2 : byN s i < m
      · rw [if_pos h2, if_pos (by omega)]; omega
      · rw [if_neg h2, if_neg (by omega)]; omega
theorem totN_all (s : List UInt8) : ∀ i, totN s i 256 = i
  | 0 => by
    have : ∀ m, totN s 0 m = 0 := fun m => by
      induction m with
      | zero => rfl
      | succ m ih => rw [totN_succ, ih]; rfl
    exact this 256
  | i + 1 => by rw [totN_next, totN_all s i, if_pos (byN_lt s i)]
theorem fstN_all (s : List UInt8) : fstN s 256 = s.length := totN_all s s.length
theorem nxtL_len (s : List UInt8) : (nxtL s).length = s.length := fstN_all s
theorem fstN_mono (s : List UInt8) (a : Nat) : ∀ k, fstN s a ≤ fstN s (a + k)
  | 0 => Nat.le_refl _
  | k + 1 => by have := fstN_mono s a k; rw [← Nat.add_assoc, fstN_succ]; omega
theorem fstN_le {s : List UInt8} {b : Nat} (h : b ≤ 256) : fstN s b ≤ s.length := by
  have := fstN_mono s b (256 - b)
  rwa [show b + (256 - b) = 256 by omega, fstN_all] at this
/-- the number of a byte in a text -/
theorem posN_count (s : List UInt8) (b : UInt8) : ∀ k, k ≤ s.length → (posN s k b.toNat).length = (s.take k).count b
  | 0, _ => by simp [posN]
  | k + 1, h => by
    have ih := posN_count s b k (by omega)
    rw [take_snocD s h, List.count_append, ← ih]
    by_cases e : s.getD k 0 = b
    · rw [posN_yes (by rw [byN, e]), e]; simp
    · have e2 : byN s k ≠ b.toNat := fun h => e (UInt8.toNat_inj.1 h)
      rw [posN_not e2]
      have : List.count b [s.getD k 0] = 0 := by rw [List.count_singleton, if_neg (by simpa using e)]
      omega
theorem cntB_count (s : List UInt8) (b : UInt8) : cntB s b.toNat = s.count b := by
  have := posN_count s b s.length (Nat.le_refl _)
  rwa [List.take_length] at this
/-- the list while it is filled: the places met so far, then room -/
def blkN (s : List UInt8) (i b : Nat) : List Nat := posN s i b ++ List.replicate (cntB s b - (posN s i b).length) 0
def filN (s : List UInt8) (i : Nat) : List Nat := (List.range 256).flatMap (blkN s i)
theorem blkN_len {s : List UInt8} {i : Nat} (h : i ≤ s.length) (b : Nat) : (blkN s i b).length = cntB s b := by
  have := posN_le h b
  simp [blkN]; omega
theorem flat_len (s : List UInt8) {i : Nat} (h : i ≤ s.length) : ∀ m, ((List.range m).flatMap (blkN s i)).length = fstN s m
  | 0 => rfl
  | m + 1 => by
    rw [List.range_succ, List.flatMap_append, List.length_append, flat_len s h m, fstN_succ]
    simp [blkN_len h]
theorem filN_len {s : List UInt8} {i : Nat} (h : i ≤ s.length) : (filN s i).length = s.length := by rw [filN, flat_len s h, fstN_all]
theorem filN_zero (s : List UInt8) : filN s 0 = List.replicate s.length 0 := by
  have h : ∀ m, (List.range m).flatMap (blkN s 0) = List.replicate (fstN s m) 0 := fun m => by
    induction m with
    | zero => rfl
    | succ m ih =>
      rw [List.range_succ, List.flatMap_append, ih, fstN_succ, ← List.replicate_append_replicate]
      simp [blkN, posN_zero]
  rw [filN, h, fstN_all]
theorem filN_all (s : List UInt8) : filN s s.length = nxtL s := by
  unfold filN nxtL
  congr 1
  funext b
  unfold blkN
  rw [show cntB s b - (posN s s.length b).length = 0 from Nat.sub_self _]
  simp
theorem flat_set {f g : Nat → List Nat} {c q x : Nat} (hne : ∀ b, b ≠ c → f b = g b) (hq : q < (f c).length) (hs : (f c).set q x = g c) :
    ∀ m, c < m → ((List.range c).flatMap f).length + q < ((List.range m).flatMap f).length ∧ ((List.range m).flatMap f).set (((List.range c).flatMap f).length + q) x = (List.range m).flatMap g
  | 0, h => by omega
  | m + 1, h => by
    have he : (List.range (m + 1)).flatMap f = (List.range m).flatMap f ++ f m := by simp [List.range_succ, List.flatMap_append]
    have he2 : (List.range (m + 1)).flatMap g = (List.range m).flatMap g ++ g m := by simp [List.range_succ, List.flatMap_append]
    rw [he, he2]
    by_cases e : c = m
    · subst e
      refine ⟨by rw [List.length_append]; omega, ?_⟩
      rw [List.set_append, if_neg (by omega), Nat.add_sub_cancel_left, hs]
      congr 1
      have : ∀ k, k ≤ c → (List.range k).flatMap f = (List.range k).flatMap g := fun k hk => by
        induction k with
        | zero => rfl
        | succ k ih =>
          simp only [List.range_succ, List.flatMap_append, ih (by omega)]
          simp [hne k (by omega)]
      exact this c (Nat.le_refl _)
    · obtain ⟨h1, h2⟩ := flat_set hne hq hs m (by omega)
      refine ⟨by rw [List.length_append]; omega, ?_⟩
      rw [List.set_append, if_pos h1, h2, hne m (by omega)]
theorem blk_step {s : List UInt8} {i : Nat} (h : i < s.length) : (blkN s i (byN s i)).set (posN s i (byN s i)).length i = blkN s (i + 1) (byN s i) := by
  have hlt := posN_lt h
  unfold blkN
  rw [posN_yes rfl, List.set_append, if_neg (by omega), Nat.sub_self]
  have e : List.replicate (cntB s (byN s i) - (posN s i (byN s i)).length) 0 = 0 :: List.replicate (cntB s (byN s i) - (posN s i (byN s i) ++ [i]).length) 0 := by
    rw [← List.replicate_succ]; congr 1; simp; omega
  rw [e, List.append_assoc]; rfl
theorem filN_step {s : List UInt8} {i : Nat} (h : i < s.length) : fstN s (byN s i) + (posN s i (byN s i)).length < s.length ∧ (filN s i).set (fstN s (byN s i) + (posN s i (byN s i)).length) i = filN s (i + 1) := by
  have h1 := flat_set (f := blkN s i) (g := blkN s (i + 1)) (c := byN s i) (q := (posN s i (byN s i)).length) (x := i) (fun b hb => by unfold blkN; rw [posN_not (Ne.symm hb)])
    (by rw [blkN_len (by omega)]; exact posN_lt h) (blk_step h) 256 (byN_lt s i)
  rw [flat_len s (by omega), flat_len s (by omega), fstN_all] at h1
  exact h1
/-- where a byte's room lies -/
def offN (s : List UInt8) (b : Nat) : Nat := if cntB s b = 0 then 0 else fstN s b
theorem offN_yes {s : List UInt8} {b : Nat} (h : 0 < cntB s b) : offN s b = fstN s b := if_neg (by omega)
def roomV (g : Nat) (s : List UInt8) (i b : Nat) : Value := .slice (some ⟨g, offN s b, none⟩) (posN s i b).length (cntB s b)
def roomsL (g : Nat) (s : List UInt8) (i : Nat) : List Value := (List.range 256).map (roomV g s i)
theorem roomsL_len (g : Nat) (s : List UInt8) (i : Nat) : (roomsL g s i).length = 256 := by simp [roomsL]
theorem roomsL_get (g : Nat) (s : List UInt8) (i : Nat) {b : Nat} (h : b < 256) : (roomsL g s i)[b]? = some (roomV g s i b) := by simp [roomsL, h]
theorem roomsL_step (g : Nat) (s : List UInt8) (i : Nat) : (roomsL g s i).set (byN s i) (roomV g s (i + 1) (byN s i)) = roomsL g s (i + 1) := by
  apply List.ext_getElem?
  intro b
  rw [List.getElem?_set]
  by_cases hb : b < 256
  · by_cases e : byN s i = b
    · subst e
      rw [if_pos rfl, if_pos (by rw [roomsL_len]; exact hb), roomsL_get _ _ _ hb]
    · rw [if_neg e, roomsL_get _ _ _ hb, roomsL_get _ _ _ hb]
      unfold roomV
      rw [posN_not e]
  · have h1 : (roomsL g s i)[b]? = none := List.getElem?_eq_none (by rw [roomsL_len]; omega)
    have h2 : (roomsL g s (i + 1))[b]? = none := List.getElem?_eq_none (by rw [roomsL_len]; omega)
    rw [h1, h2]
    split
    · rw [if_neg (by rw [roomsL_len]; omega)]
    · rfl
/-- the rooms that are laid up to b, then nil -/
def laidL (g : Nat) (s : List UInt8) (b : Nat) : List Value := (List.range b).map (roomV g s 0) ++ List.replicate (256 - b) (.slice none 0 0)
theorem laidL_len (g : Nat) (s : List UInt8) {b : Nat} (h : b ≤ 256) : (laidL g s b).length = 256 := by simp [laidL]; omega
theorem laidL_all (g : Nat) (s : List UInt8) : laidL g s 256 = roomsL g s 0 := by simp [laidL, roomsL]
theorem laidL_step (g : Nat) (s : List UInt8) {b : Nat} (h : b < 256) : (laidL g s b).set b (roomV g s 0 b) = laidL g s (b + 1) := by
  have e : List.replicate (256 - b) (Value.slice none 0 0) = .slice none 0 0 :: List.replicate (256 - (b + 1)) (.slice none 0 0) := by
    rw [← List.replicate_succ]; congr 1; omega
  unfold laidL
  rw [e, List.set_append, if_neg (by simp), List.length_map, List.length_range, Nat.sub_self, List.range_succ, List.map_append, List.append_assoc]; rfl
end G294

/- Arrays of one-cell values as wholes: new, stored, loaded, returned. -/
namespace G294
open Go Go.RowKit
def ArrW (W : World) (B : Nat) (T : TypeId) (l : List Value) : Prop := W.heap[B]? = some (.cells l.toArray T (0, 0))
def aggV (l : List Value) : Value := .agg l.toArray
theorem turn_rowV (w : World) (B : Nat) (x : Array Value) : TurnIn B (B + 1) w (w.setRow B x) :=
  ⟨rfl, rfl, rfl, by simp, fun k hk hd => setRow_other w B k x (by omega)⟩
section
variable {w w' : World} {B a b : Nat} {T : TypeId} {l : List Value}
theorem ArrW.lt (h : ArrW w B T l) : B < w.heap.size := (Array.getElem?_eq_some_iff.1 h).1
theorem ArrW.new (w : World) (T : TypeId) (l : List Value) : ArrW (w.alloc (.cells l.toArray T)) w.heap.size T l := heap_alloc_new w _
theorem ArrW.keep (h : ArrW w B T l) (t : TurnIn a b w w') (d : B < a ∨ b ≤ B) : ArrW w' B T l := (t.block B h.lt d).trans h
theorem ArrW.cell (h : ArrW w B T l) {k : Nat} {x : Value} (hk : l[k]? = some x) : w.cell? ⟨B, k, none⟩ = some x := by
  rw [cell_of_row w B k _ T _ h, List.getElem?_toArray]; exact hk
theorem ArrW.frozen (h : ArrW w B T l) (k : Nat) : w.frozen? ⟨B, k, none⟩ = false := frozen_of_row w B k _ T h
theorem ArrW.set (h : ArrW w B T l) (k : Nat) (x : Value) : ArrW (w.setCell ⟨B, k, none⟩ x) B T (l.set k x) := by
  unfold ArrW
  rw [heap_setCell_same w B k _ T _ h]
  simp
theorem ArrW.row (h : ArrW w B T l) (m : List Value) : ArrW (w.setRow B m.toArray) B T m := setRow_heap w B _ _ T _ h
end
section
variable {P : Program} {ops : Array Oper} {rest : List Oper} {o : Oper} {a : Act} {w : World} {Q : Exit → Act → World → Prop}
theorem wpList_alloc_arv (hgd : o.guard = none) (ty : TypeId) (ho : o.op = .alloc ty) (z : List Value) (hz : (P.info? ty).map (·.zero) = some (some (aggV z)))
    (h : ∀ W', Hid (W' = w.alloc (.cells z.toArray ty)) → wpList P ops Q rest (a.put o.dst (.pointer (some ⟨w.heap.size, 0, none⟩))) W') : wpList P ops Q (o :: rest) a w := by
  refine wpList_plain hgd fun K hK => ?_
  cases hq : P.info? ty with
  | none => simp [hq] at hz
  | some i =>
    simp [hq, aggV] at hz
    have := hK _ _ (h _ rfl)
    unfold Oper.wp execOp
    simpa [ho, Instr.alloc, zeroValue, typeInfo, hq, hz, newVar, newRow, Value.cells, Result.andThen, Oper.upon] using this
theorem wpList_store_arv (hgd : o.guard = none) (ty : TypeId) (x y : Operand) (ho : o.op = .store ty x y) (g n : Nat) (t : TypeId) (l0 l : List Value) (hx : a.eval x = .pointer (some ⟨g, 0, none⟩)) (hy : a.eval y = aggV l)
    (hg : ArrW w g t l0) (hi : (P.info? ty).map (·.size) = some n) (h0 : l0.length = n) (hl : l.length = n) (h1 : l.toArray.all (·.oneCell') = true)
    (h : ∀ W', Hid (W' = w.setRow g l.toArray) → wpList P ops Q rest (a.put o.dst undef) W') : wpList P ops Q (o :: rest) a w :=
  wpList_store_row hgd ty x y ho g l.toArray hx hy t l0.toArray hg (by rw [hi]; simp [hl]) (by simp [h0, hl]) h1 (h _ rfl)
theorem wpList_load_arv (hgd : o.guard = none) (ty : TypeId) (x : Operand) (ho : o.op = .load ty x) (g n k : Nat) (e t : TypeId) (l : List Value) (hx : a.eval x = .pointer (some ⟨g, 0, none⟩))
    (hg : ArrW w g t l) (hi : (P.info? ty).map (·.size) = some n) (hu : P.underlying ty = some (.array k e)) (hl : l.length = n)
    (h : ∀ u, Hid (u = aggV l) → wpList P ops Q rest (a.put o.dst u) w) : wpList P ops Q (o :: rest) a w :=
  wpList_load_row hgd ty x ho g hx t l.toArray (0, 0) _ hg hu rfl (by rw [hi]; simp [hl]) (h _ rfl)
theorem ret_arv {fn : Func} {p : Tmp} {ty : TypeId} (h : fn.results = #[.cell p ty]) (tmps : Array Value) (g n k : Nat) (t e : TypeId) (l : List Value) (hp : tmps.getD p undef = .pointer (some ⟨g, 0, none⟩)) (hg : ArrW w g t l)
    (hu : P.underlying ty = some (.array k e)) (hi : (P.info? ty).map (·.size) = some n) (hl : l.length = n) : (results fn tmps).run P w = .ok (aggV l) w :=
  results_cell_row h tmps w g t l.toArray (0, 0) _ hp hg hu rfl (by rw [hi]; simp [hl])
end
theorem slices_one {l : List Value} (h : ∀ u ∈ l, ∃ A n c, u = .slice A n c) : l.toArray.all (·.oneCell') = true := by
  rw [Array.all_eq_true_iff_forall_mem]
  intro x hx
  obtain ⟨A, n, c, rfl⟩ := h x (by simpa using hx)
  rfl
end G294

/- Chapter 11: the rooms of the bytes, the program's. -/
namespace G294
open Go Go.RowKit
theorem ofNat_toNat {b : Nat} (h : b < 256) : (UInt8.ofNat b).toNat = b := by simp [UInt8.toNat_ofNat', Nat.mod_eq_of_lt h]
theorem roomV_zero (g : Nat) (s : List UInt8) (b : Nat) : roomV g s 0 b = .slice (some ⟨g, offN s b, none⟩) 0 (cntB s b) := rfl
theorem laid_one (g : Nat) (s : List UInt8) (b : Nat) : ∀ u ∈ laidL g s b, ∃ A n c, u = Value.slice A n c := by
  intro u hu
  rcases List.mem_append.1 hu with h | h
  · obtain ⟨i, _, rfl⟩ := List.mem_map.1 h
    exact ⟨_, _, _, rfl⟩
  · rw [(List.mem_replicate.1 h).2]; exact ⟨_, _, _, rfl⟩
end G294
namespace Go.Proofs.Ytbfchebnooanjaa
open Go.RowKit G294

set_option maxRecDepth 100000 in
set_option maxHeartbeats 1000000 in
theorem zeroRooms : (Try.prog.info? 62).map (·.zero) = some (some (aggV (List.replicate 256 (.slice none 0 0)))) := by kernel_rfl

theorem sizeRooms : (Try.prog.info? 62).map (·.size) = some 256 := by kernel_rfl

set_option maxRecDepth 100000 in
set_option maxHeartbeats 1000000 in
theorem count1_any (s : List UInt8) (c : UInt8) (w : World) : Calls Try.prog 61 #[.string (str s), .string (str [c])] w fun e w' => e = .returned (.int .i64 (s.count c : Nat)) ∧ w = w' := by
  have h1 : (str [c]).size = 1 := rfl
  have hg : (str [c])[0] = c := rfl
  have hr := fun W => Lib.run_countString (P := Try.prog) (str s) (c.toNat : Int) W
  have he : Hid (((Lib.countByte (str s).data.toList ((c.toNat : Int)).toNat.toUInt8 : Nat) : Int) = (s.count c : Nat)) := by
    show _ = _
    have e1 : ((c.toNat : Int)).toNat.toUInt8 = c := by simp
    rw [e1]; rfl
  rw [he.out] at hr
  generalize s.count c = n at *
  clear he
  go_enter Try.func61, Try.ntmps61
  go_wp2
  rw [run_callFunc_extern Try.func69 (by kernel_rfl) (by kernel_rfl) (by kernel_rfl) (e := Extern.BytealgCount.count) (by kernel_rfl), hr]
  simp only [Result.andThen]
  rw [Oper.upon_value]
  go_wp2
  go_ret
  exact ⟨rfl, rfl⟩

theorem sliceRoom (g n cp f e : Nat) (h1 : f ≤ e) (h2 : e ≤ cp) (W : World) : (Instr.slice 28 (.slice (some ⟨g, 0, none⟩) n cp) (some (.int .i64 (f : Int))) (some (.int .i64 (f : Int))) (some (.int .i64 (e : Int)))).run Try.prog W = .ok (.slice (some ⟨g, if e - f = 0 then 0 else f, none⟩) 0 (e - f)) W := by
  have hel : (sizeOf (Try.prog.elem 28)).run Try.prog W = .ok 1 W := by kernel_rfl
  rw [run_slice_lhm W 28 _ _ cp (by kernel_rfl) .i64 .i64 .i64 f f e (by omega) (by omega) (by omega) (by omega), hel]
  by_cases h : e = f
  · subst h; simp [Result.andThen, sliced, Addr.add]
  · have h3 : ¬ e - f = 0 := by omega
    simp [Result.andThen, sliced, Addr.add, h, h3] <;> omega

set_option maxRecDepth 100000 in
set_option maxHeartbeats 4000000 in
theorem roomsIn_own (s : List UInt8) (g cp : Nat) (w : World) (hs : s.length ≤ 120) (hc : s.length ≤ cp) :
    Calls Try.prog 51 #[.slice (some ⟨g, 0, none⟩) s.length cp, .string (str s)] w fun e w' => e = .returned (aggV (roomsL g s 0)) ∧ TurnIn 0 0 w w' := by
  have HCN := Lib.hid (fun c W => count1_any s c W)
  have HCB := Lib.hid (fun b (hb : b < 256) => (show s.count (UInt8.ofNat b) = cntB s b by rw [← cntB_count, ofNat_toNat hb]))
  have HFS := Lib.hid (fstN_succ s)
  have HFL := Lib.hid (fun b (hb : b ≤ 256) => fstN_le (s := s) hb)
  have HF0 := Lib.hid (fstN_zero s)
  have HL0 : Hid (laidL g s 0 = List.replicate 256 (.slice none 0 0)) := Lib.hid (by simp [laidL])
  have HLA := Lib.hid (laidL_all g s)
  have HLL := Lib.hid (fun b (hb : b ≤ 256) => laidL_len g s hb)
  have HLS := Lib.hid (fun b (hb : b < 256) => laidL_step g s hb)
  have HRO := Lib.hid (fun u hu => laid_one g s 256 u (by rw [laidL_all]; exact hu))
  have HOF : Hid (∀ b, offN s b = if cntB s b = 0 then 0 else fstN s b) := fun _ => rfl
  generalize hnn : s.length = n at *
  clear hnn
  go_enter Try.func51, Try.ntmps51
  go_wp2_with (refine wpList_alloc_arv rfl 62 rfl _ zeroRooms ?_)
  intro W1 hW1
  replace hW1 := hW1.out
  have t1 := hW1 ▸ turn_alloc w (.cells (List.replicate 256 (Value.slice none 0 0)).toArray 62)
  have r1 := hW1 ▸ ArrW.new w 62 (List.replicate 256 (Value.slice none 0 0))
  have z1 := hW1 ▸ World.size_alloc w (.cells (List.replicate 256 (Value.slice none 0 0)).toArray 62)
  clear hW1
  generalize hB : w.heap.size = B at *
  have HBE := Lib.hid hB
  clear hB
  go_wp2_with (refine wpList_alloc_arv rfl 62 rfl _ zeroRooms ?_)
  intro W2 hW2
  replace hW2 := hW2.out
  have t2 := hW2 ▸ turn_alloc W1 (.cells (List.replicate 256 (Value.slice none 0 0)).toArray 62)
  have r2 := hW2 ▸ ArrW.new W1 62 (List.replicate 256 (Value.slice none 0 0))
  rw [z1] at r2
  have R1 := Lib.hid (r1.keep t2 (by omega))
  rw [← HL0.out] at r2
  have R2 := Lib.hid r2
  have TW := Lib.hid (turn_trans t1 t2 (by omega))
  have hz2 := t2.size
  clear hW2 z1 t1 t2 r1 r2
  obtain ⟨D, hD⟩ : ∃ D, B + 1 = D := ⟨_, rfl⟩
  have hBD : B < D := by omega
  rw [hD] at R2 ⊢
  have HD := Lib.hid hD
  clear hD
  have HT0 := TW
  clear TW
  go_wp2_with fail
  go_loopw [6, 9] (fun x y wr => ∃ b : Nat, b ≤ 256 ∧ y = .int .i64 b ∧ x = .int .i64 (fstN s b : Nat) ∧ Hid (ArrW wr B 62 (List.replicate 256 (.slice none 0 0))) ∧ Hid (ArrW wr D 62 (laidL g s b)) ∧ Hid (TurnIn 0 0 w wr) ∧ W2.heap.size ≤ wr.heap.size) (fun _ y _ => 256 - (intOf y).toNat)
  case atStart => exact ⟨0, Nat.zero_le _, rfl, by rw [HF0.out]; rfl, R1, R2, HT0, Nat.le_refl _⟩
  case round =>
    clear R1 R2 HT0
    obtain ⟨b, hb, rfl, rfl, R1, R2, HT, hsw⟩ := hrel
    by_cases hlt : b < 256
    · have hki : (b : Int) < 256 := by omega
      have HLS2 := Lib.hid (HLS.out b hlt)
      have hfl := HFL.out (b + 1) (by omega)
      have HOB := Lib.hid (HOF.out b)
      have hfs := HFS.out b
      have HCB2 := Lib.hid (HCB.out b hlt)
      have HBN := Lib.hid (ofNat_toNat hlt)
      have HRV := Lib.hid (roomV_zero g s b)
      have c0 := R2.out.cell (k := b) (x := (laidL g s b).getD b (.slice none 0 0)) (by
        rw [List.getD_eq_getElem?_getD]
        have : b < (laidL g s b).length := by rw [HLL.out b (by omega)]; exact hlt
        simp [List.getElem?_eq_getElem this])
      have HFZ := Lib.hid (R2.out.frozen b)
      generalize (laidL g s b).getD b (.slice none 0 0) = old at *
      obtain ⟨f, hf⟩ : ∃ f, fstN s b = f := ⟨_, rfl⟩
      obtain ⟨e, he⟩ : ∃ e, fstN s (b + 1) = e := ⟨_, rfl⟩
      rw [hf] at HOB hfs
      rw [he] at hfs hfl
      rw [hf]
      obtain ⟨q, hq⟩ : ∃ q, cntB s b = q := ⟨_, rfl⟩
      rw [hq] at HOB hfs HCB2 HRV
      have hsum : (f : Int) + (q : Int) = (e : Int) := by omega
      have hqe : e - f = q := by omega
      have HS1 := fun W => sliceRoom g n cp f e (by omega) (by omega) W
      rw [hqe, ← HOB.out] at HS1
      rw [← HRV.out] at HS1
      have HE := Lib.hid he
      have HSA : ∀ W, (Instr.sliceAt 28 (.slice (some ⟨g, 0, none⟩) n cp) (some (.int .i64 (f : Int))) (some (.int .i64 (f : Int))) (some (.int .i64 (e : Int)))).run Try.prog W = .ok (roomV g s 0 b) W := fun W => by
        rw [run_sliceAt_slice W 28 _ _ _ _ (by kernel_rfl)]; exact HS1 W
      have HC := Lib.hid (HCN.out (UInt8.ofNat b))
      rw [HCB2.out] at HC
      generalize UInt8.ofNat b = by_ at *
      have hu8 : (b : Int) % 256 = (b : Int) := by omega
      have hseen : Seen (wr.alloc (.cells #[.int .u8 (b : Int)] 5)) (.slice (some ⟨wr.heap.size, 0, none⟩) 1 1) (bys [by_]) := by
        refine ⟨_, 1, rfl, by simp, by unfold maxLen; omega, fun _ => ⟨wr.heap.size, 0, rfl, by simp, fun i u hu => ?_⟩⟩
        match i, hu with
        | 0, hu =>
          simp only [bys, List.map_cons, List.getElem?_cons_zero, Option.some.injEq] at hu
          rw [← hu, HBN.out]; simp
      have hconv := run_string_seen (P := Try.prog) 22 5 9 Try.underlying22 Try.underlying5 Try.underlying9 hseen
      have ta := turn_alloc wr (.cells #[.int .u8 (b : Int)] 5)
      have HTA := Lib.hid (turn_trans HT.out ta (by omega))
      have hbl := R2.out.lt
      have c1 : (wr.alloc (.cells #[.int .u8 (b : Int)] 5)).cell? ⟨D, b, none⟩ = some old := (World.cell?_of_block (ta.block D hbl (by omega))).trans c0
      have f1 : (wr.alloc (.cells #[.int .u8 (b : Int)] 5)).frozen? ⟨D, b, none⟩ = false := (World.frozen?_of_block (ta.block D hbl (by omega))).trans HFZ.out
      have R2s := R2.out.set b (roomV g s 0 b)
      have R2a := Lib.hid (R2s.keep (turn_alloc (wr.setCell ⟨D, b, none⟩ (roomV g s 0 b)) (.cells #[.int .u8 (b : Int)] 5)) (by omega))
      clear R2s
      rw [HLS2.out] at R2a
      have hv : ∃ A n c, roomV g s 0 b = Value.slice A n c := ⟨_, _, _, rfl⟩
      generalize roomV g s 0 b = v at *
      obtain ⟨A', n', c', rfl⟩ := hv
      have ts := turn_setF wr D b (.slice A' n' c')
      have ts2 := turn_alloc (wr.setCell ⟨D, b, none⟩ (.slice A' n' c')) (.cells #[.int .u8 (b : Int)] 5)
      have R1b := Lib.hid ((R1.out.keep ts (by omega)).keep ts2 (by omega))
      have HTB := Lib.hid (turn_trans (turn_trans HT.out ts (by have := HBE.out; omega)) ts2 (by omega))
      clear ts ts2 HTA
      clear hseen ta R1 R2 HT hf he hq hfs hqe HOB HRV c0 HFZ
      go_wp2_with fail
      refine (HC.out _).mono ?_
      rintro e2 w3 ⟨rfl, rfl⟩
      go_wp2_with fail
      go_roundw
      case rel => exact ⟨b + 1, by omega, by go_num, by rw [HE.out], R1b, R2a, HTB, by simp; omega⟩
      case measure => simp [intOf]; omega
    · obtain rfl : b = 256 := by omega
      have hki : ¬ ((256 : Nat) : Int) < 256 := by omega
      rw [HLA.out] at R2
      have HRL := Lib.hid (roomsL_len g s 0)
      go_wp2_with (refine wpList_load_arv rfl 62 _ rfl D 256 256 28 _ _ rfl R2.out sizeRooms Try.underlying62 HRL.out ?_)
      intro u hu
      replace hu := hu.out
      subst hu
      go_wp2_with (refine wpList_store_arv rfl 62 _ _ rfl B 256 _ _ (roomsL g s 0) rfl rfl R1.out sizeRooms (by simp) HRL.out (slices_one (HRO.out)) ?_)
      intro W5 hW5
      replace hW5 := hW5.out
      have r5 := hW5 ▸ R1.out.row (roomsL g s 0)
      have t5 := hW5 ▸ turn_rowV wr B (roomsL g s 0).toArray
      have hb6 : TurnIn 0 0 w W5 := turn_trans HT.out t5 (by have := HBE.out; omega)
      clear hW5
      go_wp2_with fail
      exact bodyPost_ret (ret_arv rfl _ B 256 256 _ 28 _ rfl r5 Try.underlying62 sizeRooms HRL.out) rfl ⟨rfl, hb6⟩
end Go.Proofs.Ytbfchebnooanjaa
