/- Chapter 11: NextOf, the model's. -/
import Derived.Test.YtbfchebnooanjaaNxtI
import Derived.Test.YtbfchebnooanjaaTurS
set_option linter.unusedSimpArgs false
set_option linter.unusedVariables false
namespace G294
open Go Go.RowKit
/-- the places met so far -/
def metN (s : List UInt8) (b i : Nat) : List Nat := (List.range b).flatMap (posN s s.length) ++ posN s i b
theorem metN_zero (s : List UInt8) : metN s 0 0 = [] := rfl
theorem metN_next (s : List UInt8) (b : Nat) : metN s b s.length = metN s (b + 1) 0 := by
  simp [metN, List.range_succ, List.flatMap_append, posN_zero]
theorem metN_all (s : List UInt8) : metN s 256 0 = nxtL s := by simp [metN, nxtL, posN_zero]
theorem metN_yes {s : List UInt8} {b i : Nat} (h : byN s i = b) : metN s b (i + 1) = metN s b i ++ [i] := by
  unfold metN; rw [posN_yes h, List.append_assoc]
theorem metN_not {s : List UInt8} {b i : Nat} (h : byN s i ≠ b) : metN s b (i + 1) = metN s b i := by
  unfold metN; rw [posN_not h]
theorem metN_len {s : List UInt8} {b i : Nat} (h : i ≤ s.length) (hb : b < 256) : (metN s b i).length ≤ s.length := by
  have h1 : (metN s b i).length = fstN s b + (posN s i b).length := by simp [metN, fstN]
  have h2 := posN_le h b
  have h3 := fstN_le (s := s) (b := b + 1) (by omega)
  rw [fstN_succ] at h3
  omega
end G294
namespace Go.Proofs.Ytbfchebnooanjaa
open Go.RowKit G294

set_option maxRecDepth 100000 in
set_option maxHeartbeats 2000000 in
theorem l11Next_own (s : List UInt8) (w : World) (hs : s.length ≤ 120) : Calls Try.prog 50 #[.string (str s)] w (RetInts 3 w (natI (nxtL s))) := by
  have hsz : (str s).size = s.length := str_size s
  have HMA := Lib.hid (metN_all s)
  have HMN := Lib.hid (metN_next s)
  have HML := Lib.hid (fun b i (h : i ≤ s.length) (hb : b < 256) => metN_len (s := s) h hb)
  have HMY := Lib.hid (fun b i (h : byN s i = b) => metN_yes (s := s) h)
  have HMX := Lib.hid (fun b i (h : byN s i ≠ b) => metN_not (s := s) h)
  have HSG := Lib.hid (fun k h => str_get s k h)
  have HBD : Hid (∀ i, byN s i = (s.getD i 0).toNat) := fun _ => rfl
  have HO0 : Hid (OwnInts 3 w w.heap.size w.heap.size (.slice none 0 0) (natI (metN s 0 0))) := OwnInts.nil _ _ _
  rw [← HMA.out]
  generalize hnn : s.length = n at *
  clear hnn
  go_enter Try.func50, Try.ntmps50
  go_wp2_with fail
  go_loopw [3, 4] (fun v x wr => ∃ b : Nat, b ≤ 256 ∧ x = .int .i64 b ∧ Hid (OwnInts 3 wr w.heap.size wr.heap.size v (natI (metN s b 0))) ∧ Hid (TurnIn 0 0 w wr)) (fun _ x _ => 256 - (intOf x).toNat)
  case atStart => exact ⟨0, Nat.zero_le _, rfl, HO0, Lib.hid (TurnIn.refl _)⟩
  case round =>
    clear HO0
    obtain ⟨b, hb, rfl, HO, HT⟩ := hrel
    by_cases hlt : b < 256
    · have hbi : (b : Int) < 256 := by omega
      have HMN2 := Lib.hid (HMN.out b)
      have HOB := HO
      have HTB := HT
      clear HO HT
      generalize wr = wo at *
      go_wp2_with fail
      go_loopw [3, 5] (fun v x wr => ∃ i : Nat, i ≤ n ∧ x = .int .i64 i ∧ Hid (OwnInts 3 wr w.heap.size wr.heap.size v (natI (metN s b i))) ∧ Hid (TurnIn 0 0 w wr)) (fun _ x _ => n - (intOf x).toNat)
      case atStart => exact ⟨0, Nat.zero_le _, rfl, HOB, HTB⟩
      case round =>
        clear HOB HTB
        obtain ⟨i, hi, rfl, HO, HT⟩ := hrel
        by_cases hlti : i < n
        · have hii : (i : Int) < (n : Int) := by omega
          have hml := HML.out b i hi hlt
          have g1 := HSG.out i (by omega)
          have HBD2 := Lib.hid (HBD.out i)
          have HY := Lib.hid (HMY.out b i)
          have HX := Lib.hid (HMX.out b i)
          generalize s.getD i 0 = c at *
          have hcl : c.toNat < 256 := c.toNat_lt
          by_cases hcb : c.toNat = b
          · have hcc : ((c.toNat : Int) == (b : Int)) = true := by rw [beq_iff_eq]; omega
            have HY2 := Lib.hid (HY.out (HBD2.out.trans hcb))
            obtain ⟨t, ht⟩ : ∃ t, (metN s b i).length = t := ⟨_, rfl⟩
            have hOn := HO.out.1
            rw [natI_len, ht] at hOn
            have hts : t ≤ n := by rw [← ht]; exact hml
            have HO2 := Lib.hid (hOn.alloc (.cells #[.int .i64 (i : Int)] 3))
            have KA := Lib.hid (turn_trans HT.out (turn_alloc wr (.cells #[.int .i64 (i : Int)] 3)) (by omega))
            have hwr := HT.out.size
            have HTL := Lib.hid ht
            clear hOn ht HY HX HO hcb hml HBD2
            go_wp2_with (at_builtin; refine wpList_append1 rfl _ _ _ rfl w.heap.size 3 _ _ Try.underlying28 infoInt rfl _ t _ rfl HO2.out wr.heap.size (.int .i64 (i : Int)) rfl ?c1 rfl ?c2 ?c3 ?c4 ?_)
            case c1 => simp
            case c2 => omega
            case c3 => omega
            case c4 => simp; omega
            intro v' w3 hown3 hg3 _
            have K3 := Lib.hid (growT KA.out hg3 (fun g e => (HO2.out.lt g e).1))
            have HO3 : Hid (OwnInts 3 w3 w.heap.size w3.heap.size v' (natI (metN s b (i + 1)))) := by
              refine ⟨?_, Nat.le_refl _, fun g hg => (hown3.lt g hg).2⟩
              rw [HY2.out, natI_append, ints_append, List.length_append, natI_len, HTL.out]
              exact hown3
            clear hown3 hg3 HO2 KA
            go_wp2_with fail
            go_roundw
            case rel => exact ⟨i + 1, by omega, by go_num, HO3, K3⟩
            case measure => simp [intOf]; omega
          · have hcc : ((c.toNat : Int) == (b : Int)) = false := by rw [beq_eq_false_iff_ne]; omega
            have HO3 : Hid (OwnInts 3 wr w.heap.size wr.heap.size u3 (natI (metN s b (i + 1)))) := by
              show OwnInts _ _ _ _ _ _
              rw [HX.out (fun e => hcb (HBD2.out.symm.trans e))]; exact HO.out
            clear HY HX HO hcb
            go_wp2_with fail
            go_roundw
            case rel => exact ⟨i + 1, by omega, by go_num, HO3, HT⟩
            case measure => simp [intOf]; omega
        · obtain rfl : i = n := by omega
          have hii : ¬ (i : Int) < (i : Int) := by omega
          rw [HMN2.out] at HO
          go_wp2_with fail
          go_roundw
          case rel => exact ⟨b + 1, by omega, by go_num, HO, HT⟩
          case measure => simp [intOf]; omega
    · obtain rfl : b = 256 := by omega
      have hbi : ¬ ((256 : Nat) : Int) < 256 := by omega
      go_wp2_with fail
      go_ret
      exact ⟨_, rfl, HO.out, HT.out⟩

set_option maxHeartbeats 1000000 in
theorem sNextOf_own (s : List UInt8) (w : World) (hs : s.length ≤ 1000000000000) : Calls Try.prog 24 #[.string (str s)] w (RetIntsOk 3 w (nxtR s) (trnOk s)) := by
  have hsz : (str s).size = s.length := str_size s
  by_cases h : s.length ≤ 120
  · have HO : Hid (trnOk s = true) := by show _ = _; simpa [trnOk] using h
    have HR := Lib.hid (nxtR_yes HO.out)
    have HT := Lib.hid (l11Next_own s w h)
    rw [HR.out, HO.out]
    generalize s.length = n at *
    go_enter Try.func24, Try.ntmps24
    go_wp2_with fail
    refine HT.out.mono ?_
    rintro e w1 ⟨v, rfl, hO, hT⟩
    have HOT := Lib.hid (And.intro hO hT)
    clear hO hT
    go_wp2_with fail
    go_ret2
    exact ⟨v, rfl, HOT.out.1, HOT.out.2⟩
  · have HO : Hid (trnOk s = false) := by show _ = _; simpa [trnOk] using h
    have HR := Lib.hid (nxtR_no HO.out)
    rw [HR.out, HO.out]
    generalize s.length = n at *
    go_enter Try.func24, Try.ntmps24
    go_wp2_with fail
    go_ret2
    exact ⟨_, rfl, OwnInts.nil _ _ _, TurnIn.refl _⟩
end Go.Proofs.Ytbfchebnooanjaa
