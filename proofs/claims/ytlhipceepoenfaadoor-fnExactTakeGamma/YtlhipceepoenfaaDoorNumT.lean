/- Chapter 13: what is left of a text, digits from its front: the program's. -/
import Derived.Test.YtlhipceepoenfaaDoorNumB
import Derived.Test.YtlhipceepoenfaaDoorVitP
import Derived.Test.YtlhipceepoenfaaDoorSplitMath
import Derived.Test.YtlhipceepoenfaaDoorTrimLay
import Derived.BigQuiet
set_option linter.unusedSimpArgs false
set_option linter.unusedVariables false
namespace G294
open Go Go.RowKit
/-- what is left of a text, in a block -/
structure RdrB (W : World) (S : Nat) (l : List UInt8) : Prop where
  lt : S < W.heap.size
  cell : W.cell? ⟨S, 0, none⟩ = some (.string (str l))
  free : W.frozen? ⟨S, 0, none⟩ = false
theorem RdrB.keep {W W' : World} {S a b : Nat} {l : List UInt8} (h : RdrB W S l) (t : TurnIn a b W W') (d : S < a ∨ b ≤ S) : RdrB W' S l :=
  ⟨Nat.lt_of_lt_of_le h.lt t.size, (World.cell?_of_block (t.block S h.lt (by omega))).trans h.cell, (World.frozen?_of_block (t.block S h.lt (by omega))).trans h.free⟩
theorem turn_any {w w' : World} (h : TurnIn 0 0 w w') (lo hi : Nat) : TurnIn lo hi w w' := ⟨h.os, h.tape, h.output, h.size, fun k hk _ => h.block k hk (by omega)⟩
theorem turn_setR (w : World) (B o : Nat) (x : Value) : TurnIn B (B + 1) w (w.setCell ⟨B, o, none⟩ x) :=
  ⟨rfl, rfl, rfl, by simp, fun k hk hd => heap_setCell_other w _ k x (by rcases hd with h | h <;> simp <;> omega)⟩
theorem RdrB.set {W : World} {S : Nat} {l : List UInt8} (h : RdrB W S l) (m : List UInt8) : RdrB (W.setCell ⟨S, 0, none⟩ (.string (str m))) S m :=
  ⟨by simpa using h.lt, World.cell?_setCell_same _ _ _ h.cell, by simpa using h.free⟩
/-- a call that takes from the front -/
def RetRd (w : World) (S : Nat) (v : Value) (l : List UInt8) (e : Ending) (w' : World) : Prop := e = .returned v ∧ RdrB w' S l ∧ TurnIn S (S + 1) w w'
theorem drop_dw (c : UInt8) : ∀ l : List UInt8, l.dropWhile (· == c) = l.drop (ldC c l)
  | [] => rfl
  | x :: l => by
    rw [List.dropWhile_cons, ldC]
    by_cases e : x = c
    · subst e; simp [drop_dw x l]
    · have : (x == c) = false := by simpa using e
      simp [this, e]
theorem trim_str (c : UInt8) (l : List UInt8) : (⟨(Lib.trimLeftB (str l).data.toList c).toArray⟩ : ByteArray) = str (l.drop (ldC c l)) := by
  show (⟨(List.dropWhile (· == c) (l.toArray.toList)).toArray⟩ : ByteArray) = _
  rw [show l.toArray.toList = l from by simp, drop_dw]; rfl
theorem ext_from (s : List UInt8) (k : Nat) {n : Nat} (h : n = s.length) : (str s).extract k n = str (s.drop k) := by
  subst h
  rw [extract_str]
  congr 1
  rw [List.take_of_length_le]; simp
theorem ext_to (s : List UInt8) (k : Nat) : (str s).extract 0 k = str (s.take k) := by
  rw [extract_str]; simp
/-- the number that digits make, step by step -/
theorem valL_step {l : List UInt8} {k : Nat} (h : k < l.length) : valL (l.take (k + 1)) = 2 * valL (l.take k) + bv (l.getD k 0) := by rw [take_snocD l h, valL_snoc]
theorem raw_bv {l : List UInt8} {k : Nat} (h : k < l.length) (hb : l.all isBitC = true) : ((raw l).getD k 0).toNat = bv (l.getD k 0) := by
  rw [raw_getD l h]
  have : isBitC (l.getD k 0) = true := by rw [getD_len h]; exact List.all_eq_true.1 hb _ (List.getElem_mem _)
  rcases isBitC_or this with e | e <;> rw [e] <;> decide
/-- digits taken: number, success, rest -/
def dgN (l : List UInt8) (c : Nat) : Nat := if rdB l c 20 = true then rdN l c else 0
def dgR (l : List UInt8) (c : Nat) : List UInt8 := if c ≤ l.length then l.drop c else l
end G294
namespace Go.Proofs.YtlhipceepoenfaaDoor
open Go.RowKit G294

set_option maxRecDepth 100000 in
set_option maxHeartbeats 2000000 in
theorem run_own (S : Nat) (c : UInt8) (l : List UInt8) (w : World) (hc : c.toNat < 128) (hs : RdrB w S l) (hl : l.length ≤ 1000000000000) : Calls Tryd.prog 36 #[.pointer (some ⟨S, 0, none⟩), .string ⟨#[c]⟩] w (RetRd w S (.int .i64 (ldC c l : Nat)) (l.drop (ldC c l))) := by
  have h1 := hs.cell
  have h2 := hs.free
  have HT := Lib.hid (fun W => Tryd.strings_TrimLeft_one (str l) c hc W)
  rw [trim_str] at HT
  have HS := Lib.hid (hs.set (l.drop (ldC c l)))
  have HK := Lib.hid (turn_setR w S 0 (.string (str (l.drop (ldC c l)))))
  have hz1 : (str l).size = l.length := str_size _
  have hz2 : (str (l.drop (ldC c l))).size = l.length - ldC c l := by rw [str_size, List.length_drop]
  have hle := ldC_le c l
  generalize l.drop (ldC c l) = m at *
  generalize ldC c l = k at *
  generalize l.length = n at *
  have ik : (n : Int) - ((n - k : Nat) : Int) = (k : Int) := by omega
  go_enter Tryd.func36, Tryd.ntmps36
  go_wp2_with fail
  refine (HT.out _).mono ?_
  rintro e w1 ⟨rfl, rfl⟩
  go_wp2_with fail
  go_ret
  exact ⟨rfl, HS.out, HK.out⟩

set_option maxRecDepth 100000 in
set_option maxHeartbeats 4000000 in
theorem digits_own (S c : Nat) (l : List UInt8) (w : World) (hs : RdrB w S l) (hl : l.length ≤ 1000000000000) (hcc : c ≤ 1000000000000) : Calls Tryd.prog 37 #[.pointer (some ⟨S, 0, none⟩), .int .i64 c] w (RetRd w S (.tuple #[.int .i64 (dgN l c : Nat), .bool (rdB l c 20)]) (dgR l c)) := by
  have h1 := hs.cell
  have h2 := hs.free
  have hz1 : (str l).size = l.length := str_size _
  by_cases hcl : c ≤ l.length
  · have hR : dgR l c = l.drop c := if_pos hcl
    have hx1 := ext_to l c
    have hx2 := ext_from l c rfl
    have hB : bitsOk (l.take c) 20 = rdB l c 20 := by
      rw [bitsOk, rdB, List.length_take, Nat.min_eq_left hcl]; simp [hcl]
    have HP := Lib.hid (fun W => parsedBits_own (l.take c) 20 W (by omega) (by rw [List.length_take]; omega))
    rw [hB] at HP
    have HS := Lib.hid hs
    have hi : ¬ ((l.length : Nat) : Int) < (c : Int) := by omega
    have HLT : Hid ((l.take c).length = c) := Lib.hid (by rw [List.length_take]; omega)
    have HR := Lib.hid hR
    rw [hR]
    by_cases hok : rdB l c 20 = true
    · have hN : dgN l c = valL (l.take c) := by rw [dgN, if_pos hok]; rfl
      obtain ⟨_, hc20, hall⟩ := rdB_iff.1 hok
      have hp : prsR (l.take c) 20 = raw (l.take c) := by rw [prsR, hB, if_pos hok]
      rw [hp, hok] at HP
      rw [hN, hok]
      have HV : Hid (∀ k, k < c → valL ((l.take c).take (k + 1)) = 2 * valL ((l.take c).take k) + ((raw (l.take c)).getD k 0).toNat) := Lib.hid (fun k hk => by
        rw [valL_step (by rw [HLT.out]; exact hk), raw_bv (by rw [HLT.out]; exact hk) hall])
      have HVB : Hid (∀ k, k ≤ c → valL ((l.take c).take k) < 2097152) := Lib.hid (fun k hk => by
        have := valL_lt ((l.take c).take k)
        rw [List.length_take, HLT.out, Nat.min_eq_left hk] at this
        have h3 : 2 ^ k ≤ 2 ^ 20 := Nat.pow_le_pow_right (by decide) (by omega)
        omega)
      have HV0 : Hid (valL ((l.take c).take 0) = 0) := Lib.hid rfl
      have HVC : Hid (valL ((l.take c).take c) = valL (l.take c)) := Lib.hid (by rw [List.take_take, Nat.min_self])
      have HRL : Hid ((raw (l.take c)).length = c) := Lib.hid (by rw [raw_len, HLT.out])
      generalize raw (l.take c) = r at *
      generalize hT : (fun k => valL ((l.take c).take k)) = V at *
      have HVe : Hid (∀ k, valL ((l.take c).take k) = V k) := Lib.hid (fun k => by rw [← hT])
      simp only [HVe.out] at HV HVB HV0 HVC
      rw [← HVC.out]
      clear hT HVe hN hB hR hp hall HVC
      generalize l.take c = t at *
      generalize l.drop c = d at *
      generalize l.length = n at *
      go_enter Tryd.func37, Tryd.ntmps37
      go_wp2_with fail
      refine (HP.out _).mono ?_
      rintro e w1 ⟨v, rfl, hO, k1⟩
      have R1 := HS.out.keep k1 (.inr (Nat.zero_le _))
      have hc1 := R1.cell
      have hf1 := R1.free
      have HSM := Lib.hid (R1.set d)
      have HKM := Lib.hid (turn_trans (turn_any k1 S (S + 1)) (turn_setR w1 S 0 (.string (str d))) (by omega))
      have O2 := hO.keep (turn_setR w1 S 0 (.string (str d))) (.inr (show S + 1 ≤ w.heap.size from HS.out.lt))
      obtain ⟨A, cp, rfl, _, _, hx⟩ := O2.seen
      have HX := Lib.hid hx
      have hbl : (bys r).length = c := by rw [bys_length, HRL.out]
      rw [hbl] at HX
      rw [hbl]
      have HCL : Hid (w1.setCell ⟨S, 0, none⟩ (.string (str d)) = w1.setCell ⟨S, 0, none⟩ (.string (str d))) := Lib.hid rfl
      clear hx O2 hO R1 hbl HS HP
      go_wp2_with fail
      generalize w1.setCell ⟨S, 0, none⟩ (.string (str d)) = w2 at *
      go_loop [8, 39] (fun v i => ∃ k : Nat, k ≤ c ∧ i = .int .i64 k ∧ v = .int .i64 (V k)) (fun _ i => c - (intOf i).toNat)
      case atStart => exact ⟨0, Nat.zero_le _, rfl, by rw [HV0.out]; rfl⟩
      case round =>
        obtain ⟨k, hk, rfl, rfl⟩ := hrel
        by_cases hlt : k < c
        · have hki : (k : Int) < (c : Int) := by omega
          obtain ⟨b, off, rfl, hbl, hcell⟩ := HX.out (by omega)
          have hcx := hcell k _ (bys_get r k (by rw [HRL.out]; exact hlt))
          rw [← getD_len (by rw [HRL.out]; exact hlt) 0] at hcx
          have hv := HV.out k hlt
          have hb1 := HVB.out k hk
          have hb2 := HVB.out (k + 1) hlt
          have HVK := Lib.hid hv
          generalize r.getD k 0 = x at *
          have hxl : x.toNat < 256 := x.toNat_lt
          rw [hv] at hb2
          clear hcell hv HX
          generalize hVV : V k = a at *
          go_wp2_with fail
          go_round
          case rel => exact ⟨k + 1, by omega, by go_num, congrArg (Value.int .i64) (by rw [HVK.out]; omega)⟩
          case measure => simp [intOf]; omega
        · obtain rfl : k = c := by omega
          have hki : ¬ (k : Int) < (k : Int) := by omega
          go_wp2_with fail
          go_ret2
          exact ⟨rfl, HSM.out, HKM.out⟩
    · have hokf : rdB l c 20 = false := by simpa using hok
      have hN : dgN l c = 0 := by rw [dgN, if_neg hok]
      have hp : prsR (l.take c) 20 = [] := by rw [prsR, hB, if_neg hok]
      rw [hp, hokf] at HP
      rw [hN, hokf]
      clear hN hB hR hp
      generalize l.take c = t at *
      generalize l.drop c = d at *
      generalize l.length = n at *
      go_enter Tryd.func37, Tryd.ntmps37
      go_wp2_with fail
      refine (HP.out _).mono ?_
      rintro e w1 ⟨v, rfl, hO, k1⟩
      have R1 := HS.out.keep k1 (.inr (Nat.zero_le _))
      have hc1 := R1.cell
      have hf1 := R1.free
      have HSM := Lib.hid (R1.set d)
      have HKM := Lib.hid (turn_trans (turn_any k1 S (S + 1)) (turn_setR w1 S 0 (.string (str d))) (by omega))
      obtain ⟨A, cp, rfl⟩ := hO.seen.len
      have hbl : (bys []).length = 0 := rfl
      rw [hbl]
      clear hO R1 hbl HS HP
      go_wp2_with fail
      generalize w1.setCell ⟨S, 0, none⟩ (.string (str d)) = w2 at *
      go_loop [8, 39] (fun v i => i = .int .i64 0 ∧ v = .int .i64 0) (fun _ i => 0)
      case atStart => exact ⟨rfl, rfl⟩
      case round =>
        obtain ⟨rfl, rfl⟩ := hrel
        go_wp2_with fail
        go_ret2
        exact ⟨rfl, HSM.out, HKM.out⟩
  · have hR : dgR l c = l := if_neg hcl
    have hokf : rdB l c 20 = false := by
      cases h : rdB l c 20 with
      | false => rfl
      | true => exact absurd (rdB_iff.1 h).1 hcl
    have hN : dgN l c = 0 := by rw [dgN, hokf]; rfl
    have HS := Lib.hid hs
    have hi : ((l.length : Nat) : Int) < (c : Int) := by omega
    rw [hR, hokf, hN]
    generalize l.length = n at *
    go_enter Tryd.func37, Tryd.ntmps37
    go_wp2_with fail
    go_ret2
    exact ⟨rfl, HS.out, turn_any (TurnIn.refl _) _ _⟩

end Go.Proofs.YtlhipceepoenfaaDoor
