/- Chapter 11: Transform, the model's. -/
import Derived.Test.YtbfchebnooanjaaTrfX
set_option linter.unusedSimpArgs false
set_option linter.unusedVariables false
namespace G294
open Go Go.RowKit
theorem turn_grownBy {w w1 w2 : World} {row : Option Nat} (t : TurnIn 0 0 w w1) (hg : w1.grownBy w2 row) (hr : ∀ g, row = some g → w.heap.size ≤ g) : TurnIn 0 0 w w2 := growT t hg hr
end G294
namespace Go.Proofs.Ytbfchebnooanjaa
open Go.RowKit G294

set_option maxRecDepth 100000 in
set_option maxHeartbeats 2000000 in
theorem l11Transform_own (s : List UInt8) (w : World) (hs : s.length ≤ 120) : Calls Try.prog 39 #[.string (str s)] w (RetTrf2 w (lastL s) (at0 (trn s) s.length : Nat)) := by
  have hsz : (str s).size = s.length := str_size s
  have HT := Lib.hid (l11Turns_own s w hs)
  have HLT := Lib.hid (fun k (hk : k < s.length) => trn_lt (s := s) hk)
  have HG : Hid (∀ k, k < s.length → (natI (trn s))[k]? = some (((trn s).getD k 0 : Nat) : Int)) := fun k hk => natI_get (trn s) k (by rw [trn_len]; exact hk)
  have HLN := Lib.hid (fun k (hk : k ≤ s.length) => lastN_len s hk)
  have HLS := Lib.hid (fun k (hk : k < s.length) => lastN_succ s hk)
  have HLA : Hid (lastN s s.length = lastL s) := lastN_all s
  have HLD : Hid (∀ k, lastAt s k = s.getD ((k + s.length - 1) % s.length) 0) := fun _ => rfl
  have HSG := Lib.hid (fun k h => str_get s k h)
  have HA := Lib.hid (at0_le (trn s))
  have HA1 := Lib.hid (fun k h => at0_yes (l := trn s) (k := k) h)
  have HA2 := Lib.hid (fun k h => at0_not (l := trn s) (k := k) h)
  have HA0 : Hid (at0 (trn s) 0 = 0) := rfl
  have HL0 : Hid (lastN s 0 = []) := rfl
  have HNN : Hid ((natI (trn s)).length = s.length) := by show _ = _; rw [natI_len, trn_len]
  have HND : Hid (∀ k, k < s.length → (k + s.length - 1) % s.length < s.length) := fun k hk => Nat.mod_lt _ (by omega)
  have HNU := Lib.hid (fun k (hk : k < s.length) => last_num (k := k) (n := s.length) hk)
  generalize trn s = T at *
  generalize hnn : s.length = n at *
  clear hnn
  go_enter Try.func39, Try.ntmps39
  go_wp2_with fail
  refine HT.out.mono ?_
  rintro e w1 ⟨v, rfl, hO, hT⟩
  have HOT := Lib.hid hO
  have HTU := Lib.hid hT
  obtain ⟨A, c, hv⟩ := hO.seen.len
  rw [ints_length, HNN.out] at hv
  subst hv
  have hw1 := hT.size
  have HOW0 : Hid (w1.ownsRow w1.heap.size 5 1 (.slice none 0 0) 0 (bys (lastN s 0))) := by
    show World.ownsRow _ _ _ _ _ _ _
    rw [HL0.out]; exact World.ownsRow_nil _ _ _ _
  clear hO hT HT
  go_wp2_with fail
  go_loopw [4, 5, 11] (fun v x y wr => ∃ k : Nat, k ≤ n ∧ y = .int .i64 k ∧ x = .int .i64 (at0 T k : Nat) ∧ Hid (wr.ownsRow w1.heap.size 5 1 v k (bys (lastN s k))) ∧ Hid (TurnIn 0 0 w1 wr)) (fun _ _ y _ => n - (intOf y).toNat)
  case atStart => exact ⟨0, Nat.zero_le _, rfl, by rw [HA0.out]; rfl, HOW0, Lib.hid (TurnIn.refl _)⟩
  case round =>
    clear HOW0
    obtain ⟨k, hk, rfl, rfl, HB, HK⟩ := hrel
    by_cases hlt : k < n
    · have hki : (k : Int) < (n : Int) := by omega
      have hle := HA.out k
      have ht := HLT.out k hlt
      have hND := HND.out _ ht
      have hNU := HNU.out _ ht
      have HLS2 := Lib.hid (HLS.out k hlt)
      have HLD2 := Lib.hid (HLD.out (T.getD k 0))
      have HAY := Lib.hid (HA1.out k)
      have HAN := Lib.hid (HA2.out k)
      have HOT3 := HOT.out.keep HK.out (by omega)
      obtain ⟨A', c', e, _, _, h3⟩ := HOT3.seen
      rw [ints_length, HNN.out] at e h3
      simp only [Value.slice.injEq] at e
      obtain ⟨rfl, he, rfl⟩ := e
      clear he
      obtain ⟨b, o, rfl, hbb, hcc⟩ := h3 (by omega)
      have c1 : wr.cell? ⟨b, o + k, none⟩ = some (.int .i64 ((T.getD k 0 : Nat) : Int)) := hcc k _ (by
        simp only [ints, List.getElem?_map, HG.out k hlt, Option.map_some])
      generalize T.getD k 0 = t at *
      obtain ⟨q, hq⟩ : ∃ q, (t + n - 1) % n = q := ⟨_, rfl⟩
      rw [hq] at hND hNU HLD2
      have hqs : q < (str s).size := by rw [hsz]; exact hND
      have g1 := HSG.out q hqs
      rw [← HLD2.out] at g1
      generalize lastAt s t = y at *
      have HO2 := Lib.hid (HB.out.alloc (.cells #[.int .u8 (y.toNat : Int)] 5))
      have KA := Lib.hid (turn_trans HK.out (turn_alloc wr (.cells #[.int .u8 (y.toNat : Int)] 5)) (by omega))
      have hwr := HK.out.size
      clear HB HOT3 h3 hcc hq HLD2
      by_cases hz : t = 0
      · subst hz
        have hNU0 : (-1 : Int) % (n : Int) = (q : Int) := by simpa using hNU
        have HAE := Lib.hid (HAY.out rfl)
        clear HAY HAN
        go_wp2_with (at_builtin; refine wpList_append1 rfl _ _ _ rfl w1.heap.size 5 _ _ Try.underlying22 infoByte rfl _ k _ rfl HO2.out wr.heap.size (.int .u8 (y.toNat : Int)) rfl ?c1 rfl ?c2 ?c3 ?c4 ?_)
        case c1 => simp
        case c2 => omega
        case c3 => omega
        case c4 => simp; omega
        intro v' w3 hown3 hg3 _
        have K3 := Lib.hid (growT KA.out hg3 (fun g e => (HO2.out.lt g e).1))
        have HO3 : Hid (w3.ownsRow w1.heap.size 5 1 v' (k + 1) (bys (lastN s (k + 1)))) := by
          show World.ownsRow _ _ _ _ _ _ _
          rw [HLS2.out, bys_append]; exact hown3
        clear hown3 hg3 HO2 KA
        go_wp2_with fail
        go_roundw
        case rel => exact ⟨k + 1, by omega, by go_num, by rw [HAE.out], HO3, K3⟩
        case measure => simp [intOf]; omega
      · have hzb : ((t : Int) == 0) = false := beq_eq_false_iff_ne.2 (by omega)
        have HAE := Lib.hid (HAN.out hz)
        clear HAY HAN hz
        go_wp2_with (at_builtin; refine wpList_append1 rfl _ _ _ rfl w1.heap.size 5 _ _ Try.underlying22 infoByte rfl _ k _ rfl HO2.out wr.heap.size (.int .u8 (y.toNat : Int)) rfl ?c1 rfl ?c2 ?c3 ?c4 ?_)
        case c1 => simp
        case c2 => omega
        case c3 => omega
        case c4 => simp; omega
        intro v' w3 hown3 hg3 _
        have K3 := Lib.hid (growT KA.out hg3 (fun g e => (HO2.out.lt g e).1))
        have HO3 : Hid (w3.ownsRow w1.heap.size 5 1 v' (k + 1) (bys (lastN s (k + 1)))) := by
          show World.ownsRow _ _ _ _ _ _ _
          rw [HLS2.out, bys_append]; exact hown3
        clear hown3 hg3 HO2 KA
        go_wp2_with fail
        go_roundw
        case rel => exact ⟨k + 1, by omega, by go_num, by rw [HAE.out], HO3, K3⟩
        case measure => simp [intOf]; omega
    · obtain rfl : k = n := by omega
      have hki : ¬ (k : Int) < (k : Int) := by omega
      have hseen : Seen wr u4 (bys (lastL s)) := by
        have := Seen.of_own HB.out
        rw [HLA.out] at this
        exact this
      obtain ⟨A4, c4, h4⟩ := hseen.len
      rw [bys_length] at h4
      generalize (lastL s).length = n4 at h4
      have hconv := run_string_seen (P := Try.prog) 22 5 9 Try.underlying22 Try.underlying5 Try.underlying9 hseen
      have HF : Hid (TurnIn 0 0 w wr) := turn_trans HTU.out HK.out (by omega)
      subst h4
      clear HB HK hseen
      go_wp2_with fail
      go_ret2
      exact ⟨rfl, HF.out⟩

set_option maxHeartbeats 1000000 in
theorem sTransform_own (s : List UInt8) (w : World) (hs : s.length ≤ 1000000000000) : Calls Try.prog 15 #[.string (str s)] w (RetTrf w (trfR s) (trfX s) (trnOk s)) := by
  have hsz : (str s).size = s.length := str_size s
  by_cases h : s.length ≤ 120
  · have HO : Hid (trnOk s = true) := by show _ = _; simpa [trnOk] using h
    have HR := Lib.hid (trfR_yes HO.out)
    have HX := Lib.hid (trfX_yes HO.out)
    have HT := Lib.hid (l11Transform_own s w h)
    rw [HR.out, HX.out, HO.out]
    generalize at0 (trn s) s.length = x at *
    generalize s.length = n at *
    go_enter Try.func15, Try.ntmps15
    go_wp2_with fail
    refine HT.out.mono ?_
    rintro e w1 ⟨rfl, k1⟩
    have K1 := Lib.hid k1
    clear k1
    go_wp2_with fail
    go_ret3
    exact ⟨rfl, K1.out⟩
  · have HO : Hid (trnOk s = false) := by show _ = _; simpa [trnOk] using h
    have HR := Lib.hid (trfR_no HO.out)
    have HX := Lib.hid (trfX_no HO.out)
    rw [HR.out, HX.out, HO.out]
    generalize s.length = n at *
    go_enter Try.func15, Try.ntmps15
    go_wp2_with fail
    go_ret3
    exact ⟨rfl, TurnIn.refl _⟩
end Go.Proofs.Ytbfchebnooanjaa
