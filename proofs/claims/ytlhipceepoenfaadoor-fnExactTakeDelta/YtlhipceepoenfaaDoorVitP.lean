/- Chapter 10: parsedBits: a loop by goto. (Written by tools/genprs.py.) -/
import Derived.Test.YtlhipceepoenfaaDoorVitI
set_option linter.unusedSimpArgs false
set_option linter.unusedVariables false
namespace G294
open Go Go.RowKit
def prsR (s : List UInt8) (m : Nat) : List UInt8 := if bitsOk s m = true then raw s else []
def lenV : Value → Nat
  | .slice _ n _ => n
  | _ => 0
theorem own_slice {w : World} {base : Nat} {e : TypeId} {v : Value} {n : Nat} {xs : List Value} (h : w.ownsRow base e 1 v n xs) : ∃ A c, v = .slice A n c := by
  rcases h.2 with ⟨rfl, hn⟩ | ⟨g, cap, cur, rfl, _⟩
  · subst hn; exact ⟨_, _, rfl⟩
  · exact ⟨_, _, rfl⟩
end G294
namespace Go.Proofs.YtlhipceepoenfaaDoor
open Go.RowKit G294

set_option maxRecDepth 100000 in
set_option maxHeartbeats 2000000 in
theorem parsedBits_own (s : List UInt8) (m : Nat) (w : World) (hm : m ≤ 1000) (hs : s.length ≤ 1000000000000) : Calls Tryd.prog 51 #[.string (str s), .int .i64 m] w (RetBytesOk 5 w (prsR s m) (bitsOk s m)) := by
  have hsz : (str s).size = s.length := str_size s
  have HR0 : Hid (bitsOk s m = false → prsR s m = []) := fun h => if_neg (by rw [h]; decide)
  have HGET : Hid (∀ k (h : k < (str s).size), (str s)[k] = s.getD k 0) := fun k h => str_get s k h
  have HSN : Hid (∀ k, k < s.length → s.take (k + 1) = s.take k ++ [s.getD k 0]) := fun k h => take_snocD s h
  by_cases h1 : s.length ≤ m
  · generalize hnn : s.length = n at *
    have HN := Lib.hid hnn
    clear hnn
    have h1i : ¬ (m : Int) < (n : Int) := by omega
    go_enter Tryd.func51, Tryd.ntmps51
    go_wp2_with fail
    refine wp_scope_jumps 0 (fun a' wr => ∃ (k : Nat) (v u7 u8 u9 u10 u11 u12 u13 u14 u15 u16 u17 u18 u19 u20 u21 u22 u23 u24 u25 u26 u27 u28 u29 u30 : Value), a' = { tmps := #[.string (str s), .int .i64 m, undef, undef, .slice none 0 0, .bool false, v, u7, u8, u9, u10, u11, u12, u13, u14, u15, u16, u17, u18, u19, u20, u21, u22, u23, u24, u25, u26, u27, u28, u29, u30], defers := [] } ∧ k ≤ n ∧ wr.ownsRow w.heap.size 5 1 v k (bys (raw (s.take k))) ∧ Below w.heap.size w wr ∧ Hid ((s.take k).all isBitC = true)) (fun a' _ => n - lenV (a'.tmps.getD 6 undef)) rfl ?_ ?_
    · go_wp2_with fail
      go_step3
      have hown : w.ownsRow w.heap.size 5 1 (.slice none 0 0) 0 (bys (raw (s.take 0))) := World.ownsRow_nil _ _ _ _
      have hb := Below.refl w.heap.size w
      have HK : Hid ((s.take 0).all isBitC = true) := Lib.hid rfl
      by_cases hlt : 0 < n
      · have hsg := HGET.out 0 (by rw [hsz]; exact hlt)
        have HTS := Lib.hid (HSN.out 0 hlt)
        have HNO : Hid (isBitC (s.getD 0 0) = false → bitsOk s m = false) := Lib.hid (fun h => bitsOk_no (by rw [HN.out]; exact hlt) h)
        have hkn : ((0 : Int) == (n : Int)) = false := by rw [beq_eq_false_iff_ne]; omega
        have hki : (0 : Int) < (n : Int) := by omega
        generalize s.getD 0 0 = c at *
        by_cases hc : isBitC c = true
        · have HK2 : Hid ((s.take (1)).all isBitC = true) := by
            show _ = _
            have e := HTS.out
            try simp only [Nat.zero_add] at e
            rw [e, List.all_append, HK.out]; simp [hc]
          have HR2 : Hid (raw (s.take (1)) = raw (s.take 0) ++ [c - 48]) := by
            show _ = _
            have e := HTS.out
            try simp only [Nat.zero_add] at e
            rw [e, raw_append]; rfl
          rcases isBit_b0 hc with ⟨e1, e2, e3⟩ | ⟨e1, e2, e3, e4, e5⟩
          · have HC : Hid (((c - 48).toNat : Int) = 0) := by show _ = _; rw [e3]; rfl
            have HO2 := Lib.hid (hown.alloc (.cells #[.int .u8 0] 5))
            have KA := Lib.hid (hb.alloc hb.size (.cells #[.int .u8 0] 5))
            clear hc HTS HNO hown hb e1 e3
            go_wp2_with (at_builtin; refine wpList_append1 rfl _ _ _ rfl w.heap.size 5 _ _ Tryd.underlying61 infoByte rfl _ 0 _ rfl HO2.out w.heap.size (.int .u8 0) rfl ?f01 rfl ?f02 ?f03 ?f04 ?_)
            case f01 => simp
            case f02 => omega
            case f03 => omega
            case f04 => have := KA.out.size; first | exact this | (simp; omega) | simp
            intro v2 w2 hown2 hg2 _
            have hb2 : Below w.heap.size w w2 := KA.out.grown hg2 KA.out.size (fun g e => (HO2.out.lt g e).1)
            have hon : w2.ownsRow w.heap.size 5 1 v2 (1) (bys (raw (s.take (1)))) := by
              have e := hown2
              try simp only [Nat.zero_add] at e
              rw [HR2.out, bys_snoc, HC.out]; exact e
            obtain ⟨A2, c2, hv2⟩ := own_slice hon
            subst hv2
            clear hown2 hg2 KA HO2
            go_wp2_with fail
            go_step3
            exact ⟨rfl, 1, .slice A2 (1) c2, _, _, _, _, _, _, _, _, _, _, _, _, _, _, _, _, _, _, _, _, _, _, _, _, rfl, by omega, hon, hb2, HK2⟩
          · have HC : Hid (((c - 48).toNat : Int) = 1) := by show _ = _; rw [e5]; rfl
            have HO2 := Lib.hid (hown.alloc (.cells #[.int .u8 1] 5))
            have KA := Lib.hid (hb.alloc hb.size (.cells #[.int .u8 1] 5))
            clear hc HTS HNO hown hb e1 e3 e5
            go_wp2_with (at_builtin; refine wpList_append1 rfl _ _ _ rfl w.heap.size 5 _ _ Tryd.underlying61 infoByte rfl _ 0 _ rfl HO2.out w.heap.size (.int .u8 1) rfl ?f11 rfl ?f12 ?f13 ?f14 ?_)
            case f11 => simp
            case f12 => omega
            case f13 => omega
            case f14 => have := KA.out.size; first | exact this | (simp; omega) | simp
            intro v2 w2 hown2 hg2 _
            have hb2 : Below w.heap.size w w2 := KA.out.grown hg2 KA.out.size (fun g e => (HO2.out.lt g e).1)
            have hon : w2.ownsRow w.heap.size 5 1 v2 (1) (bys (raw (s.take (1)))) := by
              have e := hown2
              try simp only [Nat.zero_add] at e
              rw [HR2.out, bys_snoc, HC.out]; exact e
            obtain ⟨A2, c2, hv2⟩ := own_slice hon
            subst hv2
            clear hown2 hg2 KA HO2
            go_wp2_with fail
            go_step3
            exact ⟨rfl, 1, .slice A2 (1) c2, _, _, _, _, _, _, _, _, _, _, _, _, _, _, _, _, _, _, _, _, _, _, _, _, rfl, by omega, hon, hb2, HK2⟩
        · have hcf : isBitC c = false := by simpa using hc
          have HF := Lib.hid (HNO.out hcf)
          have HR := Lib.hid (HR0.out HF.out)
          obtain ⟨e1, e2, e3, e4⟩ := isBit_no hcf
          clear hc hcf HTS HNO e1 e2 hown
          go_wp2_with fail
          simp only [Exit.jump]
          go_ret2
          exact ⟨_, by rw [HF.out]; rfl, by rw [HR.out]; exact OwnBytes.nil _ _ _, TurnIn.of_below hb⟩
      · have hk0 : n = 0 := by omega
        subst hk0
        have hkn : ((0 : Int) == ((0 : Nat) : Int)) = true := by simp
        have HV : Hid (bitsOk s m = true) := by
          show _ = _
          have := HK.out
          rw [List.take_of_length_le (by rw [HN.out]; exact Nat.le_refl _)] at this
          simp [bitsOk, this, HN.out, h1]
        have HR : Hid (prsR s m = raw (s.take 0)) := by
          show _ = _
          unfold prsR; rw [if_pos HV.out, List.take_of_length_le (by rw [HN.out]; exact Nat.le_refl _)]
        have HO : Hid (OwnBytes 5 w w.heap.size w.heap.size (.slice none 0 0) (raw (s.take 0))) := ⟨by rw [raw_len, List.length_take, HN.out, Nat.min_self]; exact hown, Nat.le_refl _, fun g e => (hown.lt g e).2⟩
        clear hown
        go_wp2_with fail
        simp only [Exit.jump]
        go_ret2
        exact ⟨_, by rw [HV.out]; rfl, by rw [HR.out]; exact HO.out, TurnIn.of_below hb⟩
    · rintro a' wr ⟨k, v, u7, u8, u9, u10, u11, u12, u13, u14, u15, u16, u17, u18, u19, u20, u21, u22, u23, u24, u25, u26, u27, u28, u29, u30, rfl, hk, hown, hb, HK⟩
      obtain ⟨A, c0, hvv⟩ := own_slice hown
      subst hvv
      by_cases hlt : k < n
      · have hsg := HGET.out k (by rw [hsz]; exact hlt)
        have HTS := Lib.hid (HSN.out k hlt)
        have HNO : Hid (isBitC (s.getD k 0) = false → bitsOk s m = false) := Lib.hid (fun h => bitsOk_no (by rw [HN.out]; exact hlt) h)
        have hkn : ((k : Int) == (n : Int)) = false := by rw [beq_eq_false_iff_ne]; omega
        have hki : (k : Int) < (n : Int) := by omega
        generalize s.getD k 0 = c at *
        by_cases hc : isBitC c = true
        · have HK2 : Hid ((s.take (k + 1)).all isBitC = true) := by
            show _ = _
            have e := HTS.out
            try simp only [Nat.zero_add] at e
            rw [e, List.all_append, HK.out]; simp [hc]
          have HR2 : Hid (raw (s.take (k + 1)) = raw (s.take k) ++ [c - 48]) := by
            show _ = _
            have e := HTS.out
            try simp only [Nat.zero_add] at e
            rw [e, raw_append]; rfl
          rcases isBit_b0 hc with ⟨e1, e2, e3⟩ | ⟨e1, e2, e3, e4, e5⟩
          · have HC : Hid (((c - 48).toNat : Int) = 0) := by show _ = _; rw [e3]; rfl
            have HO2 := Lib.hid (hown.alloc (.cells #[.int .u8 0] 5))
            have KA := Lib.hid (hb.alloc hb.size (.cells #[.int .u8 0] 5))
            clear hc HTS HNO hown hb e1 e3
            go_wp2_with (at_builtin; refine wpList_append1 rfl _ _ _ rfl w.heap.size 5 _ _ Tryd.underlying61 infoByte rfl _ k _ rfl HO2.out wr.heap.size (.int .u8 0) rfl ?p01 rfl ?p02 ?p03 ?p04 ?_)
            case p01 => simp
            case p02 => omega
            case p03 => omega
            case p04 => have := KA.out.size; first | exact this | (simp; omega) | simp
            intro v2 w2 hown2 hg2 _
            have hb2 : Below w.heap.size w w2 := KA.out.grown hg2 KA.out.size (fun g e => (HO2.out.lt g e).1)
            have hon : w2.ownsRow w.heap.size 5 1 v2 (k + 1) (bys (raw (s.take (k + 1)))) := by
              have e := hown2
              try simp only [Nat.zero_add] at e
              rw [HR2.out, bys_snoc, HC.out]; exact e
            obtain ⟨A2, c2, hv2⟩ := own_slice hon
            subst hv2
            clear hown2 hg2 KA HO2
            go_wp2_with fail
            go_step3
            refine ⟨rfl, ⟨k + 1, .slice A2 (k + 1) c2, _, _, _, _, _, _, _, _, _, _, _, _, _, _, _, _, _, _, _, _, _, _, _, _, rfl, by omega, hon, hb2, HK2⟩, ?_⟩
            show n - (k + 1) < n - k
            omega
          · have HC : Hid (((c - 48).toNat : Int) = 1) := by show _ = _; rw [e5]; rfl
            have HO2 := Lib.hid (hown.alloc (.cells #[.int .u8 1] 5))
            have KA := Lib.hid (hb.alloc hb.size (.cells #[.int .u8 1] 5))
            clear hc HTS HNO hown hb e1 e3 e5
            go_wp2_with (at_builtin; refine wpList_append1 rfl _ _ _ rfl w.heap.size 5 _ _ Tryd.underlying61 infoByte rfl _ k _ rfl HO2.out wr.heap.size (.int .u8 1) rfl ?p11 rfl ?p12 ?p13 ?p14 ?_)
            case p11 => simp
            case p12 => omega
            case p13 => omega
            case p14 => have := KA.out.size; first | exact this | (simp; omega) | simp
            intro v2 w2 hown2 hg2 _
            have hb2 : Below w.heap.size w w2 := KA.out.grown hg2 KA.out.size (fun g e => (HO2.out.lt g e).1)
            have hon : w2.ownsRow w.heap.size 5 1 v2 (k + 1) (bys (raw (s.take (k + 1)))) := by
              have e := hown2
              try simp only [Nat.zero_add] at e
              rw [HR2.out, bys_snoc, HC.out]; exact e
            obtain ⟨A2, c2, hv2⟩ := own_slice hon
            subst hv2
            clear hown2 hg2 KA HO2
            go_wp2_with fail
            go_step3
            refine ⟨rfl, ⟨k + 1, .slice A2 (k + 1) c2, _, _, _, _, _, _, _, _, _, _, _, _, _, _, _, _, _, _, _, _, _, _, _, _, rfl, by omega, hon, hb2, HK2⟩, ?_⟩
            show n - (k + 1) < n - k
            omega
        · have hcf : isBitC c = false := by simpa using hc
          have HF := Lib.hid (HNO.out hcf)
          have HR := Lib.hid (HR0.out HF.out)
          obtain ⟨e1, e2, e3, e4⟩ := isBit_no hcf
          clear hc hcf HTS HNO e1 e2 hown
          go_wp2_with fail
          simp only [Exit.jump]
          go_ret2
          exact ⟨_, by rw [HF.out]; rfl, by rw [HR.out]; exact OwnBytes.nil _ _ _, TurnIn.of_below hb⟩
      · obtain rfl : k = n := by omega
        have hkn : ((k : Int) == (k : Int)) = true := by simp
        have HV : Hid (bitsOk s m = true) := by
          show _ = _
          have := HK.out
          rw [List.take_of_length_le (by rw [HN.out]; exact Nat.le_refl _)] at this
          simp [bitsOk, this, HN.out, h1]
        have HR : Hid (prsR s m = raw (s.take k)) := by
          show _ = _
          unfold prsR; rw [if_pos HV.out, List.take_of_length_le (by rw [HN.out]; exact Nat.le_refl _)]
        have HO : Hid (OwnBytes 5 wr w.heap.size wr.heap.size (.slice A k c0) (raw (s.take k))) := ⟨by rw [raw_len, List.length_take, HN.out, Nat.min_self]; exact hown, Nat.le_refl _, fun g e => (hown.lt g e).2⟩
        clear hown
        go_wp2_with fail
        simp only [Exit.jump]
        go_ret2
        exact ⟨_, by rw [HV.out]; rfl, by rw [HR.out]; exact HO.out, TurnIn.of_below hb⟩
  · have HF : Hid (bitsOk s m = false) := by show _ = _; simp [bitsOk, h1]
    have HR := Lib.hid (HR0.out HF.out)
    generalize hnn : s.length = n at *
    clear hnn
    have h1i : (m : Int) < (n : Int) := by omega
    go_enter Tryd.func51, Tryd.ntmps51
    go_wp2_with fail
    refine wp_scope_jumps 0 (fun a' wr => False) (fun a' _ => 0) rfl ?_ ?_
    · go_wp2_with fail
      simp only [Exit.jump]
      go_ret2
      exact ⟨_, by rw [HF.out]; rfl, by rw [HR.out]; exact OwnBytes.nil _ _ _, TurnIn.refl _⟩
    · intro a' wr h
      exact h.elim

end Go.Proofs.YtlhipceepoenfaaDoor
