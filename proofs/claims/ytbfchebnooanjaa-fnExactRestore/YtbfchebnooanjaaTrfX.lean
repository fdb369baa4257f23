/- Chapter 11: Transform, the program's and the model's. -/
import Derived.Test.YtbfchebnooanjaaTurS2
import Derived.Test.YtbfchebnooanjaaRotX
set_option linter.unusedSimpArgs false
set_option linter.unusedVariables false
namespace G294
open Go Go.RowKit
/-- the last byte of the rotation by k -/
def lastAt (s : List UInt8) (k : Nat) : UInt8 := s.getD ((k + s.length - 1) % s.length) 0
def lastN (s : List UInt8) (k : Nat) : List UInt8 := ((trn s).take k).map (lastAt s)
def lastL (s : List UInt8) : List UInt8 := (trn s).map (lastAt s)
/-- where the number 0 stands last among the first k -/
def at0 (l : List Nat) : Nat → Nat
  | 0 => 0
  | k + 1 => if l.getD k 0 = 0 then k else at0 l k
theorem at0_le (l : List Nat) : ∀ k, at0 l k ≤ k
  | 0 => Nat.le_refl _
  | k + 1 => by have := at0_le l k; unfold at0; split <;> omega
theorem at0_yes {l : List Nat} {k : Nat} (h : l.getD k 0 = 0) : at0 l (k + 1) = k := by unfold at0; rw [if_pos h]
theorem at0_not {l : List Nat} {k : Nat} (h : l.getD k 0 ≠ 0) : at0 l (k + 1) = at0 l k := by rw [at0, if_neg h]
theorem lastN_len (s : List UInt8) {k : Nat} (h : k ≤ s.length) : (lastN s k).length = k := by simp [lastN, trn_len]; omega
theorem lastN_succ (s : List UInt8) {k : Nat} (h : k < s.length) : lastN s (k + 1) = lastN s k ++ [lastAt s ((trn s).getD k 0)] := by
  unfold lastN
  rw [List.take_add_one, List.getElem?_eq_getElem (by rw [trn_len]; exact h), getD_len (by rw [trn_len]; exact h), List.map_append]
  rfl
theorem lastN_all (s : List UInt8) : lastN s s.length = lastL s := by
  unfold lastN lastL
  rw [List.take_of_length_le (by rw [trn_len]; exact Nat.le_refl _)]
def trfR (s : List UInt8) : List UInt8 := if trnOk s = true then lastL s else []
def trfX (s : List UInt8) : Int := if trnOk s = true then (at0 (trn s) s.length : Nat) else 0
theorem trfR_no {s : List UInt8} (h : trnOk s = false) : trfR s = [] := if_neg (by rw [h]; decide)
theorem trfR_yes {s : List UInt8} (h : trnOk s = true) : trfR s = lastL s := if_pos h
theorem trfX_no {s : List UInt8} (h : trnOk s = false) : trfX s = 0 := if_neg (by rw [h]; decide)
theorem trfX_yes {s : List UInt8} (h : trnOk s = true) : trfX s = (at0 (trn s) s.length : Nat) := if_pos h
theorem trn_lt {s : List UInt8} {k : Nat} (h : k < s.length) : (trn s).getD k 0 < s.length := trnN_getD h
def RetTrf (w : World) (s : List UInt8) (n : Int) (ok : Bool) (e : Ending) (w' : World) : Prop := e = .returned (.tuple #[.string (str s), .int .i64 n, .bool ok]) ∧ TurnIn 0 0 w w'
def RetTrf2 (w : World) (s : List UInt8) (n : Int) (e : Ending) (w' : World) : Prop := e = .returned (.tuple #[.string (str s), .int .i64 n]) ∧ TurnIn 0 0 w w'
theorem fill_set {l : List UInt8} {k n : Nat} (x : UInt8) (hl : l.length = k) (hk : k < n) : (l ++ List.replicate (n - k) 0).set k x = (l ++ [x]) ++ List.replicate (n - (k + 1)) 0 := by
  have e : List.replicate (n - k) (0 : UInt8) = 0 :: List.replicate (n - (k + 1)) 0 := by
    rw [← List.replicate_succ]; congr 1; omega
  rw [e, List.set_append, if_neg (by omega), hl, Nat.sub_self, List.append_assoc]; rfl
theorem fill_at {l : List UInt8} {k n : Nat} (hl : l.length = k) (hk : k < n) : (l ++ List.replicate (n - k) 0)[k]? = some 0 := by
  rw [List.getElem?_append_right (by omega), hl, Nat.sub_self, List.getElem?_replicate, if_pos (by omega)]
theorem turn_setR (w : World) (B o : Nat) (x : Value) : TurnIn B (B + 1) w (w.setCell ⟨B, o, none⟩ x) := turn_setF w B o x
theorem last_num {k n : Nat} (h : k < n) : ((k : Int) + (n : Int) - 1) % (n : Int) = (((k + n - 1) % n : Nat) : Int) := by
  rw [show (k : Int) + (n : Int) - 1 = ((k + n - 1 : Nat) : Int) by omega, ← Int.natCast_emod]
end G294
namespace Go.Proofs.Ytbfchebnooanjaa
open Go.RowKit G294

set_option maxRecDepth 100000 in
set_option maxHeartbeats 2000000 in
theorem transform_own (s : List UInt8) (w : World) (hs : s.length ≤ 1000000000000) : Calls Try.prog 14 #[.string (str s)] w (RetTrf w (trfR s) (trfX s) (trnOk s)) := by
  obtain ⟨i0, hi0, hz0, hz1, hz2⟩ := info_parts infoByte
  have hsz : (str s).size = s.length := str_size s
  have HT := Lib.hid (turnsOf_own s w hs)
  by_cases h : trnOk s = true
  · have HO := Lib.hid h
    have HR := Lib.hid (trfR_yes h)
    have HX := Lib.hid (trfX_yes h)
    have HTR := Lib.hid (trnR_yes h)
    have hn : s.length ≤ 120 := by simpa [trnOk] using h
    have HLT := Lib.hid (fun k (hk : k < s.length) => trn_lt (s := s) hk)
    have HG : Hid (∀ k, k < s.length → (natI (trn s))[k]? = some (((trn s).getD k 0 : Nat) : Int)) := fun k hk => natI_get (trn s) k (by rw [trn_len]; exact hk)
    have HLN := Lib.hid (fun k (hk : k ≤ s.length) => lastN_len s hk)
    have HLS := Lib.hid (fun k (hk : k < s.length) => lastN_succ s hk)
    have HLA : Hid (lastN s s.length = lastL s) := lastN_all s
    have HLD : Hid (∀ k, lastAt s k = s.getD ((k + s.length - 1) % s.length) 0) := fun _ => rfl
    have HSG := Lib.hid (fun k h => str_get s k h)
    have HA := Lib.hid (at0_le (trn s))
    have HA1 := Lib.hid (fun k h => at0_yes (l := trn s) (k := k) h)
    have HA2 := Lib.hid (fun k h => at0_not (l := trn s) (k := k) h)
    have HA0 : Hid (at0 (trn s) 0 = 0) := rfl
    have HL0 : Hid (lastN s 0 = []) := rfl
    have HNN : Hid ((natI (trn s)).length = s.length) := by show _ = _; rw [natI_len, trn_len]
    rw [HTR.out, HO.out] at HT
    rw [HR.out, HX.out, HO.out]
    have HND : Hid (∀ k, k < s.length → (k + s.length - 1) % s.length < s.length) := fun k hk => Nat.mod_lt _ (by omega)
    have HNU := Lib.hid (fun k (hk : k < s.length) => last_num (k := k) (n := s.length) hk)
    generalize trn s = T at *
    clear h
    generalize hnn : s.length = n at *
    clear hnn
    go_enter Try.func14, Try.ntmps14
    go_wp2_with fail
    refine HT.out.mono ?_
    rintro e w1 ⟨v, rfl, hO, hT⟩
    have HOT := Lib.hid hO
    have HTU := Lib.hid hT
    obtain ⟨A, c, hv⟩ := hO.seen.len
    rw [ints_length, HNN.out] at hv
    subst hv
    clear hO hT HT
    go_wp2_with (at_make; refine wpList_make_full _ rfl _ _ _ rfl w1.heap.size _ i0 _ 1 Try.underlying22 hi0 hz0 hz1 _ _ _ _ n rfl rfl rfl rfl ?b2 ?b3 ?b4 ?_)
    case b2 => rw [hz2]; omega
    case b3 => unfold maxLen; omega
    case b4 => exact Nat.le_refl _
    intro w2 hown1 hg1
    have hb1 : TurnIn 0 0 w1 w2 := TurnIn.of_grown (lo := 0) (hi := 0) hg1 (fun g h => by simp at h)
    rw [toList_madeCells_one] at hown1
    have hBlt := (hown1.lt w1.heap.size rfl).2
    have HB0 : Hid (OwnBytes 5 w2 w1.heap.size (w1.heap.size + 1) (.slice (some ⟨w1.heap.size, 0, none⟩) n n) (lastN s 0 ++ List.replicate (n - 0) 0)) := by
      refine ⟨?_, by omega, fun g hg => ?_⟩
      · have e : bys (lastN s 0 ++ List.replicate (n - 0) 0) = List.replicate n (.int .u8 0) := by rw [HL0.out]; simp [bys]
        rw [e, HL0.out]
        simpa using hown1
      · have e : w1.heap.size = g := by simpa [Value.ownBlock] using hg
        omega
    have HOT2 := Lib.hid (HOT.out.keep hb1 (by omega))
    have HTU2 := Lib.hid (turn_trans HTU.out hb1 (by omega))
    have hw1 := HTU.out.size
    clear hg1 hown1 HOT HTU hb1
    generalize w1.heap.size = B at *
    go_wp2_with fail
    go_loopw [8, 23] (fun x y wr => ∃ k : Nat, k ≤ n ∧ y = .int .i64 k ∧ x = .int .i64 (at0 T k : Nat) ∧ Hid (OwnBytes 5 wr B (B + 1) (.slice (some ⟨B, 0, none⟩) n n) (lastN s k ++ List.replicate (n - k) 0)) ∧ Hid (TurnIn B (B + 1) w2 wr)) (fun _ y _ => n - (intOf y).toNat)
    case atStart => exact ⟨0, Nat.zero_le _, rfl, by rw [HA0.out]; rfl, HB0, Lib.hid ⟨rfl, rfl, rfl, Nat.le_refl _, fun _ _ _ => rfl⟩⟩
    case round =>
      clear HB0
      obtain ⟨k, hk, rfl, rfl, HB, HK⟩ := hrel
      by_cases hlt : k < n
      · have hki : (k : Int) < (n : Int) := by omega
        have hle := HA.out k
        have ht := HLT.out k hlt
        have hND := HND.out _ ht
        have hNU := HNU.out _ ht
        have HLK := Lib.hid (HLN.out k (by omega))
        have HLS2 := Lib.hid (HLS.out k hlt)
        have HLD2 := Lib.hid (HLD.out (T.getD k 0))
        have HAY := Lib.hid (HA1.out k)
        have HAN := Lib.hid (HA2.out k)
        have HOT3 := HOT2.out.keep HK.out (by omega)
        obtain ⟨A', c', e, _, _, h3⟩ := HOT3.seen
        rw [ints_length, HNN.out] at e h3
        simp only [Value.slice.injEq] at e
        obtain ⟨rfl, he, rfl⟩ := e
        clear he
        obtain ⟨b, o, rfl, hbb, hcc⟩ := h3 (by omega)
        have c1 : wr.cell? ⟨b, o + k, none⟩ = some (.int .i64 ((T.getD k 0 : Nat) : Int)) := hcc k _ (by
          simp only [ints, List.getElem?_map, HG.out k hlt, Option.map_some])
        generalize T.getD k 0 = t at *
        obtain ⟨q, hq⟩ : ∃ q, (t + n - 1) % n = q := ⟨_, rfl⟩
        rw [hq] at hND hNU HLD2
        have hqs : q < (str s).size := by rw [hsz]; exact hND
        have g1 := HSG.out q hqs
        rw [← HLD2.out] at g1
        generalize lastAt s t = y at *
        have hOn := HB.out.1
        rw [List.length_append, HLK.out, List.length_replicate, show k + (n - k) = n by omega] at hOn
        have hcb := hOn.cellAt k (by omega)
        have hfz := hOn.frozenAt k
        rw [show (bys (lastN s k ++ List.replicate (n - k) 0))[k]? = some (.int .u8 0) by
          simp only [bys, List.getElem?_map, fill_at HLK.out hlt]; rfl] at hcb
        have HST := Lib.hid (HB.out.store (q := k) (x := y) (by rw [List.length_append, HLK.out, List.length_replicate]; omega) (fill_set y HLK.out hlt))
        rw [← HLS2.out] at HST
        have HKS := Lib.hid (turn_trans HK.out (turn_setR wr B k (.int .u8 (y.toNat : Int))) (by omega))
        clear HB HK HOT3 h3 hcc hq HLD2 HLS2 hOn
        by_cases hz : t = 0
        · subst hz
          have hNU0 : (-1 : Int) % (n : Int) = (q : Int) := by simpa using hNU
          have HAE := Lib.hid (HAY.out rfl)
          clear HAY HAN
          go_wp2_with fail
          go_roundw
          case rel => exact ⟨k + 1, by omega, by go_num, by rw [HAE.out], HST, HKS⟩
          case measure => simp [intOf]; omega
        · have hzb : ((t : Int) == 0) = false := beq_eq_false_iff_ne.2 (by omega)
          have HAE := Lib.hid (HAN.out hz)
          clear HAY HAN hz
          go_wp2_with fail
          go_roundw
          case rel => exact ⟨k + 1, by omega, by go_num, by rw [HAE.out], HST, HKS⟩
          case measure => simp [intOf]; omega
      · obtain rfl : k = n := by omega
        have hki : ¬ (k : Int) < (k : Int) := by omega
        have hseen : Seen wr (.slice (some ⟨B, 0, none⟩) k k) (bys (lastL s)) := by
          have := HB.out.seen
          rw [Nat.sub_self, List.replicate_zero, List.append_nil, HLA.out] at this
          exact this
        have hconv := run_string_seen (P := Try.prog) 22 5 9 Try.underlying22 Try.underlying5 Try.underlying9 hseen
        have HF : Hid (TurnIn 0 0 w wr) := turn_trans HTU2.out HK.out (by omega)
        clear HB HK hseen
        go_wp2_with fail
        go_ret3
        exact ⟨rfl, HF.out⟩
  · have HO : Hid (trnOk s = false) := by show trnOk s = false; simpa using h
    have HR := Lib.hid (trfR_no HO.out)
    have HX := Lib.hid (trfX_no HO.out)
    rw [HO.out] at HT
    rw [HR.out, HX.out, HO.out]
    clear h
    go_enter Try.func14, Try.ntmps14
    go_wp2_with fail
    refine HT.out.mono ?_
    rintro e w1 ⟨v, rfl, hO, hT⟩
    have HOT := Lib.hid hT
    clear hO hT
    go_wp2_with fail
    go_ret3
    exact ⟨rfl, HOT.out⟩
end Go.Proofs.Ytbfchebnooanjaa
