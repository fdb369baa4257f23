/- The cursor's prose: some text of a bounded length. -/
import Derived.Test.YtdbgkpmdimapdaaCurBase
import Derived.Test.YtdbgkpmdimapdaaStrMem
import Derived.Test.YtdbgkpmdimapdaaBytesOwn
import Derived.Test.YtdbgkpmdimapdaaMatI
import Derived.Handy
import Derived.Deep.CutRange
set_option linter.unusedSimpArgs false
set_option linter.unusedVariables false
namespace G294
open Go Go.RowKit
theorem pre_extP (t : List UInt8) (m : Nat) : (str t).extract 0 m = str (t.take m) := by
  unfold str
  apply ByteArray.ext
  simp [ByteArray.data_extract]
end G294
namespace Go.Proofs.Ytdbgkpmdimapdaa
open Go.RowKit G294

/-- one of some texts is drawn -/
def DrawsTx (w : World) (g : Nat) (cv : Value) (n : Nat) (L : List (List UInt8)) (e : Ending) (w' : World) : Prop := ∃ r : List UInt8, e = .returned (.string (str r)) ∧ r ∈ L ∧ CurAt w' g cv n ∧ TurnIn g (g + 1) w w'

set_option maxHeartbeats 1000000 in
theorem of_any (g : Nat) (cv : Value) (m : Nat) (b : Nat) (L : List (List UInt8)) (w : World) (hc : CurAt w g cv m) (hm : m ≤ 100000000000) (hp : 0 < L.length) (hl : L.length ≤ 1000) (hbg : b ≠ g) (hbl : b < w.heap.size)
    (hcell : ∀ i u, (strs L)[i]? = some u → w.cell? ⟨b, i, none⟩ = some u) :
    Calls Try.prog 66 #[.pointer (some ⟨g, 0, none⟩), .slice (some ⟨b, 0, none⟩) L.length L.length] w (DrawsTx w g cv (m + 2) L) := by
  have HC := Lib.hid hcell
  clear hcell
  generalize hnn : L.length = n at *
  have HN := Lib.hid hnn
  clear hnn
  go_enter Try.func66, Try.ntmps66
  go_wp2_with fail
  refine (pick_any g cv m n _ hc hm).mono ?_
  rintro e w1 ⟨x, rfl, x0, x1, hc1, k1⟩
  have hxn : x < n := by
    unfold pickHi at x1
    split at x1 <;> omega
  clear x1
  obtain ⟨i, rfl⟩ := Int.eq_ofNat_of_zero_le x0
  have hi : i < L.length := by rw [HN.out]; omega
  have hcx : w1.cell? ⟨b, i, none⟩ = some (.string (str L[i])) :=
    (World.cell?_of_block (a := ⟨b, i, none⟩) (k1.block b hbl (by omega))).trans (HC.out i _ (strs_get L i hi))
  go_wp2_with fail
  go_ret
  exact ⟨L[i], rfl, List.getElem_mem hi, hc1, k1⟩

/-- some prose is drawn -/
def DrawsPr (w : World) (g : Nat) (cv : Value) (n : Nat) (e : Ending) (w' : World) : Prop := ∃ r : List UInt8, e = .returned (.string (str r)) ∧ r.length ≤ 240 ∧ CurAt w' g cv n ∧ TurnIn g (g + 1) w w'

def proseL : List (List UInt8) := [[97], [98], [110, 97], [97, 98], [116, 104, 101, 32], [97, 97, 97], [0]]

theorem proseL_len : ∀ r ∈ proseL, r.length ≤ 4 := by decide

set_option maxRecDepth 100000 in
set_option maxHeartbeats 4000000 in
theorem prose_any (g : Nat) (cv : Value) (m : Nat) (w : World) (hc : CurAt w g cv m) (hm : m ≤ 1000000) :
    Calls Try.prog 65 #[.pointer (some ⟨g, 0, none⟩)] w (DrawsPr w g cv (m + 130)) := by
  have hgw := hc.lt
  have HPL := Lib.hid proseL_len
  have HPS : Hid (strs proseL = [.string ⟨#[97]⟩, .string ⟨#[98]⟩, .string ⟨#[110, 97]⟩, .string ⟨#[97, 98]⟩, .string ⟨#[116, 104, 101, 32]⟩, .string ⟨#[97, 97, 97]⟩, .string ⟨#[0]⟩]) := rfl
  have HP7 : Hid (proseL.length = 7) := rfl
  go_enter Try.func65, Try.ntmps65
  go_wp2_with fail
  refine (pick_any g cv m 12 _ hc (by omega)).mono ?_
  rintro e w1 ⟨x, rfl, x0, x1, hc1, k1⟩
  have hx : x ≤ 11 := by simpa [pickHi] using x1
  have s1 := k1.size
  obtain ⟨x, rfl⟩ := Int.eq_ofNat_of_zero_le x0
  clear x1 x0
  go_wp2_with fail
  refine (one_any g cv _ 20 _ hc1 (by omega)).mono ?_
  rintro e w2 ⟨b, rfl, hc2, k2⟩
  have s2 := k2.size
  have k12 := turn_trans k1 k2 (by omega)
  obtain ⟨N, hN, hNb⟩ : ∃ N : Nat, N ≤ 60 ∧ (b = true → N = 60) ∧ (b = false → N = x) := by
    cases b
    · exact ⟨x, by omega, fun h => (by cases h), fun _ => rfl⟩
    · exact ⟨60, Nat.le_refl _, fun _ => rfl, fun h => (by cases h)⟩
  have HNB := Lib.hid hNb
  have HC2 := Lib.hid hc2
  have HK2 := Lib.hid k12
  clear hNb hc2 hc1 k1 k2 k12 hc
  go_upto_if 8 with fail
  go_cut [4] from 5 to 8 (fun y wx => y = .int .i64 N ∧ wx = w2)
  case first =>
    cases b with
    | true =>
      have e := HNB.out.1 rfl
      go_wp2_with fail
      go_meet
      exact ⟨by rw [e]; rfl, rfl⟩
    | false =>
      have e := HNB.out.2 rfl
      go_wp2_with fail
      go_meet
      exact ⟨by rw [e], rfl⟩
  case rest =>
  obtain ⟨rfl, rfl⟩ := hcut
  clear HNB
  go_wp2_with fail
  go_loopw [3, 4] (fun v y wr => ∃ (k : Nat) (t : List UInt8), k ≤ 60 ∧ y = .int .i64 k ∧ v = .string (str t) ∧ t.length + 4 * k ≤ 240 ∧ Hid (CurAt wr g cv (m + 4 + 2 * (60 - k))) ∧ Hid (TurnIn g (g + 1) w wr)) (fun _ y _ => (intOf y).toNat)
  case atStart => exact ⟨N, [], hN, rfl, rfl, by simp; omega, Lib.hid (HC2.out.more (by omega)), HK2⟩
  case round =>
    clear HC2 HK2
    obtain ⟨k, t, hk, rfl, rfl, htl, HC, HK⟩ := hrel
    have hsz := str_size t
    by_cases hlt : 0 < k
    · have hki : (0 : Int) < (k : Int) := by omega
      obtain ⟨q, rfl⟩ : ∃ q, k = q + 1 := ⟨k - 1, by omega⟩
      have ka := turn_alloc wr (.cells #[.string ⟨#[97]⟩, .string ⟨#[98]⟩, .string ⟨#[110, 97]⟩, .string ⟨#[97, 98]⟩, .string ⟨#[116, 104, 101, 32]⟩, .string ⟨#[97, 97, 97]⟩, .string ⟨#[0]⟩] 9)
      have hgr := HC.out.lt
      have HCA := Lib.hid (HC.out.keep ka (by omega))
      have HKA := Lib.hid (turn_trans HK.out ka (by omega))
      have hszr := HK.out.size
      have HOF := Lib.hid (of_any g cv (m + 4 + 2 * (60 - (q + 1))) wr.heap.size proseL (wr.alloc (.cells #[.string ⟨#[97]⟩, .string ⟨#[98]⟩, .string ⟨#[110, 97]⟩, .string ⟨#[97, 98]⟩, .string ⟨#[116, 104, 101, 32]⟩, .string ⟨#[97, 97, 97]⟩, .string ⟨#[0]⟩] 9)) HCA.out (by omega) (by rw [HP7.out]; omega) (by rw [HP7.out]; omega) (by omega) (by simp) (fun i u hu => by
        rw [HPS.out] at hu
        simpa using hu))
      rw [HP7.out] at HOF
      clear ka HC HK
      go_wp2_with fail
      refine HOF.out.mono ?_
      rintro e w3 ⟨r, rfl, hr, hc3, k3⟩
      have hrl := HPL.out r hr
      have HC3 := Lib.hid hc3
      have HK3 := Lib.hid (turn_trans HKA.out k3 (by omega))
      have hsr := str_size r
      have HAP : Hid (str t ++ str r = str (t ++ r)) := str_append t r
      have hlen : (t ++ r).length = t.length + r.length := List.length_append
      clear hc3 k3 hr HOF HCA HKA
      go_wp2_with fail
      go_roundw
      case rel => exact ⟨q, t ++ r, by omega, by go_num, by rw [HAP.out], by omega, Lib.hid (HC3.out.more (by omega)), HK3⟩
      case measure => simp [intOf] <;> omega
    · obtain rfl : k = 0 := by omega
      have hki : ¬ (0 : Int) < ((0 : Nat) : Int) := by omega
      by_cases h120 : 120 < t.length
      · have h120i : (120 : Int) < (t.length : Int) := by omega
        have h120d : decide ((120 : Int) < (t.length : Int)) = true := decide_eq_true h120i
        have hpre := pre_extP t 120
        have HTK : Hid ((t.take 120).length ≤ 240) := Lib.hid (by rw [List.length_take]; omega)
        have htl2 : t.length ≤ 240 := by omega
        have HTL := Lib.hid htl2
        generalize hnn : t.length = n at *
        have HNN := Lib.hid hnn
        clear hnn
        go_wp2_with fail
        refine (one_any g cv _ 4 _ HC.out (by omega)).mono ?_
        rintro e w3 ⟨b2, rfl, hc3, k3⟩
        have HC3 := Lib.hid hc3
        have HK3 := Lib.hid (turn_trans HK.out k3 (by omega))
        clear hc3 k3
        cases b2 with
        | true =>
          go_wp2_with fail
          go_ret
          exact ⟨t, rfl, by rw [HNN.out]; exact HTL.out, HC3.out.more (by omega), HK3.out⟩
        | false =>
          go_wp2_with fail
          go_ret
          exact ⟨t.take 120, rfl, HTK.out, HC3.out.more (by omega), HK3.out⟩
      · have h120i : ¬ (120 : Int) < (t.length : Int) := by omega
        have h120d : decide ((120 : Int) < (t.length : Int)) = false := decide_eq_false h120i
        go_wp2_with fail
        go_ret
        exact ⟨t, rfl, by omega, HC.out.more (by omega), HK.out⟩
/-- some text, drawn from a new cursor -/
def RetProse (w : World) (e : Ending) (w' : World) : Prop := ∃ r : List UInt8, e = .returned (.string (str r)) ∧ r.length ≤ 240 ∧ TurnIn 0 0 w w'

set_option maxHeartbeats 1000000 in
theorem drawTurnsOf_any (v : Value) (l : List UInt8) (w : World) (hv : Seen w v (bys l)) : Calls Try.prog 59 #[v] w (RetProse w) := by
  obtain ⟨A, c, hvv⟩ := hv.len
  rw [bys_length] at hvv
  subst hvv
  have hc := cur_new hv
  have k0 := turn_alloc w (.cells #[.slice A l.length c, .int .i64 0, .int .u64 0] 67)
  have s0 : w.heap.size < (w.alloc (.cells #[.slice A l.length c, .int .i64 0, .int .u64 0] 67)).heap.size := by simp
  have HP := Lib.hid (prose_any w.heap.size _ 0 _ hc (by omega))
  have HK := Lib.hid k0
  clear hc k0 s0
  go_enter Try.func59, Try.ntmps59
  go_wp2_with fail
  refine HP.out.mono ?_
  rintro e w1 ⟨r, rfl, hr, _, k1⟩
  have HF := Lib.hid (turn_trans HK.out k1 (by omega))
  have HR := Lib.hid hr
  clear k1 hr
  go_wp2_with fail
  go_ret
  exact ⟨r, rfl, HR.out, HF.out⟩

end Go.Proofs.Ytdbgkpmdimapdaa
