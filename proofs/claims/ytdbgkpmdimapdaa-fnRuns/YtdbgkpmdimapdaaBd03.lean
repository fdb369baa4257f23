/- Joined texts: Good, MatI, CurPr, CurWalks, CurVec, CurMv, RunMem. -/
import Derived.Test.YtdbgkpmdimapdaaBd02
import Derived.Deep.QuietTactic
import Derived.BigQuiet
import Derived.Deep.RegionHeld3
import Derived.Test.YtdbgkpmdimapdaaBd00
import Derived.Test.YtdbgkpmdimapdaaBd01
import Derived.Handy
import Derived.Deep.CutRange
set_option linter.unusedSimpArgs false
set_option linter.unusedVariables false
/- GoodMatrix, the program's and the model's. -/
namespace G294
theorem goodI_nat (n : Nat) : goodI (n : Int) = decide (1 ≤ n ∧ n ≤ 16) := by
  unfold goodI; rw [decide_eq_decide]; omega
theorem goodM_no1 {L : Mat} (h : goodI L.length = false) : goodM L = false := by
  rw [goodI_nat] at h; simp at h
  rw [Bool.eq_false_iff]; intro e
  have := (goodM_iff L).1 e
  omega
theorem goodM_no2 {L : Mat} (h : goodI (wid L) = false) : goodM L = false := by
  rw [goodI_nat] at h; simp at h
  rw [Bool.eq_false_iff]; intro e
  have := (goodM_iff L).1 e
  omega
theorem goodM_no3 {L : Mat} {k : Nat} (hk : k < L.length) (h : (L.getD k []).length ≠ wid L) : goodM L = false := by
  rw [Bool.eq_false_iff]; intro e
  exact h (((goodM_iff L).1 e).2.2.2.2 k hk)
theorem goodM_yes {L : Mat} (h1 : goodI L.length = true) (h2 : goodI (wid L) = true) (h : ∀ i, i < L.length → (L.getD i []).length = wid L) : goodM L = true := by
  rw [goodI_nat] at h1 h2; simp at h1 h2
  exact (goodM_iff L).2 ⟨h1.1, h1.2, h2.1, h2.2, h⟩
end G294
namespace Go.Proofs.Ytdbgkpmdimapdaa
open Go.RowKit G294

theorem l1In_side (n : Int) (w : World) : Calls Try.prog 69 #[.int .i64 n, .int .i64 1, .int .i64 16] w fun e w' => e = .returned (.bool (goodI n)) ∧ w = w' := l1In_any n 1 16 w

end Go.Proofs.Ytdbgkpmdimapdaa

/- The program's Identity, Transposed, Vandermonde and Cauchy. -/
namespace G294
open Go Go.RowKit
theorem turn_setCell (w : World) (B o : Nat) (x : Value) : TurnIn B (B + 1) w (w.setCell ⟨B, o, none⟩ x) :=
  ⟨rfl, rfl, rfl, by simp, fun k hk hd => heap_setCell_other w ⟨B, o, none⟩ k x (by intro e; simp at e; omega)⟩
theorem cell_set_other (w : World) {B B' : Nat} (o o' : Nat) (x : Value) (h : B ≠ B') : (w.setCell ⟨B, o, none⟩ x).cell? ⟨B', o', none⟩ = w.cell? ⟨B', o', none⟩ :=
  World.cell?_of_block (heap_setCell_other w ⟨B, o, none⟩ B' x (by intro e; simp at e; omega))
theorem frozen_set_other (w : World) {B B' : Nat} (o o' : Nat) (x : Value) (h : B ≠ B') : (w.setCell ⟨B, o, none⟩ x).frozen? ⟨B', o', none⟩ = w.frozen? ⟨B', o', none⟩ :=
  World.frozen?_of_block (heap_setCell_other w ⟨B, o, none⟩ B' x (by intro e; simp at e; omega))
/-- a result is stored into a variable that the call made ahead of it -/
theorem ret_store {E EE : TypeId} {w w1 w' : World} {v : Value} {L : Mat} {vs : List Value} (hb : Below w.heap.size w w1) (hM : OwnM E EE w' w1.heap.size w'.heap.size v L vs) (ht : TurnIn 0 0 w1 w') (B o : Nat) (h1 : w.heap.size ≤ B) (h2 : B < w1.heap.size) (x : Value) :
    OwnM E EE (w'.setCell ⟨B, o, none⟩ x) w.heap.size (w'.setCell ⟨B, o, none⟩ x).heap.size v L vs ∧ TurnIn 0 0 w (w'.setCell ⟨B, o, none⟩ x) := by
  have k := turn_setCell w' B o x
  have hs := k.size
  refine ⟨(hM.keep k (by omega)).wider (by have := hb.size; omega) hs (Nat.le_refl _), TurnIn.of_below ?_⟩
  have h3 : Below w.heap.size w w' := ht.base hb hb.size (by omega)
  exact h3.setCell h1 _
theorem cell_turn {w w' : World} (t : TurnIn 0 0 w w') {B o : Nat} {x : Value} (h : w.cell? ⟨B, o, none⟩ = some x) (hB : B < w.heap.size) : w'.cell? ⟨B, o, none⟩ = some x := (t.to_below.cell (p := ⟨B, o, none⟩) hB).trans h
theorem frozen_turn {w w' : World} (t : TurnIn 0 0 w w') {B o : Nat} {x : Bool} (h : w.frozen? ⟨B, o, none⟩ = x) (hB : B < w.heap.size) : w'.frozen? ⟨B, o, none⟩ = x := (t.to_below.frozen (p := ⟨B, o, none⟩) hB).trans h
end G294
namespace Go.Proofs.Ytdbgkpmdimapdaa
open Go.RowKit G294

theorem vand_u8 (i j : Nat) (hi : i < 256) : ((vandF i j).toNat : Int) = (gp i j : Nat) := by
  unfold vandF; rw [UInt8.toNat_ofNat', Nat.mod_eq_of_lt (gp_lt hi j)]

theorem cau_u8 (c i j : Nat) (h1 : c + i < 256) (h2 : j < 256) : ((cauF c i j).toNat : Int) = (gi ((c + i) ^^^ j) : Nat) := by
  unfold cauF; rw [UInt8.toNat_ofNat', Nat.mod_eq_of_lt (gi_lt (xor_lt h1 h2))]
end Go.Proofs.Ytdbgkpmdimapdaa

/- The cursor's prose: some text of a bounded length. -/
namespace G294
open Go Go.RowKit
theorem pre_extP (t : List UInt8) (m : Nat) : (str t).extract 0 m = str (t.take m) := by
  unfold str
  apply ByteArray.ext
  simp [ByteArray.data_extract]
end G294
namespace Go.Proofs.Ytdbgkpmdimapdaa
open Go.RowKit G294

/-- one of some texts is drawn -/
def DrawsTx (w : World) (g : Nat) (cv : Value) (n : Nat) (L : List (List UInt8)) (e : Ending) (w' : World) : Prop := ∃ r : List UInt8, e = .returned (.string (str r)) ∧ r ∈ L ∧ CurAt w' g cv n ∧ TurnIn g (g + 1) w w'

set_option maxHeartbeats 1000000 in
theorem of_any (g : Nat) (cv : Value) (m : Nat) (b : Nat) (L : List (List UInt8)) (w : World) (hc : CurAt w g cv m) (hm : m ≤ 100000000000) (hp : 0 < L.length) (hl : L.length ≤ 1000) (hbg : b ≠ g) (hbl : b < w.heap.size)
    (hcell : ∀ i u, (strs L)[i]? = some u → w.cell? ⟨b, i, none⟩ = some u) :
    Calls Try.prog 66 #[.pointer (some ⟨g, 0, none⟩), .slice (some ⟨b, 0, none⟩) L.length L.length] w (DrawsTx w g cv (m + 2) L) := by
  have HC := Lib.hid hcell
  clear hcell
  generalize hnn : L.length = n at *
  have HN := Lib.hid hnn
  clear hnn
  go_enter Try.func66, Try.ntmps66
  go_wp2_with fail
  refine (pick_any g cv m n _ hc hm).mono ?_
  rintro e w1 ⟨x, rfl, x0, x1, hc1, k1⟩
  have hxn : x < n := by
    unfold pickHi at x1
    split at x1 <;> omega
  clear x1
  obtain ⟨i, rfl⟩ := Int.eq_ofNat_of_zero_le x0
  have hi : i < L.length := by rw [HN.out]; omega
  have hcx : w1.cell? ⟨b, i, none⟩ = some (.string (str L[i])) :=
    (World.cell?_of_block (a := ⟨b, i, none⟩) (k1.block b hbl (by omega))).trans (HC.out i _ (strs_get L i hi))
  go_wp2_with fail
  go_ret
  exact ⟨L[i], rfl, List.getElem_mem hi, hc1, k1⟩

/-- some prose is drawn -/
def DrawsPr (w : World) (g : Nat) (cv : Value) (n : Nat) (e : Ending) (w' : World) : Prop := ∃ r : List UInt8, e = .returned (.string (str r)) ∧ r.length ≤ 240 ∧ CurAt w' g cv n ∧ TurnIn g (g + 1) w w'

def proseL : List (List UInt8) := [[97], [98], [110, 97], [97, 98], [116, 104, 101, 32], [97, 97, 97], [0]]

theorem proseL_len : ∀ r ∈ proseL, r.length ≤ 4 := by decide

set_option maxRecDepth 100000 in
set_option maxHeartbeats 4000000 in
theorem prose_any (g : Nat) (cv : Value) (m : Nat) (w : World) (hc : CurAt w g cv m) (hm : m ≤ 1000000) :
    Calls Try.prog 65 #[.pointer (some ⟨g, 0, none⟩)] w (DrawsPr w g cv (m + 130)) := by
  have hgw := hc.lt
  have HPL := Lib.hid proseL_len
  have HPS : Hid (strs proseL = [.string ⟨#[97]⟩, .string ⟨#[98]⟩, .string ⟨#[110, 97]⟩, .string ⟨#[97, 98]⟩, .string ⟨#[116, 104, 101, 32]⟩, .string ⟨#[97, 97, 97]⟩, .string ⟨#[0]⟩]) := rfl
  have HP7 : Hid (proseL.length = 7) := rfl
  go_enter Try.func65, Try.ntmps65
  go_wp2_with fail
  refine (pick_any g cv m 12 _ hc (by omega)).mono ?_
  rintro e w1 ⟨x, rfl, x0, x1, hc1, k1⟩
  have hx : x ≤ 11 := by simpa [pickHi] using x1
  have s1 := k1.size
  obtain ⟨x, rfl⟩ := Int.eq_ofNat_of_zero_le x0
  clear x1 x0
  go_wp2_with fail
  refine (one_any g cv _ 20 _ hc1 (by omega)).mono ?_
  rintro e w2 ⟨b, rfl, hc2, k2⟩
  have s2 := k2.size
  have k12 := turn_trans k1 k2 (by omega)
  obtain ⟨N, hN, hNb⟩ : ∃ N : Nat, N ≤ 60 ∧ (b = true → N = 60) ∧ (b = false → N = x) := by
    cases b
    · exact ⟨x, by omega, fun h => (by cases h), fun _ => rfl⟩
    · exact ⟨60, Nat.le_refl _, fun _ => rfl, fun h => (by cases h)⟩
  have HNB := Lib.hid hNb
  have HC2 := Lib.hid hc2
  have HK2 := Lib.hid k12
  clear hNb hc2 hc1 k1 k2 k12 hc
  go_upto_if 8 with fail
  go_cut [4] from 5 to 8 (fun y wx => y = .int .i64 N ∧ wx = w2)
  case first =>
    cases b with
    | true =>
      have e := HNB.out.1 rfl
      go_wp2_with fail
      go_meet
      exact ⟨by rw [e]; rfl, rfl⟩
    | false =>
      have e := HNB.out.2 rfl
      go_wp2_with fail
      go_meet
      exact ⟨by rw [e], rfl⟩
  case rest =>
  obtain ⟨rfl, rfl⟩ := hcut
  clear HNB
  go_wp2_with fail
  go_loopw [3, 4] (fun v y wr => ∃ (k : Nat) (t : List UInt8), k ≤ 60 ∧ y = .int .i64 k ∧ v = .string (str t) ∧ t.length + 4 * k ≤ 240 ∧ Hid (CurAt wr g cv (m + 4 + 2 * (60 - k))) ∧ Hid (TurnIn g (g + 1) w wr)) (fun _ y _ => (intOf y).toNat)
  case atStart => exact ⟨N, [], hN, rfl, rfl, by simp; omega, Lib.hid (HC2.out.more (by omega)), HK2⟩
  case round =>
    clear HC2 HK2
    obtain ⟨k, t, hk, rfl, rfl, htl, HC, HK⟩ := hrel
    have hsz := str_size t
    by_cases hlt : 0 < k
    · have hki : (0 : Int) < (k : Int) := by omega
      obtain ⟨q, rfl⟩ : ∃ q, k = q + 1 := ⟨k - 1, by omega⟩
      have ka := turn_alloc wr (.cells #[.string ⟨#[97]⟩, .string ⟨#[98]⟩, .string ⟨#[110, 97]⟩, .string ⟨#[97, 98]⟩, .string ⟨#[116, 104, 101, 32]⟩, .string ⟨#[97, 97, 97]⟩, .string ⟨#[0]⟩] 9)
      have hgr := HC.out.lt
      have HCA := Lib.hid (HC.out.keep ka (by omega))
      have HKA := Lib.hid (turn_trans HK.out ka (by omega))
      have hszr := HK.out.size
      have HOF := Lib.hid (of_any g cv (m + 4 + 2 * (60 - (q + 1))) wr.heap.size proseL (wr.alloc (.cells #[.string ⟨#[97]⟩, .string ⟨#[98]⟩, .string ⟨#[110, 97]⟩, .string ⟨#[97, 98]⟩, .string ⟨#[116, 104, 101, 32]⟩, .string ⟨#[97, 97, 97]⟩, .string ⟨#[0]⟩] 9)) HCA.out (by omega) (by rw [HP7.out]; omega) (by rw [HP7.out]; omega) (by omega) (by simp) (fun i u hu => by
        rw [HPS.out] at hu
        simpa using hu))
      rw [HP7.out] at HOF
      clear ka HC HK
      go_wp2_with fail
      refine HOF.out.mono ?_
      rintro e w3 ⟨r, rfl, hr, hc3, k3⟩
      have hrl := HPL.out r hr
      have HC3 := Lib.hid hc3
      have HK3 := Lib.hid (turn_trans HKA.out k3 (by omega))
      have hsr := str_size r
      have HAP : Hid (str t ++ str r = str (t ++ r)) := str_append t r
      have hlen : (t ++ r).length = t.length + r.length := List.length_append
      clear hc3 k3 hr HOF HCA HKA
      go_wp2_with fail
      go_roundw
      case rel => exact ⟨q, t ++ r, by omega, by go_num, by rw [HAP.out], by omega, Lib.hid (HC3.out.more (by omega)), HK3⟩
      case measure => simp [intOf] <;> omega
    · obtain rfl : k = 0 := by omega
      have hki : ¬ (0 : Int) < ((0 : Nat) : Int) := by omega
      by_cases h120 : 120 < t.length
      · have h120i : (120 : Int) < (t.length : Int) := by omega
        have h120d : decide ((120 : Int) < (t.length : Int)) = true := decide_eq_true h120i
        have hpre := pre_extP t 120
        have HTK : Hid ((t.take 120).length ≤ 240) := Lib.hid (by rw [List.length_take]; omega)
        have htl2 : t.length ≤ 240 := by omega
        have HTL := Lib.hid htl2
        generalize hnn : t.length = n at *
        have HNN := Lib.hid hnn
        clear hnn
        go_wp2_with fail
        refine (one_any g cv _ 4 _ HC.out (by omega)).mono ?_
        rintro e w3 ⟨b2, rfl, hc3, k3⟩
        have HC3 := Lib.hid hc3
        have HK3 := Lib.hid (turn_trans HK.out k3 (by omega))
        clear hc3 k3
        cases b2 with
        | true =>
          go_wp2_with fail
          go_ret
          exact ⟨t, rfl, by rw [HNN.out]; exact HTL.out, HC3.out.more (by omega), HK3.out⟩
        | false =>
          go_wp2_with fail
          go_ret
          exact ⟨t.take 120, rfl, HTK.out, HC3.out.more (by omega), HK3.out⟩
      · have h120i : ¬ (120 : Int) < (t.length : Int) := by omega
        have h120d : decide ((120 : Int) < (t.length : Int)) = false := decide_eq_false h120i
        go_wp2_with fail
        go_ret
        exact ⟨t, rfl, by omega, HC.out.more (by omega), HK.out⟩
/-- some text, drawn from a new cursor -/
def RetProse (w : World) (e : Ending) (w' : World) : Prop := ∃ r : List UInt8, e = .returned (.string (str r)) ∧ r.length ≤ 240 ∧ TurnIn 0 0 w w'

set_option maxHeartbeats 1000000 in
theorem drawTurnsOf_any (v : Value) (l : List UInt8) (w : World) (hv : Seen w v (bys l)) : Calls Try.prog 59 #[v] w (RetProse w) := by
  obtain ⟨A, c, hvv⟩ := hv.len
  rw [bys_length] at hvv
  subst hvv
  have hc := cur_new hv
  have k0 := turn_alloc w (.cells #[.slice A l.length c, .int .i64 0, .int .u64 0] 67)
  have s0 : w.heap.size < (w.alloc (.cells #[.slice A l.length c, .int .i64 0, .int .u64 0] 67)).heap.size := by simp
  have HP := Lib.hid (prose_any w.heap.size _ 0 _ hc (by omega))
  have HK := Lib.hid k0
  clear hc k0 s0
  go_enter Try.func59, Try.ntmps59
  go_wp2_with fail
  refine HP.out.mono ?_
  rintro e w1 ⟨r, rfl, hr, _, k1⟩
  have HF := Lib.hid (turn_trans HK.out k1 (by omega))
  have HR := Lib.hid hr
  clear k1 hr
  go_wp2_with fail
  go_ret
  exact ⟨r, rfl, HR.out, HF.out⟩

end Go.Proofs.Ytdbgkpmdimapdaa

/- Contracts of the model's cursor: what it draws is some number; only its own block is written. -/
namespace Go.Proofs.Ytdbgkpmdimapdaa
open Go.RowKit G294

/-- a byte is drawn -/
def DrawsU (w : World) (g : Nat) (cv : Value) (n : Nat) (e : Ending) (w' : World) : Prop := ∃ x : UInt8, e = .returned (.int .u8 (x.toNat : Int)) ∧ CurAt w' g cv n ∧ TurnIn g (g + 1) w w'
theorem to_byte (r : Int) : r % 256 = ((UInt8.ofNat (r % 256).toNat).toNat : Int) := by
  rw [UInt8.toNat_ofNat']; omega

set_option maxHeartbeats 1000000 in
theorem byte_any (g : Nat) (cv : Value) (m : Nat) (w : World) (hc : CurAt w g cv m) (hm : m ≤ 10000000000) :
    Calls Try.prog 94 #[.pointer (some ⟨g, 0, none⟩)] w (DrawsU w g cv (m + 4)) := by
  go_enter Try.func94, Try.ntmps94
  go_wp2_with fail
  refine (one_any g cv m 5 _ hc (by omega)).mono ?_
  rintro e w1 ⟨b, rfl, hc1, k1⟩
  have hg1 := hc1.lt
  cases b
  · go_wp2_with fail
    refine (pick_any g cv (m + 2) 256 _ hc1 (by omega)).mono ?_
    rintro e w2 ⟨r, rfl, r0, r1, hc2, k2⟩
    clear r1
    go_wp2_with fail
    go_ret
    exact ⟨_, by rw [← to_byte r]; rfl, hc2, turn_trans k1 k2 (by omega)⟩
  · go_wp2_with fail
    have k2 := turn_alloc w1 (.cells #[.int .i64 0, .int .i64 1, .int .i64 2, .int .i64 3, .int .i64 255, .int .i64 27] 3)
    refine (among_any g cv (m + 2) w1.heap.size 6 [0, 1, 2, 3, 255, 27] _ (hc1.keep k2 (by omega)) (by omega) (by simp) (by simp) (by simp) (by omega) (by omega) (by simp) ?_).mono ?_
    · intro i u hu
      rw [cell_of_row _ w1.heap.size i _ _ _ (heap_alloc_new w1 _)]
      simpa [ints] using hu
    rintro e w3 ⟨r, rfl, hr, hc3, k3⟩
    clear hr
    go_wp2_with fail
    go_ret
    exact ⟨_, by rw [← to_byte r]; rfl, hc3, turn_trans (turn_trans k1 k2 (by omega)) k3 (by omega)⟩

end Go.Proofs.Ytdbgkpmdimapdaa

/- Drawn vectors. -/
namespace Go.Proofs.Ytdbgkpmdimapdaa
open Go.RowKit G294

/-- some bytes of a given number are drawn into a new row -/
def DrawsBytes (w : World) (g : Nat) (cv : Value) (m n : Nat) (e : Ending) (w' : World) : Prop :=
  ∃ (v : Value) (l : List UInt8), e = .returned v ∧ l.length = n ∧ w'.ownsRow w.heap.size 5 1 v l.length (bys l) ∧ CurAt w' g cv m ∧ TurnIn g (g + 1) w w'

set_option maxHeartbeats 1000000 in
theorem vector_any (g : Nat) (cv : Value) (m n : Nat) (w : World) (hc : CurAt w g cv m) (hm : m + 4 * n ≤ 1000000000) :
    Calls Try.prog 78 #[.pointer (some ⟨g, 0, none⟩), .int .i64 n] w (DrawsBytes w g cv (m + 4 * n) n) := by
  have hgw := hc.lt
  go_enter Try.func78, Try.ntmps78
  go_wp2_with fail
  go_loopw [1, 5] (fun y o wr => ∃ (k : Nat) (l : List UInt8), k ≤ n ∧ y = .int .i64 k ∧ Hid (l.length + k = n) ∧ wr.ownsRow w.heap.size 5 1 o l.length (bys l) ∧ CurAt wr g cv (m + 4 * (n - k)) ∧ TurnIn g (g + 1) w wr)
    (fun y _ _ => (intOf y).toNat)
  case atStart => exact ⟨n, [], Nat.le_refl _, rfl, by show 0 + n = n; omega, World.ownsRow_nil _ _ _ _, hc.more (by omega), ⟨rfl, rfl, rfl, Nat.le_refl _, fun _ _ _ => rfl⟩⟩
  case round =>
    obtain ⟨k, l, hk, rfl, HL, hown, hcr, kr⟩ := hrel
    have hsr := kr.size
    by_cases hlt : 0 < k
    · go_wp2_with fail
      refine (byte_any g cv _ _ hcr (by omega)).mono ?_
      rintro e w1 ⟨x, rfl, hc1, k1⟩
      have hs1 := k1.size
      have hown1 : w1.ownsRow w.heap.size 5 1 u5 l.length (bys l) := by
        refine ⟨hown.1, ?_⟩
        rcases hown.2 with hn | ⟨g', cap, cur, e1, hbg, hg', rest⟩
        · exact .inl hn
        · refine .inr ⟨g', cap, cur, e1, hbg, ?_, rest⟩
          rw [k1.block g' (Array.getElem?_eq_some_iff.1 hg').1 (by omega)]
          exact hg'
      have hll : l.length ≤ 1000000000 := by have := HL.out; omega
      go_wp2_with (at_builtin; refine wpList_append1 rfl _ _ _ rfl w.heap.size 5 _ _ Try.underlying22 infoByte rfl _ l.length _ rfl (hown1.alloc _) w1.heap.size (.int .u8 (x.toNat : Int)) rfl ?c1 rfl ?c2 ?c3 ?c4 ?_)
      case c1 => simp
      case c2 => exact hll
      case c3 => omega
      case c4 => simp; omega
      intro v' w2 hown2 hg2 _
      have ka := turn_alloc w1 (.cells #[.int .u8 (x.toNat : Int)] 5)
      have ko := turn_own (hown1.alloc (.cells #[.int .u8 (x.toNat : Int)] 5)) hg2
      have hc2 := (hc1.keep ka (by omega)).keep ko (by omega)
      have k2 : TurnIn g (g + 1) w w2 := turn_trans (turn_trans (turn_trans kr k1 (by omega)) ka (by omega)) ko (by omega)
      have hown3 : w2.ownsRow w.heap.size 5 1 v' (l ++ [x]).length (bys (l ++ [x])) := by
        rw [bys_append, List.length_append]; exact hown2
      clear hown2 hg2 hown1 ka ko hc1 k1 hown hcr kr
      go_wp2_with fail
      go_roundw
      case rel => exact ⟨k - 1, l ++ [x], by omega, by go_num, by show _ = _; have := HL.out; rw [List.length_append, List.length_singleton]; omega, hown3, hc2.more (by omega), k2⟩
      case measure => simp [intOf]; omega
    · obtain rfl : k = 0 := by omega
      go_wp2_with fail
      go_ret
      exact ⟨_, l, rfl, HL.out, hown, hcr.more (by omega), kr⟩

/-- two drawn vectors -/
def RetVecs (w : World) (e : Ending) (w' : World) : Prop :=
  ∃ (v u : Value) (l m : List UInt8), e = .returned (.tuple #[v, u]) ∧ Seen w' v (bys l) ∧ Seen w' u (bys m) ∧ l.length ≤ 100 ∧ m.length ≤ 100 ∧ TurnIn 0 0 w w'

end Go.Proofs.Ytdbgkpmdimapdaa

/- Chapter 12: the cursor's texts and lists of bytes. -/
namespace G294
open Go Go.RowKit
theorem zero_cells (n : Nat) : List.replicate n (Value.int .u8 0) = bys (List.replicate n 0) := by simp [bys]
end G294
namespace Go.Proofs.Ytdbgkpmdimapdaa
open Go.RowKit G294

/-- some text is drawn -/
def DrawsMv (w : World) (g : Nat) (cv : Value) (n : Nat) (e : Ending) (w' : World) : Prop := ∃ r : List UInt8, e = .returned (.string (str r)) ∧ r.length ≤ 400 ∧ CurAt w' g cv n ∧ TurnIn g (g + 1) w w'

set_option maxRecDepth 100000 in
set_option maxHeartbeats 2000000 in
theorem moved_any (g : Nat) (cv : Value) (m : Nat) (w : World) (hc : CurAt w g cv m) (hm : m ≤ 1000000) :
    Calls Try.prog 72 #[.pointer (some ⟨g, 0, none⟩)] w (DrawsMv w g cv (m + 140)) := by
  obtain ⟨i0, hi0, hz0, hz1, hz2⟩ := info_parts infoByte
  have hz2' : i0.bytes = 1 := hz2
  have hgw := hc.lt
  go_enter Try.func72, Try.ntmps72
  go_wp2_with fail
  refine (prose_any g cv m _ hc hm).mono ?_
  rintro e w1 ⟨r, rfl, hr, hc1, k1⟩
  have s1 := k1.size
  go_wp2_with fail
  refine (pick_any g cv _ 20 _ hc1 (by omega)).mono ?_
  rintro e w2 ⟨x, rfl, x0, x1, hc2, k2⟩
  have s2 := k2.size
  have HK2 := Lib.hid (turn_trans k1 k2 (by omega))
  have HC2 := Lib.hid hc2
  have HR := Lib.hid hr
  have hsr := str_size r
  clear x1 hc1 hc2 k1 k2 hc hr
  by_cases hx0 : x = 0
  · subst hx0
    go_wp2_with (at_make; refine wpList_make_full _ rfl _ _ _ rfl w2.heap.size _ i0 _ 1 Try.underlying22 hi0 hz0 hz1 _ _ _ _ 150 rfl rfl rfl rfl ?b2 ?b3 ?b4 ?_)
    case b2 => rw [hz2']; omega
    case b3 => unfold maxLen; omega
    case b4 => exact Nat.le_refl _
    intro w3 hown3 hg3
    have hb3 : Below w2.heap.size w2 w3 := below_of_grown hg3 (Nat.le_refl _) (by simp)
    rw [toList_madeCells_one, zero_cells] at hown3
    have hseen := Seen.of_own hown3
    have hconv := run_string_seen (P := Try.prog) 22 5 9 Try.underlying22 Try.underlying5 Try.underlying9 hseen
    have HK3 := Lib.hid (turn_trans HK2.out (TurnIn.of_below hb3) (by omega))
    have HC3 := Lib.hid (HC2.out.keep (TurnIn.of_below hb3) (Or.inr (Nat.le_refl 0)))
    have HAP : Hid (str r ++ str (List.replicate 150 0) = str (r ++ List.replicate 150 0)) := str_append _ _
    have hs2 := str_size (List.replicate 150 (0 : UInt8))
    generalize hzz : List.replicate 150 (0 : UInt8) = z at *
    have hzl : z.length = 150 := by rw [← hzz]; simp
    clear hzz hown3 hg3 hb3 hseen
    have hr' := HR.out
    have hno : ¬ 9223372036854775807 < r.length + 150 := by omega
    go_wp2_with fail
    go_ret
    exact ⟨r ++ z, by rw [← HAP.out]; rfl, by rw [List.length_append, hzl]; have := HR.out; omega, HC3.out.more (by omega), HK3.out⟩
  · have hx0b : (x == 0) = false := beq_eq_false_iff_ne.2 hx0
    by_cases hx1 : x = 1
    · subst hx1
      go_wp2_with fail
      refine (pick_any g cv _ 2 _ HC2.out (by omega)).mono ?_
      rintro e w3 ⟨y, rfl, y0, y1, hc3, k3⟩
      obtain ⟨y, rfl⟩ := Int.eq_ofNat_of_zero_le y0
      have hy : y ≤ 1 := by
        have : pickHi 2 = 1 := rfl
        omega
      have HK3 := Lib.hid (turn_trans HK2.out k3 (by omega))
      have HC3 := Lib.hid hc3
      clear y0 y1 hc3 k3 HK2 HC2
      have hy01 : y = 0 ∨ y = 1 := by omega
      clear hy
      rcases hy01 with rfl | rfl
      · skip
        go_wp2_with (at_make; refine wpList_make_full _ rfl _ _ _ rfl w3.heap.size _ i0 _ 1 Try.underlying22 hi0 hz0 hz1 _ _ _ _ 200 rfl rfl rfl rfl ?b2 ?b3 ?b4 ?_)
        case b2 => rw [hz2']; omega
        case b3 => unfold maxLen; omega
        case b4 => exact Nat.le_refl _
        intro w4 hown4 hg4
        have hb4 : Below w3.heap.size w3 w4 := below_of_grown hg4 (Nat.le_refl _) (by simp)
        rw [toList_madeCells_one, zero_cells] at hown4
        have hseen := Seen.of_own hown4
        have hconv := run_string_seen (P := Try.prog) 22 5 9 Try.underlying22 Try.underlying5 Try.underlying9 hseen
        have HK4 := Lib.hid (turn_trans HK3.out (TurnIn.of_below hb4) (by omega))
        have HC4 := Lib.hid (HC3.out.keep (TurnIn.of_below hb4) (Or.inr (Nat.le_refl 0)))
        generalize hzz : List.replicate 200 (0 : UInt8) = z at *
        have HZL : Hid (z.length ≤ 400) := by show _ ≤ _; rw [← hzz]; simp
        clear hzz hown4 hg4 hb4 hseen
        go_wp2_with fail
        go_ret
        exact ⟨z, rfl, HZL.out, HC4.out.more (by omega), HK4.out⟩
      · skip
        go_wp2_with (at_make; refine wpList_make_full _ rfl _ _ _ rfl w3.heap.size _ i0 _ 1 Try.underlying22 hi0 hz0 hz1 _ _ _ _ 201 rfl rfl rfl rfl ?b2 ?b3 ?b4 ?_)
        case b2 => rw [hz2']; omega
        case b3 => unfold maxLen; omega
        case b4 => exact Nat.le_refl _
        intro w4 hown4 hg4
        have hb4 : Below w3.heap.size w3 w4 := below_of_grown hg4 (Nat.le_refl _) (by simp)
        rw [toList_madeCells_one, zero_cells] at hown4
        have hseen := Seen.of_own hown4
        have hconv := run_string_seen (P := Try.prog) 22 5 9 Try.underlying22 Try.underlying5 Try.underlying9 hseen
        have HK4 := Lib.hid (turn_trans HK3.out (TurnIn.of_below hb4) (by omega))
        have HC4 := Lib.hid (HC3.out.keep (TurnIn.of_below hb4) (Or.inr (Nat.le_refl 0)))
        generalize hzz : List.replicate 201 (0 : UInt8) = z at *
        have HZL : Hid (z.length ≤ 400) := by show _ ≤ _; rw [← hzz]; simp
        clear hzz hown4 hg4 hb4 hseen
        go_wp2_with fail
        go_ret
        exact ⟨z, rfl, HZL.out, HC4.out.more (by omega), HK4.out⟩
    · have hx1b : (x == 1) = false := beq_eq_false_iff_ne.2 hx1
      go_wp2_with fail
      go_ret
      exact ⟨r, rfl, by have := HR.out; omega, HC2.out.more (by omega), HK2.out⟩

/-- some text, drawn from a new cursor -/
def RetTx (w : World) (e : Ending) (w' : World) : Prop := ∃ r : List UInt8, e = .returned (.string (str r)) ∧ r.length ≤ 400 ∧ TurnIn 0 0 w w'

set_option maxHeartbeats 1000000 in
theorem drawMoveFront_any (v : Value) (l : List UInt8) (w : World) (hv : Seen w v (bys l)) : Calls Try.prog 28 #[v] w (RetTx w) := by
  obtain ⟨A, c, hvv⟩ := hv.len
  rw [bys_length] at hvv
  subst hvv
  have hc := cur_new hv
  have k0 := turn_alloc w (.cells #[.slice A l.length c, .int .i64 0, .int .u64 0] 67)
  have HP := Lib.hid (moved_any w.heap.size _ 0 _ hc (by omega))
  have HK := Lib.hid k0
  clear hc k0
  go_enter Try.func28, Try.ntmps28
  go_wp2_with fail
  refine HP.out.mono ?_
  rintro e w1 ⟨r, rfl, hr, _, k1⟩
  have HF := Lib.hid (turn_trans HK.out k1 (by omega))
  have HR := Lib.hid hr
  clear k1 hr
  go_wp2_with fail
  go_ret
  exact ⟨r, rfl, HR.out, HF.out⟩

set_option maxHeartbeats 1000000 in
theorem drawRunsOf_any (v : Value) (l : List UInt8) (w : World) (hv : Seen w v (bys l)) : Calls Try.prog 36 #[v] w (RetTx w) := by
  have HP := Lib.hid (drawMoveFront_any v l w hv)
  obtain ⟨A, c, hvv⟩ := hv.len
  rw [bys_length] at hvv
  generalize l.length = n at hvv
  subst hvv
  clear hv
  go_enter Try.func36, Try.ntmps36
  go_wp2_with fail
  refine HP.out.mono ?_
  rintro e w1 ⟨r, rfl, hr, k1⟩
  have HF := Lib.hid (And.intro hr k1)
  clear k1 hr
  go_wp2_with fail
  go_ret
  exact ⟨r, rfl, HF.out.1, HF.out.2⟩

/-- some bytes, drawn from a new cursor -/
def RetBy (w : World) (e : Ending) (w' : World) : Prop := ∃ (v : Value) (l : List UInt8), e = .returned v ∧ Seen w' v (bys l) ∧ l.length ≤ 400 ∧ TurnIn 0 0 w w'

set_option maxHeartbeats 1000000 in
theorem drawMoveBack_any (v : Value) (l : List UInt8) (w : World) (hv : Seen w v (bys l)) : Calls Try.prog 34 #[v] w (RetBy w) := by
  obtain ⟨A, c, hvv⟩ := hv.len
  rw [bys_length] at hvv
  subst hvv
  have hc := cur_new hv
  have k0 := turn_alloc w (.cells #[.slice A l.length c, .int .i64 0, .int .u64 0] 67)
  have s0 := k0.size
  go_enter Try.func34, Try.ntmps34
  go_wp2_with fail
  refine (pick_any _ _ 0 12 _ hc (by omega)).mono ?_
  rintro e w1 ⟨n, rfl, n0, n1, hc1, k1⟩
  have hn : n ≤ 11 := by simpa [pickHi] using n1
  obtain ⟨n, rfl⟩ := Int.eq_ofNat_of_zero_le n0
  have s1 := k1.size
  go_wp2_with fail
  refine (one_any _ _ _ 20 _ hc1 (by omega)).mono ?_
  rintro e w2 ⟨b, rfl, hc2, k2⟩
  have s2 := k2.size
  have hgl := hc2.lt
  have KK := Lib.hid (turn_trans (turn_trans k0 k1 (by omega)) k2 (by omega))
  have HC2 := Lib.hid hc2
  clear n0 n1 k0 k1 k2 hc hc1 hc2
  cases b
  · go_wp2_with fail
    refine (vector_any _ _ _ n _ HC2.out (by omega)).mono ?_
    rintro e w3 ⟨v1, l1, rfl, hl1, ho1, hc3, k3⟩
    have HL1 := Lib.hid hl1
    have HS := Lib.hid (Seen.of_own ho1)
    have K3 := Lib.hid (turn_trans KK.out k3 (by omega))
    clear hl1 ho1 hc3 k3
    go_wp2_with fail
    go_ret
    exact ⟨v1, l1, rfl, HS.out, by rw [HL1.out]; omega, K3.out⟩
  · go_wp2_with fail
    refine (pick_any _ _ _ 2 _ HC2.out (by omega)).mono ?_
    rintro e w3 ⟨y, rfl, y0, y1, hc3, k3⟩
    obtain ⟨y, rfl⟩ := Int.eq_ofNat_of_zero_le y0
    have hy : y ≤ 1 := by
      have : pickHi 2 = 1 := rfl
      omega
    have s3 := k3.size
    have HE : Hid ((200 : Int) + (y : Int) = ((200 + y : Nat) : Int)) := by show _ = _; omega
    have K3 := Lib.hid (turn_trans KK.out k3 (by omega))
    have HC3 := Lib.hid hc3
    clear y0 y1 hc3 k3 KK HC2
    go_wp2_with fail
    rw [HE.out]
    refine (vector_any _ _ _ (200 + y) _ HC3.out (by omega)).mono ?_
    rintro e w4 ⟨v1, l1, rfl, hl1, ho1, hc4, k4⟩
    have HL1 := Lib.hid hl1
    have HS := Lib.hid (Seen.of_own ho1)
    have K4 := Lib.hid (turn_trans K3.out k4 (by omega))
    clear hl1 ho1 hc4 k4
    go_wp2_with fail
    go_ret
    exact ⟨v1, l1, rfl, HS.out, by rw [HL1.out]; omega, K4.out⟩

end Go.Proofs.Ytdbgkpmdimapdaa

/- Runs in memory: a slice of structs of a byte and an int that is seen, or of the call's own; what a mark writes. -/
namespace G294
open Go Go.RowKit
theorem at_ltRu {α : Type} {l : List α} {n k : Nat} (hn : l.length = n) (h : k < n) : ∃ s, l[k]? = some s := ⟨_, List.getElem?_eq_getElem (by omega)⟩
abbrev Ru := UInt8 × Int
/-- runs as the cells of memory -/
def rus : List Ru → List Value
  | [] => []
  | s :: l => .int .u8 (s.1.toNat : Int) :: .int .i64 s.2 :: rus l
@[simp] theorem rus_length (l : List Ru) : (rus l).length = l.length * 2 := by
  induction l with
  | nil => rfl
  | cons s l ih => simp [rus, ih]; omega
theorem rus_append (l m : List Ru) : rus (l ++ m) = rus l ++ rus m := by
  induction l with
  | nil => rfl
  | cons s l ih => simp [rus, ih]
theorem rus_no (l : List Ru) (i : Nat) (h : i < l.length) : (rus l)[i * 2]? = some (.int .u8 (l[i].1.toNat : Int)) := by
  induction l generalizing i with
  | nil => simp at h
  | cons s l ih =>
    cases i with
    | zero => rfl
    | succ i => rw [show (i + 1) * 2 = i * 2 + 1 + 1 by omega]; simpa [rus] using ih i (by simpa using h)
theorem rus_data (l : List Ru) (i : Nat) (h : i < l.length) : (rus l)[i * 2 + 1]? = some (.int .i64 l[i].2) := by
  induction l generalizing i with
  | nil => simp at h
  | cons s l ih =>
    cases i with
    | zero => rfl
    | succ i => rw [show (i + 1) * 2 + 1 = i * 2 + 1 + 1 + 1 by omega]; simpa [rus] using ih i (by simpa using h)
theorem rus_oneC (l : List Ru) : ∀ y, y ∈ rus l → y.oneCell' = true := by
  induction l with
  | nil => intro y hy; simp [rus] at hy
  | cons s l ih =>
    intro y hy
    simp only [rus, List.mem_cons] at hy
    rcases hy with rfl | rfl | hy
    · rfl
    · rfl
    · exact ih y hy
theorem rus_set (l : List Ru) (i : Nat) (x : Ru) (h : i < l.length) : ((rus l).set (i * 2) (.int .u8 (x.1.toNat : Int))).set (i * 2 + 1) (.int .i64 x.2) = rus (l.set i x) := by
  induction l generalizing i with
  | nil => simp at h
  | cons s l ih =>
    cases i with
    | zero => rfl
    | succ i =>
      rw [show (i + 1) * 2 = i * 2 + 1 + 1 by omega]
      simp only [rus, List.set_cons_succ, ih i (by simpa using h)]
/-- the value v is seen in w as the shards l -/
def SeenRu (w : World) (v : Value) (l : List Ru) : Prop :=
  ∃ A c, v = .slice A l.length c ∧ l.length ≤ c ∧ c ≤ maxLen ∧ (0 < l.length → ∃ b off, A = some ⟨b, off, none⟩ ∧ b < w.heap.size ∧ ∀ i s, l[i]? = some s → w.cell? ⟨b, off + i * 2, none⟩ = some (.int .u8 (s.1.toNat : Int)) ∧ w.cell? ⟨b, off + i * 2 + 1, none⟩ = some (.int .i64 s.2))
/-- a row of shards of the call's own, its block from lo to hi -/
def OwnRu (E : TypeId) (w : World) (lo hi : Nat) (v : Value) (l : List Ru) : Prop := w.ownsRow lo E 2 v l.length (rus l) ∧ hi ≤ w.heap.size ∧ ∀ g, v.ownBlock = some g → g < hi
section
variable {w w' : World} {lo hi a b : Nat} {v : Value} {l : List Ru} {E : TypeId}
theorem SeenRu.below (h : SeenRu w v l) (hb : Below w.heap.size w w') : SeenRu w' v l := by
  obtain ⟨A, c, rfl, h1, h2, h3⟩ := h
  refine ⟨A, c, rfl, h1, h2, fun hn => ?_⟩
  obtain ⟨b, off, rfl, hb', hc⟩ := h3 hn
  exact ⟨b, off, rfl, Nat.lt_of_lt_of_le hb' hb.size, fun i s hi => ⟨(hb.cell (p := ⟨b, off + i * 2, none⟩) hb').trans (hc i s hi).1, (hb.cell (p := ⟨b, off + i * 2 + 1, none⟩) hb').trans (hc i s hi).2⟩⟩
theorem SeenRu.len (h : SeenRu w v l) : ∃ A c, v = .slice A l.length c := by
  obtain ⟨A, c, h, _⟩ := h
  exact ⟨A, c, h⟩
theorem SeenRu.nil (w : World) : SeenRu w (.slice none 0 0) [] := ⟨none, 0, rfl, Nat.le_refl _, Nat.zero_le _, fun h => by simp at h⟩
theorem owns_turnRu {size n : Nat} {xs : List Value} (h : w.ownsRow lo E size v n xs) (h2 : ∀ g, v.ownBlock = some g → g < hi) (t : TurnIn a b w w') (d : hi ≤ a ∨ b ≤ lo) : w'.ownsRow lo E size v n xs := by
  refine ⟨h.1, ?_⟩
  rcases h.2 with hn | ⟨g, cap, cur, rfl, hbg, hg, rest⟩
  · exact .inl hn
  · refine .inr ⟨g, cap, cur, rfl, hbg, ?_, rest⟩
    have := h2 g rfl
    rw [t.block g (Array.getElem?_eq_some_iff.1 hg).1 (by omega)]
    exact hg
theorem OwnRu.keep (h : OwnRu E w lo hi v l) (t : TurnIn a b w w') (d : hi ≤ a ∨ b ≤ lo) : OwnRu E w' lo hi v l :=
  ⟨owns_turnRu h.1 h.2.2 t d, Nat.le_trans h.2.1 t.size, h.2.2⟩
theorem OwnRu.seen (h : OwnRu E w lo hi v l) : SeenRu w v l := by
  obtain ⟨h1, h2, h3⟩ := h
  rcases h1.2 with ⟨rfl, hn⟩ | ⟨g, cap, cur, rfl, hb, hg, hnc, hcm, hcs, ht⟩
  · have : l = [] := List.eq_nil_of_length_eq_zero hn
    subst this
    exact SeenRu.nil w
  · refine ⟨_, cap, rfl, hnc, hcm, fun hn => ⟨g, 0, rfl, (Array.getElem?_eq_some_iff.1 hg).1, fun i s hs => ?_⟩⟩
    obtain ⟨hi, rfl⟩ := List.getElem?_eq_some_iff.1 hs
    have e1 := h1.cells (g := g) rfl (i * 2) _ (rus_no l i hi)
    have e2 := h1.cells (g := g) rfl (i * 2 + 1) _ (rus_data l i hi)
    rw [Addr.add_lit, Nat.zero_add] at e1 e2
    exact ⟨by rw [Nat.zero_add]; exact e1, by rw [Nat.zero_add]; exact e2⟩
theorem OwnRu.nil (E : TypeId) (w : World) (lo : Nat) : OwnRu E w lo w.heap.size (.slice none 0 0) [] := ⟨World.ownsRow_nil _ _ _ _, Nat.le_refl _, fun g h => by simp [Value.ownBlock] at h⟩
theorem OwnRu.of_made (h : w'.ownsRow w.heap.size E 2 v l.length (rus l)) : OwnRu E w' w.heap.size w'.heap.size v l := ⟨h, Nat.le_refl _, fun g hg => (h.lt g hg).2⟩
end
def RetRus (E : TypeId) (w : World) (l : List Ru) (e : Ending) (w' : World) : Prop := ∃ v, e = .returned v ∧ OwnRu E w' w.heap.size w'.heap.size v l ∧ TurnIn 0 0 w w'
def RetRusOk (E : TypeId) (w : World) (l : List Ru) (ok : Bool) (e : Ending) (w' : World) : Prop := ∃ v, e = .returned (.tuple #[v, .bool ok]) ∧ OwnRu E w' w.heap.size w'.heap.size v l ∧ TurnIn 0 0 w w'
/-- the shards that marks write -/
def marksRu (k n : Nat) : List Ru := (List.range n).map fun i => (UInt8.ofNat (k + i * 2), ((k + i * 2 + 1 : Nat) : Int))
@[simp] theorem marksRu_length (k n : Nat) : (marksRu k n).length = n := by simp [marksRu]
theorem marksRu_get (k n i : Nat) (h : i < (marksRu k n).length) : (marksRu k n)[i] = (UInt8.ofNat (k + i * 2), ((k + i * 2 + 1 : Nat) : Int)) := by simp [marksRu]
def RetMarkRu (E : TypeId) (w : World) (lo hi : Nat) (v : Value) (k n : Nat) (e : Ending) (w' : World) : Prop :=
  e = .returned (.int .i64 ((k + n * 2 : Nat) : Int)) ∧ OwnRu E w' lo hi v (marksRu k n) ∧ TurnIn lo hi w w'
theorem ofNat_intRu (m : Nat) : ((UInt8.ofNat m).toNat : Int) = (m : Int) % 256 := by rw [UInt8.toNat_ofNat']; omega
end G294
