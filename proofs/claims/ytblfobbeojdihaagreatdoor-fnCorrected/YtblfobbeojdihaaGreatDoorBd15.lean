/- Joined texts: CurA, CurW, TabOf, SenOf, ErrLaw3. -/
import Derived.Test.YtblfobbeojdihaaGreatDoorBd14
import Derived.Test.YtblfobbeojdihaaGreatDoorBd07
import Derived.Test.YtblfobbeojdihaaGreatDoorBd10
import Derived.Test.YtblfobbeojdihaaGreatDoorRows
import Derived.Test.YtblfobbeojdihaaGreatDoorBd00
import Derived.Test.YtblfobbeojdihaaGreatDoorBd02
import Derived.Stop.LaidErr
import Derived.Stop.LaidTwo
import Derived.Stop.JoinedAt
import Derived.Stop.Texts
import Derived.Test.YtblfobbeojdihaaGreatDoorBd09
set_option linter.unusedSimpArgs false
set_option linter.unusedVariables false
/- Draws of secrets and of polynomials. -/
namespace G294
open Go Go.RowKit
theorem ints_new {w : World} {T : TypeId} {l : List Int} (hl : (ints l).length ≤ 1000) : ∀ i u, (ints l)[i]? = some u → (w.alloc (.cells (ints l).toArray T)).cell? ⟨w.heap.size, i, none⟩ = some u := fun i u hu => by
  rw [cell_of_row _ w.heap.size i _ T _ (heap_alloc_new w _), List.getElem?_toArray]; exact hu
end G294
namespace Go.Proofs.YtblfobbeojdihaaGreatDoor
open Go.RowKit G294

def RetSec (w : World) (e : Ending) (w' : World) : Prop := ∃ (s : UInt8) (v : Value) (l : List UInt8) (n : Int), e = .returned (.tuple #[.int .u8 (s.toNat : Int), v, .int .i64 n]) ∧ l.length ≤ 20 ∧ OwnBytes 5 w' w.heap.size w'.heap.size v l ∧ TurnIn 0 0 w w'
def RetVB (w : World) (e : Ending) (w' : World) : Prop := ∃ (v : Value) (l : List UInt8) (x : UInt8), e = .returned (.tuple #[v, .int .u8 (x.toNat : Int)]) ∧ OwnBytes 5 w' w.heap.size w'.heap.size v l ∧ TurnIn 0 0 w w'

end Go.Proofs.YtblfobbeojdihaaGreatDoor

/- Chapter 8: the cursor's word; what the laws of chapter 8 draw. -/
namespace G294
open Go Go.RowKit
theorem enc_len {d : List UInt8} {t : Int} (h : encOk8 d t = true) : (encR8 d t).length = 2 * t.toNat + d.length := by
  have h' := h
  simp only [encOk8, errT, Bool.and_eq_true, decide_eq_true_eq] at h'
  unfold encR8
  rw [if_pos h]
  simp [encL8]
def CellsB (L gw : Nat) (l : List UInt8) (W : World) : Prop := ∀ j, j < L → W.cell? ⟨gw, j, none⟩ = some (.int .u8 ((l.getD j 0).toNat : Int))
theorem cellsB_of {W : World} {D L gw cp : Nat} {E : TypeId} {l : List UInt8} (h : W.ownsRow D E 1 (.slice (some ⟨gw, 0, none⟩) L cp) L (bys l)) (hl : l.length = L) : CellsB L gw l W := fun j hj => own_cell8 h hl.symm hj
theorem own_farB {w w' : World} {lo a b n : Nat} {E : TypeId} {v : Value} {xs : List Value} (h : w.ownsRow lo E 1 v n xs) (t : TurnIn a b w w') (d : b ≤ lo) : w'.ownsRow lo E 1 v n xs := own_far h t d
theorem undrewT {a b : Nat} {w w' : World} (t : TurnIn a b w.drew w') : TurnIn a b w w' := ⟨t.os, t.tape, t.output, t.size, t.block⟩
end G294
namespace Go.Proofs.YtblfobbeojdihaaGreatDoor
open Go.RowKit G294

/-- a word and a number are drawn -/
def DrawsW (w : World) (g : Nat) (cv : Value) (m : Nat) (e : Ending) (w' : World) : Prop := ∃ (v : Value) (l : List UInt8) (t : Int), e = .returned (.tuple #[v, .int .i64 t]) ∧ l.length ≤ 24 ∧ OwnBytes 5 w' w.heap.size w'.heap.size v l ∧ CurAt w' g cv m ∧ TurnIn g (g + 1) w w'

set_option maxRecDepth 100000 in
set_option maxHeartbeats 1000000 in
theorem word_any (g : Nat) (cv : Value) (m : Nat) (w : World) (hc : CurAt w g cv m) (hm : m ≤ 100000) :
    Calls Tryz.prog 51 #[.pointer (some ⟨g, 0, none⟩)] w (DrawsW w g cv (m + 100)) := by
  have hg := hc.lt
  go_enter Tryz.func51, Tryz.ntmps51
  go_wp2_with fail
  refine (pick_any g cv m 4 _ hc (by omega)).mono ?_
  rintro e w1 ⟨r, rfl, r0, r1, hc1, k1⟩
  have s1 := k1.size
  obtain ⟨t, ht⟩ : ∃ t : Nat, (t : Int) = 1 + r := ⟨(1 + r).toNat, by omega⟩
  have ht1 : 1 ≤ t ∧ t ≤ 4 := by have : pickHi 4 = 3 := rfl; omega
  obtain ⟨ht1, ht4⟩ := ht1
  have hrt : 1 + r = (t : Int) := ht.symm
  have hr3 : r ≤ 3 := by omega
  clear r1 hc ht
  go_wp2_with fail
  refine (pick_any g cv _ 8 _ hc1 (by omega)).mono ?_
  rintro e w2 ⟨q, rfl, q0, q1, hc2, k2⟩
  have s2 := k2.size
  obtain ⟨p, hp⟩ : ∃ p : Nat, (p : Int) = 1 + q := ⟨(1 + q).toNat, by omega⟩
  have hp1 : 1 ≤ p ∧ p ≤ 8 := by have : pickHi 8 = 7 := rfl; omega
  obtain ⟨hp1, hp8⟩ := hp1
  have hqp : 1 + q = (p : Int) := hp.symm
  have hq7 : q ≤ 7 := by omega
  have kk2 := turn_trans k1 k2 (by omega)
  clear q1 hc1 k1 k2 hp
  go_wp2_with fail
  refine (vector_any g cv _ p _ hc2 (by omega)).mono ?_
  rintro e w3 ⟨v3, l3, rfl, hl3, ho3, hc3, k3⟩
  have s3 := k3.size
  have kk3 := turn_trans kk2 k3 (by omega)
  have HE3 := Lib.hid (sEncodeWord_own v3 l3 (t : Int) w3 (OwnBytes.of_made ho3).seen (by rw [hl3]; omega))
  have hok : encOk8 l3 (t : Int) = true := by
    simp only [encOk8, errT, Bool.and_eq_true, decide_eq_true_eq]; omega
  have hel := enc_len hok
  have HEL : Hid (7 ≤ 7 ∧ (encR8 l3 (t : Int)).length = 2 * t + p) := by show _ ∧ _; exact ⟨Nat.le_refl _, by rw [hel, hl3]; simp⟩
  have HK3 := Lib.hid hok
  clear hok hel hl3 ho3 kk2 hc2 k3
  go_wp2_with fail
  refine HE3.out.mono ?_
  rintro e w4 ⟨v4, rfl, o4, k4⟩
  rw [HK3.out]
  have s4 := k4.size
  have hc4 := hc3.keep k4 (by omega)
  have kk4 := turn_trans kk3 k4 (by omega)
  obtain ⟨le, hle⟩ : ∃ le, le = encR8 l3 (t : Int) := ⟨_, rfl⟩
  rw [← hle] at o4
  obtain ⟨L, hL⟩ : ∃ L, L = 2 * t + p := ⟨_, rfl⟩
  have HL : Hid (le.length = L) := by show _ = _; rw [hle, hL]; exact HEL.out.2
  have hL3 : 1 ≤ L := by omega
  have hL24 : L ≤ 24 := by omega
  obtain ⟨gw, cp, rfl, hg1, hg2, hcp1, hcp2⟩ := o4.slice (by rw [HL.out]; omega)
  have o4' := o4.1
  rw [HL.out] at o4' hcp1 ⊢
  unfold maxLen at hcp2
  have HO4 := Lib.hid o4'
  clear hle hL o4 o4' k4 kk3 hc3 HE3 HEL HK3
  have hgw : g < gw := by omega
  have hwt : IntKind.i64.wrap ((t : Int) + 2) = (t : Int) + 2 := IntWalk.i64_in _ (by omega)
  go_wp2_with fail
  refine (pick_any g cv _ ((t : Int) + 2) _ hc4 (by omega)).mono ?_
  rintro e w5 ⟨n, rfl, n0, n1, hc5, k5⟩
  have s5 := k5.size
  have hn5 : n ≤ 5 := by
    unfold pickHi at n1; split at n1 <;> omega
  obtain ⟨n, rfl⟩ := Int.eq_ofNat_of_zero_le n0
  have hn : n ≤ 5 := by omega
  have HO5 := Lib.hid (own_far HO4.out k5 (by omega))
  have kk5 := turn_trans kk4 k5 (by omega)
  obtain ⟨D, hD⟩ : ∃ D, D = w3.heap.size := ⟨_, rfl⟩
  rw [← hD] at HO5 hg1
  have hDw : w.heap.size ≤ D := by omega
  have hgD : g + 1 ≤ D := by omega
  have zD : D ≤ w5.heap.size := by omega
  have hgw5 : gw < w5.heap.size := by omega
  clear n1 hn5 hD HO4 kk4 k5 hc4
  go_wp2_with fail
  go_loopw [7] (fun i wr => ∃ (k : Nat) (l' : List UInt8), k ≤ 5 ∧ i = .int .i64 k ∧ Hid (l'.length = L) ∧ wr.ownsRow D 5 1 (.slice (some ⟨gw, 0, none⟩) L cp) L (bys l') ∧ CurAt wr g cv (m + 44 + 6 * (5 - k)) ∧ TurnIn g (g + 1) w wr ∧ gw < wr.heap.size ∧ D ≤ wr.heap.size)
    (fun i _ => (intOf i).toNat)
  case atStart => exact ⟨n, le, hn, rfl, HL, HO5.out, hc5.more (by omega), kk5, hgw5, zD⟩
  case round =>
    obtain ⟨k, l', hk, rfl, HLL, ho, hcu, kT, hgz, zz⟩ := hrel
    clear hc5 kk5 hgw5 zD HO5
    by_cases hlt : 0 < k
    · have hS : CellsB L gw l' wr.drew := cellsB_of (show wr.drew.ownsRow _ _ _ _ _ _ from ho) HLL.out
      have HO := Lib.hid ho
      have hLi : (0 : Int) < (L : Int) := by omega
      have hcd : CurAt wr.drew g cv (m + 44 + 6 * (5 - k)) := hcu
      clear ho hcu
      go_wp2_with fail
      refine wp_region_tail (CellsB L gw l') 11 (by kernel_rfl) ?_
      refine wpAnyT_take (i := 0) (oi := _) (v := ?vw0) rfl (by kernel_rfl) (by kernel_rfl) (by kernel_rfl) (by kernel_rfl) (fun _ _ _ h => h) (Or.inl ⟨by rfl, ?hyw0⟩) hS ?restw0
      case hyw0 => (intro W hW; go_simp; try with_reducible rfl)
      simp only [Act.put, List.setIfInBounds_toArray, List.set_cons_zero, List.set_cons_succ]
      refine wpAnyT_take (i := 1) (oi := _) (v := ?vw1) rfl (by kernel_rfl) (by kernel_rfl) (by kernel_rfl) (by kernel_rfl) (fun _ _ _ h => h) (Or.inl ⟨by rfl, ?hyw1⟩) hS ?restw1
      case hyw1 => (intro W hW; go_simp; try with_reducible rfl)
      simp only [Act.put, List.setIfInBounds_toArray, List.set_cons_zero, List.set_cons_succ]
      refine wpAnyT_take (i := 2) (oi := _) (v := ?vw2) rfl (by kernel_rfl) (by kernel_rfl) (by kernel_rfl) (by kernel_rfl) (fun _ _ _ h => h) (Or.inl ⟨by rfl, ?hyw2⟩) hS ?restw2
      case hyw2 => (intro W hW; go_simp; try with_reducible rfl)
      simp only [Act.put, List.setIfInBounds_toArray, List.set_cons_zero, List.set_cons_succ]
      refine wpAnyT_take (i := 3) (oi := _) (v := ?vw3) rfl (by kernel_rfl) (by kernel_rfl) (by kernel_rfl) (by kernel_rfl) (fun _ _ _ h => h) (Or.inl ⟨by rfl, ?hyw3⟩) hS ?restw3
      case hyw3 => (intro W hW; go_simp; try with_reducible rfl)
      simp only [Act.put, List.setIfInBounds_toArray, List.set_cons_zero, List.set_cons_succ]
      refine wpAnyT_take (i := 7) (oi := _) (v := ?vw7) rfl (by kernel_rfl) (by kernel_rfl) (by kernel_rfl) (by kernel_rfl) (fun _ _ _ h => h) (Or.inl ⟨by rfl, ?hyw7⟩) hS ?restw7
      case hyw7 => (intro W hW; go_simp; try with_reducible rfl)
      simp only [Act.put, List.setIfInBounds_toArray, List.set_cons_zero, List.set_cons_succ]
      refine wpAnyT_one (i := 4) (o := _) rfl (by kernel_rfl) (fun K hK => ?_)
      go_simp
      refine (pick_any g cv _ (L : Int) _ hcd (by omega)).mono ?_
      rintro e w6 ⟨x, rfl, x0, x1, hc6, k6'⟩
      have k6 := undrewT k6'
      have s6 := k6.size
      obtain ⟨x, rfl⟩ := Int.eq_ofNat_of_zero_le x0
      have hxL : x < L := by have := pickHi_lt (show 1 ≤ L by omega); omega
      have hxi : (x : Int) < (L : Int) := by omega
      have ho6 := own_far HO.out k6 (by omega)
      refine hK.out _ _ (fun _ => cellsB_of ho6 HLL.out) ?_
      clear hK K hS x1
      have hS := cellsB_of ho6 HLL.out
      obtain ⟨y, hy⟩ : ∃ y, y = l'.getD x 0 := ⟨_, rfl⟩
      have HY : Hid (l'.getD x 0 = y) := hy.symm
      clear hy
      try simp only [Act.put, List.setIfInBounds_toArray, List.set_cons_zero, List.set_cons_succ]
      refine wpAnyT_take (i := 5) (oi := _) (v := ?vw5) rfl (by kernel_rfl) (by kernel_rfl) (by kernel_rfl) (by kernel_rfl) (fun _ _ _ h => h) (Or.inl ⟨by rfl, ?hyw5⟩) hS ?restw5
      case hyw5 => (intro W hW; go_simp; try with_reducible rfl)
      simp only [Act.put, List.setIfInBounds_toArray, List.set_cons_zero, List.set_cons_succ]
      refine wpAnyT_take (i := 6) (oi := _) (v := ?vw6) rfl (by kernel_rfl) (by kernel_rfl) (by kernel_rfl) (by kernel_rfl) (fun _ _ _ h => h) (Or.inl ⟨by rfl, ?hyw6⟩) hS ?restw6
      case hyw6 => (intro W hW; have hW6 := hW x hxL; rw [HY.out] at hW6; go_simp; try with_reducible rfl)
      simp only [Act.put, List.setIfInBounds_toArray, List.set_cons_zero, List.set_cons_succ]
      refine wpAnyT_one (i := 8) (o := _) rfl (by kernel_rfl) (fun K hK => ?_)
      go_simp
      refine (byte_any g cv _ _ hc6 (by omega)).mono ?_
      rintro e w7 ⟨b, rfl, hc7, k7⟩
      have s7 := k7.size
      have ho7 := own_far ho6 k7 (by omega)
      have hS7 := cellsB_of ho7 HLL.out
      refine hK.out _ _ (fun _ => hS7) ?_
      clear hK K hS
      have hS := hS7
      have hcx := hS7 x hxL
      rw [HY.out] at hcx
      have hfr := ho7.frozenAt x
      have hst := own_set8 ho7 x (y ^^^ b)
      have HST := Lib.hid hst
      have hxor := xor_u8 y b
      have HLS : Hid ((l'.set x (y ^^^ b)).length = L) := by show _ = _; rw [List.length_set]; exact HLL.out
      have HK7 := Lib.hid (turn_trans (turn_trans kT k6 (by omega)) k7 (by omega))
      have HC7 := Lib.hid hc7
      clear hst ho7 ho6 k6 k6' k7 hc7 hc6
      try simp only [Act.put, List.setIfInBounds_toArray, List.set_cons_zero, List.set_cons_succ]
      refine wpAnyT_take (i := 9) (oi := _) (v := ?vw9) rfl (by kernel_rfl) (by kernel_rfl) (by kernel_rfl) (by kernel_rfl) (fun _ _ _ h => h) (Or.inl ⟨by rfl, ?hyw9⟩) hS ?restw9
      case hyw9 => (intro W hW; go_simp; try with_reducible rfl)
      simp only [Act.put, List.setIfInBounds_toArray, List.set_cons_zero, List.set_cons_succ]
      refine wpAnyT_take (i := 10) (oi := _) (v := ?vw10) rfl (by kernel_rfl) (by kernel_rfl) (by kernel_rfl) (by kernel_rfl) (fun _ _ _ h => h) (Or.inl ⟨by rfl, ?hyw10⟩) hS ?restw10
      case hyw10 => (intro W hW; go_simp; try with_reducible rfl)
      simp only [Act.put, List.setIfInBounds_toArray, List.set_cons_zero, List.set_cons_succ]
      refine wpAnyT_one (i := 11) (o := _) rfl (by kernel_rfl) (fun K hK => ?_)
      go_simp
      refine hK.out _ _ (fun h => absurd rfl h) ?_
      clear hK K
      try simp only [Act.put, List.setIfInBounds_toArray, List.set_cons_zero, List.set_cons_succ]
      refine wpAnyT_done (by kernel_rfl) ?_ _
      obtain ⟨k', hk'⟩ : ∃ k', k = k' + 1 := ⟨k - 1, by omega⟩
      have hwk : IntKind.i64.wrap ((k : Int) - 1) = (k' : Int) := by rw [IntWalk.i64_in _ (by omega)]; omega
      have hkk : 5 - k + 1 = 5 - k' := by omega
      have HC8 : Hid (CurAt (w7.setCell ⟨gw, x, none⟩ (.int .u8 ((y ^^^ b).toNat : Int))) g cv (m + 44 + 6 * (5 - k'))) := Lib.hid ((HC7.out.keep (turn_setCell w7 gw x _) (by omega)).more (by omega))
      have HK8 : Hid (TurnIn g (g + 1) w (w7.setCell ⟨gw, x, none⟩ (.int .u8 ((y ^^^ b).toNat : Int)))) := Lib.hid (turn_trans HK7.out (turn_setCell w7 gw x _) (by omega))
      have HKK := Lib.hid hk'
      have HZ8 : Hid (gw < (w7.setCell ⟨gw, x, none⟩ (.int .u8 ((y ^^^ b).toNat : Int))).heap.size ∧ D ≤ (w7.setCell ⟨gw, x, none⟩ (.int .u8 ((y ^^^ b).toNat : Int))).heap.size) := by show _ ∧ _; simp; omega
      clear hk' hkk hS hS7 hcx hfr
      go_wp2_with fail
      go_roundw
      case rel => exact ⟨k', _, by have := HKK.out; omega, by go_num, HLS, HST.out, HC8.out, HK8.out, HZ8.out.1, HZ8.out.2⟩
      case measure => have := HKK.out; simp [intOf]; omega
    · obtain rfl : k = 0 := by omega
      have HO := Lib.hid ho
      clear ho
      go_wp2_with fail
      refine (one_any g cv _ 20 _ hcu (by omega)).mono ?_
      rintro e w6 ⟨b6, rfl, hc6, k6⟩
      have s6 := k6.size
      have HO6 := Lib.hid (own_far HO.out k6 (by omega))
      have kk6 := turn_trans kT k6 (by omega)
      have HW : Hid (∀ W, W.ownsRow D 5 1 (.slice (some ⟨gw, 0, none⟩) L cp) L (bys l') → OwnBytes 5 W w.heap.size W.heap.size (.slice (some ⟨gw, 0, none⟩) L cp) l') := fun W h => ⟨by rw [HLL.out]; exact own_base h hDw, Nat.le_refl _, fun g e => (h.lt g e).2⟩
      have HLX : Hid (l'.length ≤ 24) := by show _ ≤ _; rw [HLL.out]; exact hL24
      clear hcu k6 kT HO
      cases b6
      · go_wp2_with fail
        go_ret2
        exact ⟨_, l', _, rfl, HLX.out, HW.out _ HO6.out, hc6.more (by omega), kk6⟩
      · go_wp2_with fail
        refine (pick_any g cv _ 6 _ hc6 (by omega)).mono ?_
        rintro e w7 ⟨x, rfl, x0, x1, hc7, k7⟩
        have HO7 := Lib.hid (own_far HO6.out k7 (by omega))
        have kk7 := turn_trans kk6 k7 (by omega)
        clear x1
        go_wp2_with fail
        go_ret2
        exact ⟨_, l', _, rfl, HLX.out, HW.out _ HO7.out, hc7.more (by omega), kk7⟩

/-- a word and a number -/
def RetWT (w : World) (e : Ending) (w' : World) : Prop := ∃ (v : Value) (l : List UInt8) (t : Int), e = .returned (.tuple #[v, .int .i64 t]) ∧ l.length ≤ 24 ∧ OwnBytes 5 w' w.heap.size w'.heap.size v l ∧ TurnIn 0 0 w w'

theorem draws_base {g : Nat} {w w0 w' : World} (k0 : TurnIn 0 0 w w0) (hg : w.heap.size ≤ g) (k : TurnIn g (g + 1) w0 w') : TurnIn 0 0 w w' := turn_trans k0 k (by omega)

set_option maxRecDepth 100000 in
set_option maxHeartbeats 1000000 in
theorem drawSyndromes_any (v : Value) (l : List UInt8) (w : World) (hv : Seen w v (bys l)) : Calls Tryz.prog 16 #[v] w (RetWT w) := by
  obtain ⟨A, c, hvv⟩ := hv.len
  rw [bys_length] at hvv
  subst hvv
  have hc := cur_new hv
  have k0 := turn_alloc w (.cells #[.slice A l.length c, .int .i64 0, .int .u64 0] 40)
  have s0 := World.size_alloc w (.cells #[.slice A l.length c, .int .i64 0, .int .u64 0] 40)
  go_enter Tryz.func16, Tryz.ntmps16
  go_wp2_with fail
  refine (word_any _ _ 0 _ hc (by omega)).mono ?_
  rintro e w1 ⟨v1, l1, t1, rfl, h1, o1, hc1, k1⟩
  have kk := draws_base k0 (Nat.le_refl _) k1
  have HL := Lib.hid h1
  clear h1
  go_wp2_with fail
  go_ret2
  exact ⟨v1, l1, t1, rfl, HL.out, o1.wider (by omega) (Nat.le_refl _) (Nat.le_refl _), kk⟩

set_option maxRecDepth 100000 in
set_option maxHeartbeats 1000000 in
theorem drawCorrect_any (v : Value) (l : List UInt8) (w : World) (hv : Seen w v (bys l)) : Calls Tryz.prog 14 #[v] w (RetWT w) := by
  have HD := Lib.hid (drawSyndromes_any v l w hv)
  go_enter Tryz.func14, Tryz.ntmps14
  go_wp2_with fail
  refine HD.out.mono ?_
  rintro e w1 ⟨v1, l1, t1, rfl, h1, o1, k1⟩
  have HL := Lib.hid h1
  clear h1
  go_wp2_with fail
  go_ret2
  exact ⟨v1, l1, t1, rfl, HL.out, o1, k1⟩

set_option maxRecDepth 100000 in
set_option maxHeartbeats 1000000 in
theorem drawEncode_any (v : Value) (l : List UInt8) (w : World) (hv : Seen w v (bys l)) : Calls Tryz.prog 5 #[v] w (RetWT w) := by
  obtain ⟨A, c, hvv⟩ := hv.len
  rw [bys_length] at hvv
  subst hvv
  have hc := cur_new hv
  have k0 := turn_alloc w (.cells #[.slice A l.length c, .int .i64 0, .int .u64 0] 40)
  have s0 := World.size_alloc w (.cells #[.slice A l.length c, .int .i64 0, .int .u64 0] 40)
  have HIN := Lib.hid (ints_new (w := w.alloc (.cells #[.slice A l.length c, .int .i64 0, .int .u64 0] 40)) (T := 3) (l := [0, 1, 2, 5, 8, 16, 17, 22, 23]) (by simp))
  have ka := turn_alloc (w.alloc (.cells #[.slice A l.length c, .int .i64 0, .int .u64 0] 40)) (.cells (ints [0, 1, 2, 5, 8, 16, 17, 22, 23]).toArray 3)
  have za := World.size_alloc (w.alloc (.cells #[.slice A l.length c, .int .i64 0, .int .u64 0] 40)) (.cells (ints [0, 1, 2, 5, 8, 16, 17, 22, 23]).toArray 3)
  have hc2 := hc.keep ka (by omega)
  have kk := turn_trans k0 ka (by omega)
  rw [s0] at HIN za
  go_enter Tryz.func5, Tryz.ntmps5
  go_wp2_with fail
  refine (among_any w.heap.size _ _ (w.heap.size + 1) 9 [0, 1, 2, 5, 8, 16, 17, 22, 23] _ hc2 (by omega) (by simp) (by simp) (by simp) (by omega) (by omega) (by rw [za]; omega) HIN.out).mono ?_
  rintro e w2 ⟨r, rfl, hr, hc3, k2⟩
  have s2 := k2.size
  have hr0 : 0 ≤ r ∧ r ≤ 23 := by
    simp only [List.mem_cons, List.not_mem_nil, or_false] at hr
    omega
  obtain ⟨r, rfl⟩ := Int.eq_ofNat_of_zero_le hr0.1
  have hr9 : r ≤ 23 := by omega
  replace kk := turn_trans kk k2 (by omega)
  clear hr hr0 HIN hc hc2 k0 ka k2
  go_wp2_with fail
  refine (vector_any _ _ _ r _ hc3 (by omega)).mono ?_
  rintro e w3 ⟨v3, l3, rfl, hl3, ho3, hc4, k3⟩
  have s3 := k3.size
  have HL3 := Lib.hid hl3
  have o3 := OwnBytes.of_made ho3
  replace kk := turn_trans kk k3 (by omega)
  clear hl3 ho3 hc3 k3
  go_wp2_with fail
  refine (pick_any _ _ _ 6 _ hc4 (by omega)).mono ?_
  rintro e w4 ⟨t, rfl, t0, t1, hc5, k4⟩
  replace o3 := o3.keep k4 (by omega)
  replace kk := turn_trans kk k4 (by omega)
  clear t1 hc5 hc4 k4
  go_wp2_with fail
  go_ret2
  exact ⟨v3, l3, t, rfl, by rw [HL3.out]; omega, o3.wid (by omega), kk⟩

set_option maxRecDepth 100000 in
set_option maxHeartbeats 1000000 in
theorem drawLocator_any (v : Value) (l : List UInt8) (w : World) (hv : Seen w v (bys l)) : Calls Tryz.prog 19 #[v] w fun e w' => ∃ (u : Value) (s : List UInt8), e = .returned u ∧ s.length ≤ 20 ∧ OwnBytes 5 w' w.heap.size w'.heap.size u s ∧ TurnIn 0 0 w w' := by
  obtain ⟨A, c, hvv⟩ := hv.len
  rw [bys_length] at hvv
  subst hvv
  have hc := cur_new hv
  have k0 := turn_alloc w (.cells #[.slice A l.length c, .int .i64 0, .int .u64 0] 40)
  have s0 := World.size_alloc w (.cells #[.slice A l.length c, .int .i64 0, .int .u64 0] 40)
  go_enter Tryz.func19, Tryz.ntmps19
  go_wp2_with fail
  refine (word_any _ _ 0 _ hc (by omega)).mono ?_
  rintro e w1 ⟨v1, l1, t1, rfl, h1, o1, hc1, k1⟩
  have s1 := k1.size
  have kk := draws_base k0 (Nat.le_refl _) k1
  clear h1 hc k0 k1
  go_wp2_with fail
  refine (sSyndromesOf_own v1 l1 t1 _ o1.seen).mono ?_
  rintro e w2 ⟨v2, rfl, o2, k2⟩
  have s2 := k2.size
  have hc2 := hc1.keep k2 (by omega)
  replace kk := turn_trans kk k2 (by omega)
  have HL2 : Hid ((synR l1 t1).length ≤ 20) := by have := synR_len l1 t1; show _ ≤ _; omega
  have HO2 := Lib.hid o2
  clear hc1 k2 o1 o2
  generalize fitW l1 t1 = ok at *
  cases ok
  · go_wp2_with fail
    refine (pick_any _ _ _ 11 _ hc2 (by omega)).mono ?_
    rintro e w3 ⟨r, rfl, r0, r1, hc3, k3⟩
    have s3 := k3.size
    obtain ⟨r, rfl⟩ := Int.eq_ofNat_of_zero_le r0
    have r10 : r ≤ 10 := by have : pickHi 11 = 10 := rfl; omega
    replace kk := turn_trans kk k3 (by omega)
    clear r1 hc2 k3
    go_wp2_with fail
    refine (vector_any _ _ _ r _ hc3 (by omega)).mono ?_
    rintro e w4 ⟨v4, l4, rfl, hl4, ho4, hc4, k4⟩
    have HL4 := Lib.hid hl4
    have o4 := OwnBytes.of_made ho4
    replace kk := turn_trans kk k4 (by omega)
    clear hl4 ho4
    go_wp2_with fail
    go_ret
    exact ⟨v4, l4, rfl, by rw [HL4.out]; omega, o4.wid (by omega), kk⟩
  · go_wp2_with fail
    refine (one_any _ _ _ 6 _ hc2 (by omega)).mono ?_
    rintro e w3 ⟨b, rfl, hc3, k3⟩
    have s3 := k3.size
    have HO3 := Lib.hid (HO2.out.keep k3 (by omega))
    replace kk := turn_trans kk k3 (by omega)
    clear hc2 k3
    cases b
    · go_wp2_with fail
      go_ret
      exact ⟨v2, _, rfl, HL2.out, HO3.out.wid (by omega), kk⟩
    · go_wp2_with fail
      refine (pick_any _ _ _ 11 _ hc3 (by omega)).mono ?_
      rintro e w4 ⟨r, rfl, r0, r1, hc4, k4⟩
      have s4 := k4.size
      obtain ⟨r, rfl⟩ := Int.eq_ofNat_of_zero_le r0
      have r10 : r ≤ 10 := by have : pickHi 11 = 10 := rfl; omega
      replace kk := turn_trans kk k4 (by omega)
      clear r1 hc3 k4
      go_wp2_with fail
      refine (vector_any _ _ _ r _ hc4 (by omega)).mono ?_
      rintro e w5 ⟨v5, l5, rfl, hl5, ho5, hc5, k5⟩
      have HL5 := Lib.hid hl5
      have o5 := OwnBytes.of_made ho5
      replace kk := turn_trans kk k5 (by omega)
      clear hl5 ho5
      go_wp2_with fail
      go_ret
      exact ⟨v5, l5, rfl, by rw [HL5.out]; omega, o5.wid (by omega), kk⟩

end Go.Proofs.YtblfobbeojdihaaGreatDoor

/- The table of remainders, out of what a row lays. -/
namespace Go.Proofs.YtblfobbeojdihaaGreatDoor
open Go.ChangeShapes Go.WideShapes Go.ChangeAt Go.RowKit

theorem byte_of_wf {x : Int} (h : (Lit.int .u8 x).wf = true) : ∃ n : Nat, n < 256 ∧ x = n := by
  have hb := bounds_u8 h
  exact ⟨x.toNat, by omega, by omega⟩
theorem tab_of {laid : List (String × DataW Unit)} {W : World} (hpl : (laid.all fun x => x.2.handleName?.isNone) = true) (h : laidMetH Tryz.prog laid W) (i : Nat) {name : String}
    (hi : laid[i]? = some (name, Lib.tabData .u8 [27, 54, 108, 216, 171, 77, 154])) (hg : Tryz.prog.globalNamed name = some 3) : Tab W ∧ 3 < W.heap.size := by
  obtain ⟨hc, hs⟩ := G294.tab_of_laid hpl h i (g := 3) (t := 154) (e := 5) (n := 7) hi hg (by kernel_rfl) Tryz.underlying154 Tryz.underlying5 (by kernel_rfl) (by kernel_rfl)
  refine ⟨fun k hk => ?_, hs⟩
  have := hc k (by simpa using hk)
  rw [this]
  have : k = 0 ∨ k = 1 ∨ k = 2 ∨ k = 3 ∨ k = 4 ∨ k = 5 ∨ k = 6 := by omega
  rcases this with rfl | rfl | rfl | rfl | rfl | rfl | rfl <;> rfl

end Go.Proofs.YtblfobbeojdihaaGreatDoor

/- The two sentinels, out of what a row lays. -/
namespace Go.Proofs.YtblfobbeojdihaaGreatDoor
open Go.ChangeShapes Go.WideShapes Go.ChangeAt Go.RowKit

theorem starE : "*" ++ "errors.errorString" = "*errors.errorString" := by decide

theorem rowE (u : TypeId) (h : Tryz.prog.typeName? 3 u = some "*errors.errorString") : u = 160 :=
  typeName_ptr_named (nm := "errors.errorString") (by rw [starE]; kernel_rfl) (by kernel_rfl) (by decide) u (by rw [starE]; exact h)

theorem var_lt {P : Program} {W : World} {n : String} {g : Nat} {cs : Array Value} (hg : P.globalNamed n = some g) (h : W.var? P n = some cs) : g < W.heap.size := by
  unfold World.var? at h
  simp only [hg, Option.bind_some] at h
  rcases Nat.lt_or_ge g W.heap.size with h' | h'
  · exact h'
  · rw [Array.getElem?_eq_none h'] at h; cases h

theorem sen0_of {W : World} {text : List UInt8} {r : List (String × DataW Unit)} (h : laidMet Tryz.prog (("loop.example/g00294/impl.errWordSize", .iface "*errors.errorString" (.ptr (.agg [.lit (.string text)]))) :: r) W) :
    ∃ a0, W.cell? ⟨1, 0, none⟩ = some (.iface 160 (.pointer (some a0))) ∧ 1 < W.heap.size := by
  have hg : Tryz.prog.globalNamed "loop.example/g00294/impl.errWordSize" = some 1 := by kernel_rfl
  obtain ⟨a, s, hv, _⟩ := laid_sentinel h hg (by kernel_rfl) Tryz.underlying50 rowE Tryz.underlying160 Tryz.underlying181 rfl rfl Tryz.underlying9 (by kernel_rfl) (by kernel_rfl)
  exact ⟨a, by simpa using World.var?_cell hg hv 0, var_lt hg hv⟩

theorem sen_of {W : World} {text0 text1 : List UInt8} {r : List (String × DataW Unit)} (h : laidMet Tryz.prog (("loop.example/g00294/impl.errWordSize", .iface "*errors.errorString" (.ptr (.agg [.lit (.string text0)]))) :: ("loop.example/g00294/impl.errNoWord", .iface "*errors.errorString" (.ptr (.agg [.lit (.string text1)]))) :: r) W) : ∃ a0 a1, Sen W a0 a1 := by
  have hg0 : Tryz.prog.globalNamed "loop.example/g00294/impl.errWordSize" = some 1 := by kernel_rfl
  have hg1 : Tryz.prog.globalNamed "loop.example/g00294/impl.errNoWord" = some 0 := by kernel_rfl
  obtain ⟨a0, a1, s0, s1, c0, c1, t0, t1, hv0, hv1, hc0, hs0, hz0, hc1, hs1, hz1, hne, hb0, hb1⟩ := laid_sentinels2 h hg0 (by kernel_rfl) hg1 (by kernel_rfl) Tryz.underlying50 rowE Tryz.underlying160 Tryz.underlying181 rfl rfl Tryz.underlying9 (by kernel_rfl) (by kernel_rfl)
  exact ⟨a0, a1, by simpa using World.var?_cell hg0 hv0 0, by simpa using World.var?_cell hg1 hv1 0, var_lt hg0 hv0, var_lt hg1 hv1, hne, ⟨c0, t0, hb0⟩, ⟨c1, t1, hb1⟩⟩

end Go.Proofs.YtblfobbeojdihaaGreatDoor

/- Chapter 8's mathematics: few errors are corrected; code words are far apart; what EncodeWord makes is a code word. -/
namespace G294
def difF (a b : List UInt8) (p : Nat) : UInt8 := a.getD p 0 ^^^ b.getD p 0
theorem dist_nz (a b : List UInt8) : ∀ k, distN a b k = (nzK k (difF a b)).length
  | 0 => rfl
  | k + 1 => by
    have e : nzK (k + 1) (difF a b) = nzK k (difF a b) ++ if difF a b k != 0 then [k] else [] := by
      simp only [nzK, List.range_succ, List.filter_append, List.filter_cons, List.filter_nil]
    rw [e, distN, dist_nz a b k, List.length_append]
    by_cases h : a.getD k 0 = b.getD k 0
    · rw [if_pos h, if_neg (by unfold difF; rw [h]; simp)]; simp
    · rw [if_neg h, if_pos (by simpa [difF] using x_ne h)]; simp
theorem nz_nil {a b : List UInt8} (hl : a.length = b.length) (h : (nzK a.length (difF a b)).length = 0) : a = b := by
  refine ext_getD hl fun j hj => ?_
  by_cases e : difF a b j = 0
  · exact x_eq e
  · have hm := nzK_mem.2 ⟨hj, e⟩
    have := List.length_pos_of_mem hm
    omega
theorem pow_apart {n : Nat} (h : n ≤ 24) : apartX (fun p => powB 3 p) n := fun i j hij hj e => by
  have := pow3_inj (i := i) (j := j) (by omega) (by omega) e
  omega
theorem dif_sum {a b : List UInt8} (hl : a.length = b.length) (i : Nat) : hor (powB 3 (i + 1)) a ^^^ hor (powB 3 (i + 1)) b = sumK a.length fun p => gmul (difF a b p) (powB (powB 3 p) (i + 1)) := by
  rw [hor_syn, hor_syn, ← hl, ← sumK_xor]
  exact sumK_congr fun p _ => (xor_gmul _ _ _).symm
/-- code words that differ at few positions are the same -/
theorem spaced {a b : List UInt8} {n : Nat} (hl : a.length = b.length) (h24 : a.length ≤ 24) (ha : ∀ i, i < n → hor (powB 3 (i + 1)) a = 0) (hb : ∀ i, i < n → hor (powB 3 (i + 1)) b = 0) (hd : distN a b a.length ≤ n) : a = b := by
  have he := errs_of (s := mkRow n fun _ => 0) (n := a.length) (c := difF a b) (X := fun p => powB 3 p) (pow_apart h24) (fun k _ => pow3_ne k) (fun i hi => by
    have hi' : i < n := by simpa using hi
    rw [mkRow_getD _ _ _ hi', ← dif_sum hl, ha i hi', hb i hi', UInt8.xor_self])
  rw [dist_nz] at hd
  refine nz_nil hl ?_
  rcases Nat.eq_zero_or_pos (nzK a.length (difF a b)).length with h | h
  · exact h
  · exfalso
    refine he.cne 0 h (dual_zero (c := fun j => difF a b ((nzK a.length (difF a b)).getD j 0)) he.apart he.ne (m := n) (fun i hi => ?_) hd 0 h)
    rw [← he.at' i (by simpa using hi), mkRow_getD _ _ _ hi]
theorem prK_root {X : Nat → UInt8} {x : UInt8} {v : Nat} : prK X x v = 0 ↔ ∃ j, j < v ∧ X j = x := by
  constructor
  · intro h
    refine Classical.byContradiction fun hn => ?_
    exact prK_ne (X := X) (x := x) v (fun j hj e => hn ⟨j, hj, e.symm⟩) h
  · rintro ⟨j, hj, rfl⟩
    exact prK_zero v hj
set_option maxHeartbeats 400000 in
/-- at most half as many errors as there are syndromes are corrected -/
theorem corrected {x u : List UInt8} {t : Nat} (hl : x.length = u.length) (h24 : x.length ≤ 24) (hu : ∀ i, i < 2 * t → hor (powB 3 (i + 1)) u = 0) (hd : distN x u x.length ≤ t) : corAt x (2 * t) = some (u, distN x u x.length) := by
  have he := errs_of (s := synL x (2 * t)) (n := x.length) (c := difF x u) (X := fun p => powB 3 p) (pow_apart h24) (fun k _ => pow3_ne k) (fun i hi => by
    have hi' : i < 2 * t := by simpa using hi
    rw [synL_getD _ _ _ hi', ← dif_sum hl, hu i hi', UInt8.xor_zero])
  rw [dist_nz] at hd ⊢
  unfold corAt
  rcases Nat.eq_zero_or_pos (nzK x.length (difF x u)).length with h | h
  · have hz : zeroL (synL x (2 * t)) = true := (zeroL_iff _).2 fun i hi => by rw [he.at' i hi, h]; rfl
    rw [if_pos hz, h, nz_nil hl h]
  · have hz : ¬ zeroL (synL x (2 * t)) = true := fun hz => by
      refine he.cne 0 h (dual_zero (c := fun j => difF x u ((nzK x.length (difF x u)).getD j 0)) he.apart he.ne (m := 2 * t) (fun i hi => ?_) (by omega) 0 h)
      rw [← he.at' i (by simpa using hi)]
      exact (zeroL_iff _).1 hz i (by simpa using hi)
    rw [if_neg hz]
    have hN : locN (synL x (2 * t)) ((synL x (2 * t)).length / 2) = (nzK x.length (difF x u)).length := locN_errs he _ (by simp; omega) (by simp <;> omega)
    obtain ⟨q, hq, hp, hs⟩ := han_sol he (by simp; omega)
    have hL : locL (synL x (2 * t)) = (q ++ [1]).reverse := by
      unfold locL
      rw [hN, List.reverse_append]
      show _ = 1 :: q.reverse
      congr 2
      refine ext_getD (by simp [locSol, hq]) fun j hj => ?_
      have hj' : j < (nzK x.length (difF x u)).length := by simpa [locSol] using hj
      rw [locSol, mkRow_getD _ _ _ hj', hs j hj']
    have hP : plcs x.length (locL (synL x (2 * t))) = nzK x.length (difF x u) := by
      unfold plcs nzK
      refine List.filter_congr fun i hi => ?_
      have hi' : i < x.length := List.mem_range.1 hi
      rw [hL]
      have : hor (ginv (powB 3 i)) (q ++ [1]).reverse = 0 ↔ difF x u i ≠ 0 := by
        rw [rev_root (pow3_ne i), ← hp, prK_root]
        constructor
        · rintro ⟨j, hj, e⟩
          have h1 := nzK_at hj
          have := pow3_inj (by have := h1.1; omega) (by omega) e
          rw [← this]; exact h1.2
        · intro hne
          obtain ⟨j, hj, e⟩ := List.getElem_of_mem (nzK_mem.2 ⟨hi', hne⟩)
          exact ⟨j, hj, by simp [List.getD, hj, e]⟩
      by_cases e : difF x u i = 0
      · rw [show (difF x u i != 0) = false by simp [e]]
        simpa using fun h => this.1 h e
      · rw [show (difF x u i != 0) = true by simpa using e]
        simpa using this.2 e
    rw [hP, hN, if_neg (by omega)]
    have hE : ∀ k, k < (nzK x.length (difF x u)).length → corE (synL x (2 * t)) (nzK x.length (difF x u)) k = difF x u ((nzK x.length (difF x u)).getD k 0) := fun k hk => plc_sol he (by simp; omega) hk
    have hput : putE x (nzK x.length (difF x u)) (corE (synL x (2 * t)) (nzK x.length (difF x u))) (nzK x.length (difF x u)).length = u := by
      obtain ⟨h1, h2⟩ := putE_getD (w := x) (P := nzK x.length (difF x u)) (E := corE (synL x (2 * t)) (nzK x.length (difF x u))) nzK_lt (fun j hj => (nzK_at hj).1) _ (Nat.le_refl _)
      refine ext_getD (by rw [putE_length, hl]) fun p hp => ?_
      rw [putE_length] at hp
      by_cases e : difF x u p = 0
      · rw [h2 p fun j hj e' => (nzK_at hj).2 (by rw [e']; exact e)]
        exact x_eq e
      · obtain ⟨j, hj, ej⟩ := List.getElem_of_mem (nzK_mem.2 ⟨hp, e⟩)
        have ej' : (nzK x.length (difF x u)).getD j 0 = p := by simp [List.getD, hj, ej]
        have := h1 j hj
        rw [ej', hE j hj, ej'] at this
        rw [this]
        unfold difF
        rw [← UInt8.xor_assoc, UInt8.xor_self, UInt8.zero_xor]
    rw [hput, if_pos ((zeroL_iff _).2 fun i hi => by
      have hi' : i < 2 * t := by simpa using hi
      rw [synL_getD _ _ _ hi', hu i hi'])]
/-- one step of the division changes no value at a root of the divisor -/
theorem remI_hor {g : List UInt8} {a n : Nat} {f x : UInt8} {F : Nat → UInt8} (hx : hor x g = 0) (hn : a + g.length ≤ n) : hor x (mkRow n (remI g a f F g.length)) = hor x (mkRow n F) := by
  have e : ∀ p, remI g a f F g.length p = F p ^^^ (if a ≤ p ∧ p < a + g.length then gmul f (g.getD (p - a) 0) else 0) := fun p => by
    unfold remI; split <;> simp
  rw [hor_sum', hor_sum', sumK_congr (g := fun p => gmul (F p) (powB x p) ^^^ gmul (if a ≤ p ∧ p < a + g.length then gmul f (g.getD (p - a) 0) else 0) (powB x p)) (fun p _ => by rw [e, xor_gmul]), sumK_xor]
  have z : sumK n (fun p => gmul (if a ≤ p ∧ p < a + g.length then gmul f (g.getD (p - a) 0) else 0) (powB x p)) = gmul (gmul f (powB x a)) (hor x g) := by
    rw [hor_sum, ← sumK_mul]
    have hh : ∀ m, m ≤ g.length → sumK (a + m) (fun p => gmul (if a ≤ p ∧ p < a + g.length then gmul f (g.getD (p - a) 0) else 0) (powB x p)) = sumK m fun j => gmul (gmul f (powB x a)) (gmul (g.getD j 0) (powB x j)) := by
      intro m
      induction m with
      | zero =>
        intro _
        rw [sumK_congr (g := fun _ => 0) (fun p hp => by rw [if_neg (by omega), zero_gmul]), sumK_zero]; rfl
      | succ m ih =>
        intro hm
        rw [← Nat.add_assoc, sumK, sumK, ih (by omega), if_pos (by omega), Nat.add_sub_cancel_left, powB_add]
        congr 1
        rw [gmul_assoc, gmul_assoc, gmul_left_comm (powB x a)]
    have h2 : ∀ d, sumK (a + g.length + d) (fun p => gmul (if a ≤ p ∧ p < a + g.length then gmul f (g.getD (p - a) 0) else 0) (powB x p)) = sumK (a + g.length) (fun p => gmul (if a ≤ p ∧ p < a + g.length then gmul f (g.getD (p - a) 0) else 0) (powB x p)) := by
      intro d
      induction d with
      | zero => rfl
      | succ d ih =>
        rw [← Nat.add_assoc, sumK, ih, if_neg (by omega), zero_gmul, UInt8.xor_zero]
    obtain ⟨d, rfl⟩ : ∃ d, n = a + g.length + d := ⟨n - (a + g.length), by omega⟩
    rw [h2 d, hh _ (Nat.le_refl _)]
  rw [z, hx, gmul_zero, UInt8.xor_zero]
theorem remF_hor {g : List UInt8} {n : Nat} {x : UInt8} {F : Nat → UInt8} (hx : hor x g = 0) : ∀ m, m + g.length ≤ n + 1 → hor x (mkRow n (remF g n F m)) = hor x (mkRow n F)
  | 0, _ => rfl
  | m + 1, h => by rw [remF, remI_hor hx (by omega), remF_hor hx m (by omega)]
/-- behind the division the leading elements are 0 -/
theorem remF_lead {g q : List UInt8} {n : Nat} {F : Nat → UInt8} (hg : g = q ++ [1]) : ∀ m, m + g.length ≤ n + 1 → ∀ p, n - m ≤ p → p < n → remF g n F m p = 0
  | 0, _, p, h1, h2 => by omega
  | m + 1, h, p, h1, h2 => by
    have hgl : g.length = q.length + 1 := by rw [hg]; simp
    rw [remF]
    unfold remI
    by_cases e : p = n - 1 - m
    · rw [if_pos (by omega)]
      have : g.getD (p - (n - m - g.length)) 0 = 1 := by
        rw [show p - (n - m - g.length) = q.length by omega, hg]; simp [List.getD]
      rw [this, gmul_one, e, UInt8.xor_self]
    · rw [if_neg (by omega), remF_lead hg m (by omega) p (by omega) h2]
/-- the code word of data has no syndrome -/
theorem enc_root {d : List UInt8} {n i : Nat} (hi : i < n) (hd : 1 ≤ d.length) : hor (powB 3 (i + 1)) (encL8 d n) = 0 := by
  obtain ⟨q, hq, hg⟩ := genL_monic n
  have hr := genL_root n i hi
  obtain ⟨l, hl⟩ : ∃ l, l = zerosN n ++ d := ⟨_, rfl⟩
  have hll : l.length = n + d.length := by rw [hl]; simp [zerosN]
  have hm : l.length + 1 - (genL n).length = d.length := by rw [genL_length]; omega
  have h1 := remF_hor (g := genL n) (n := l.length) (F := fun i => l.getD i 0) hr d.length (by rw [genL_length]; omega)
  rw [← eq_mkRow l] at h1
  have e : encL8 d n = addL (mkRow l.length (remF (genL n) l.length (fun i => l.getD i 0) d.length)) l := by
    refine ext_getD (by rw [addL_lenS _ _ (by simp)]; simp [encL8, hll]) fun j hj => ?_
    have hj' : j < n + d.length := by simpa [encL8] using hj
    rw [addL_getD _ _ (by simp), mkRow_getD _ _ _ (by omega)]
    unfold encL8
    rw [← hl]
    rcases Nat.lt_or_ge j n with h | h
    · have e1 : l.getD j 0 = 0 := by rw [hl]; simp [List.getD, List.getElem?_append, zerosN, h]
      rw [e1, UInt8.xor_zero]
      have e2 : (leftL l (genL n) ++ d).getD j 0 = (leftL l (genL n)).getD j 0 := by simp [List.getD, List.getElem?_append, h]
      rw [e2, leftL, mkRow_getD _ _ _ (by simpa using h), hm]
    · have e1 : l.getD j 0 = d.getD (j - n) 0 := by rw [hl]; simp [List.getD, List.getElem?_append, zerosN, show ¬ j < n by omega]
      have e2 : (leftL l (genL n) ++ d).getD j 0 = d.getD (j - n) 0 := by simp [List.getD, List.getElem?_append, show ¬ j < n by omega]
      rw [e2, e1, remF_lead hg d.length (by rw [genL_length]; omega) j (by omega) (by omega), UInt8.zero_xor]
  rw [e, hor_addL _ _ _ (by simp), h1, UInt8.xor_self]
end G294
