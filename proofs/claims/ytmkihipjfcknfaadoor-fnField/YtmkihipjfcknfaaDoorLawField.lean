/- The walk of FnField: its two draws, and the law. -/
import Derived.Test.YtmkihipjfcknfaaDoorRows
import Derived.Test.YtmkihipjfcknfaaDoorOpenArgs
import Derived.Test.YtmkihipjfcknfaaDoorCurWalks
import Derived.Test.YtmkihipjfcknfaaDoorLawsField
set_option linter.unusedSimpArgs false
set_option linter.unusedVariables false
namespace Go.Proofs.YtmkihipjfcknfaaDoor
open Go.ChangeShapes Go.WideShapes Go.ChangeAt Go.RowKit G294

/-- a new cursor -/
theorem cur_new {w : World} {v : Value} {l : List UInt8} (hv : Seen w v (bys l)) : CurAt (w.alloc (.cells #[v, .int .i64 0, .int .u64 0] 50)) w.heap.size v 0 := by
  obtain ⟨A, c, rfl, hlc, hcm, hx⟩ := hv
  rw [bys_length] at hlc hx ⊢
  refine ⟨0, 0, l, A, c, heap_alloc_new w _, Nat.le_refl _, rfl, hlc, hcm, fun hp => ?_⟩
  obtain ⟨b, off, rfl, hb, hc⟩ := hx hp
  exact ⟨b, off, rfl, hb, fun i u hu => (World.cell?_alloc_lt w _ ⟨b, off + i, none⟩ hb).trans (hc i u hu)⟩

def RetByteByte (w : World) (e : Ending) (w' : World) : Prop := ∃ x y : UInt8, e = .returned (.tuple #[.int .u8 (x.toNat : Int), .int .u8 (y.toNat : Int)]) ∧ TurnIn 0 0 w w'
def RetByteInt (w : World) (e : Ending) (w' : World) : Prop := ∃ (x : UInt8) (n : Int), e = .returned (.tuple #[.int .u8 (x.toNat : Int), .int .i64 n]) ∧ TurnIn 0 0 w w'

set_option maxHeartbeats 400000 in
theorem drawTimes_any (v : Value) (l : List UInt8) (w : World) (hv : Seen w v (bys l)) :
    Calls Tryd.prog 11 #[v] w (RetByteByte w) := by
  obtain ⟨A, c, hvv⟩ := hv.len
  rw [bys_length] at hvv
  subst hvv
  have hc := cur_new hv
  have k0 := turn_alloc w (.cells #[.slice A l.length c, .int .i64 0, .int .u64 0] 50)
  go_enter Tryd.func11, Tryd.ntmps11
  go_wp2_with fail
  refine (byte_any _ _ 0 _ hc (by omega)).mono ?_
  rintro e w1 ⟨x, rfl, hc1, k1⟩
  go_wp2_with fail
  refine (byte_any _ _ _ _ hc1 (by omega)).mono ?_
  rintro e w2 ⟨y, rfl, hc2, k2⟩
  go_wp2_with fail
  go_ret2
  exact ⟨x, y, rfl, turn_trans (turn_trans k0 k1 (by omega)) k2 (by omega)⟩

set_option maxHeartbeats 400000 in
theorem drawPower_any (v : Value) (l : List UInt8) (w : World) (hv : Seen w v (bys l)) :
    Calls Tryd.prog 12 #[v] w (RetByteInt w) := by
  obtain ⟨A, c, hvv⟩ := hv.len
  rw [bys_length] at hvv
  subst hvv
  have hc := cur_new hv
  have k0 := turn_alloc w (.cells #[.slice A l.length c, .int .i64 0, .int .u64 0] 50)
  go_enter Tryd.func12, Tryd.ntmps12
  go_wp2_with fail
  refine (byte_any _ _ 0 _ hc (by omega)).mono ?_
  rintro e w1 ⟨x, rfl, hc1, k1⟩
  have hg1 := hc1.lt
  go_wp2_with fail
  have k2 := turn_alloc w1 (.cells #[.int .i64 (-1), .int .i64 0, .int .i64 1, .int .i64 2, .int .i64 254, .int .i64 255, .int .i64 256, .int .i64 10000, .int .i64 10001] 3)
  refine (among_any _ _ _ w1.heap.size 9 [-1, 0, 1, 2, 254, 255, 256, 10000, 10001] _ (hc1.keep k2 (by omega)) (by omega) (by simp) (by simp) (by simp) (by omega) (by omega) (by simp) ?_).mono ?_
  · intro i u hu
    rw [cell_of_row _ w1.heap.size i _ _ _ (heap_alloc_new w1 _)]
    simpa [ints] using hu
  rintro e w3 ⟨r, rfl, hr, hc3, k3⟩
  clear hr
  go_wp2_with fail
  go_ret2
  exact ⟨x, r, rfl, turn_trans (turn_trans (turn_trans k0 k1 (by omega)) k2 (by omega)) k3 (by omega)⟩


theorem times_i (x y : Nat) (hx : x < 256) (hy : y < 256) (w : World) (ht : Tab w) :
    Calls Tryd.prog 13 #[.int .u8 x, .int .u8 y] w fun e w' => e = .returned (.int .u8 (gm x y : Nat)) ∧ w = w' := times_any x y hx hy w ht
theorem bne_eq {x y : Nat} (h : x = y) : ((x : Int) != (y : Int)) = false := by rw [h]; simp

set_option maxRecDepth 100000 in
set_option maxHeartbeats 4000000 in
theorem field_walk (v u : Value) (l m : List UInt8) (w : World) (hv : Seen w v (bys l)) (hu : Seen w u (bys m)) (ht : Tab w) (h0 : 0 < w.heap.size) :
    Calls Tryd.prog 3 #[v, u] w fun e w' => e = .returned (.bool true) ∧ Below w.heap.size w w' := by
  have hv0 := hv
  have hu0 := hu
  obtain ⟨A, c, rfl, hlc, hcm, hx⟩ := hv
  obtain ⟨A', c', rfl, hlc', hcm', hx'⟩ := hu
  rw [bys_length] at hlc hlc' hv0 hu0
  simp only [bys_length]
  clear hx hx'
  unfold maxLen at hcm hcm'
  generalize l.length = n1 at *
  generalize m.length = n2 at *
  by_cases hbig : 1048576 < wrap64 ((n1 : Int) + (n2 : Int))
  · go_enter Tryd.func3, Tryd.ntmps3
    go_wp2_with fail
    go_ret
    exact ⟨rfl, Below.refl _ _⟩
  go_enter Tryd.func3, Tryd.ntmps3
  go_wp2_with fail
  refine (drawTimes_any _ l _ hv0).mono ?_
  rintro e w1 ⟨ua, ub, rfl, k1⟩
  go_wp2_with fail
  refine (drawPower_any _ m _ (hu0.touch k1)).mono ?_
  rintro e w2 ⟨uc, n, rfl, k2⟩
  have ha := ua.toNat_lt
  have hb := ub.toNat_lt
  have hc := uc.toNat_lt
  have hB : Below w.heap.size w w2 := k2.base k1.to_below k1.size (by omega)
  have htt : Tab w2 := ht.below hB h0
  generalize ua.toNat = a at *
  generalize ub.toNat = b at *
  generalize uc.toNat = c at *
  obtain ⟨px, pb, hpv⟩ := powV_cases c n
  have HPV := Lib.hid hpv
  clear hpv
  have q9 := bne_same px
  have q10 : (pb != pb) = false := by simp
  by_cases h00 : a = 0
  · have z1 : ((a : Int) != 0) = false := by rw [h00]; rfl
    have HLV : Hid (logV a = .tuple #[.int .i64 0, .bool false]) := if_pos h00
    clear h00
    have hab := gm_lt ha b
    have hac := gm_lt ha c
    have hbc := gm_lt hb c
    have hxbc := xor_lt hb hc
    have hba := gm_lt hb a
    have q1 := bne_same (gm a b)
    have q2 := bne_eq (gm_comm ha hb)
    have q3 := bne_eq (gm_one_right a)
    have q4 := bne_eq (gm_assoc ha hb hc)
    have q5 := bne_eq (gm_right_xor a b c)
    have x1 := u8_xor_nat b c hb hc
    have x2 := u8_xor_nat (gm a b) (gm a c) hab hac
    go_wp2_with fail
    refine (times_i (a) (b) ha hb _ htt).mono ?_
    rintro e w' ⟨rfl, rfl⟩
    go_wp2_with fail
    refine (sTimes_any a b ha hb _).mono ?_
    rintro e w' ⟨rfl, rfl⟩
    go_wp2_with fail
    refine (times_i (a) (b) ha hb _ htt).mono ?_
    rintro e w' ⟨rfl, rfl⟩
    go_wp2_with fail
    refine (times_i (b) (a) hb ha _ htt).mono ?_
    rintro e w' ⟨rfl, rfl⟩
    go_wp2_with fail
    refine (times_i (a) (1) ha (by omega) _ htt).mono ?_
    rintro e w' ⟨rfl, rfl⟩
    go_wp2_with fail
    refine (times_i (a) (b) ha hb _ htt).mono ?_
    rintro e w' ⟨rfl, rfl⟩
    go_wp2_with fail
    refine (times_i (gm a b) (c) hab hc _ htt).mono ?_
    rintro e w' ⟨rfl, rfl⟩
    go_wp2_with fail
    refine (times_i (b) (c) hb hc _ htt).mono ?_
    rintro e w' ⟨rfl, rfl⟩
    go_wp2_with fail
    refine (times_i (a) (gm b c) ha hbc _ htt).mono ?_
    rintro e w' ⟨rfl, rfl⟩
    go_wp2_with fail
    refine (times_i (a) (b ^^^ c) ha hxbc _ htt).mono ?_
    rintro e w' ⟨rfl, rfl⟩
    go_wp2_with fail
    refine (times_i (a) (b) ha hb _ htt).mono ?_
    rintro e w' ⟨rfl, rfl⟩
    go_wp2_with fail
    refine (times_i (a) (c) ha hc _ htt).mono ?_
    rintro e w' ⟨rfl, rfl⟩
    go_wp2_with fail
    refine (power_any c n hc _ htt).mono ?_
    rintro e w' ⟨rfl, rfl⟩
    rw [HPV.out]
    go_wp2_with fail
    refine (sPower_any c n hc _).mono ?_
    rintro e w' ⟨rfl, rfl⟩
    rw [HPV.out]
    go_wp2_with fail
    refine (logOf_any a ha _ htt).mono ?_
    rintro e w' ⟨rfl, rfl⟩
    rw [HLV.out]
    go_wp2_with fail
    refine (sLogOf_any a ha _).mono ?_
    rintro e w' ⟨rfl, rfl⟩
    rw [HLV.out]
    go_wp2_with fail
    go_ret
    exact ⟨rfl, hB⟩
  · have z1 : ((a : Int) != 0) = true := by simp; omega
    have HLV : Hid (logV a = .tuple #[.int .i64 (gl a : Nat), .bool true]) := if_neg h00
    have hgl := (gl_spec ha h00).1
    have HG := Lib.hid (gl_spec ha h00).2
    have hia := gp_lt ha 254
    have q6 : (((gm a (gi a) : Nat) : Int) != 1) = false := by rw [gm_gi ha h00]; rfl
    have q7 := bne_same (gi a)
    have q8 := bne_same (gl a)
    clear h00
    have hab := gm_lt ha b
    have hac := gm_lt ha c
    have hbc := gm_lt hb c
    have hxbc := xor_lt hb hc
    have hba := gm_lt hb a
    have q1 := bne_same (gm a b)
    have q2 := bne_eq (gm_comm ha hb)
    have q3 := bne_eq (gm_one_right a)
    have q4 := bne_eq (gm_assoc ha hb hc)
    have q5 := bne_eq (gm_right_xor a b c)
    have x1 := u8_xor_nat b c hb hc
    have x2 := u8_xor_nat (gm a b) (gm a c) hab hac
    go_wp2_with fail
    refine (times_i (a) (b) ha hb _ htt).mono ?_
    rintro e w' ⟨rfl, rfl⟩
    go_wp2_with fail
    refine (sTimes_any a b ha hb _).mono ?_
    rintro e w' ⟨rfl, rfl⟩
    go_wp2_with fail
    refine (times_i (a) (b) ha hb _ htt).mono ?_
    rintro e w' ⟨rfl, rfl⟩
    go_wp2_with fail
    refine (times_i (b) (a) hb ha _ htt).mono ?_
    rintro e w' ⟨rfl, rfl⟩
    go_wp2_with fail
    refine (times_i (a) (1) ha (by omega) _ htt).mono ?_
    rintro e w' ⟨rfl, rfl⟩
    go_wp2_with fail
    refine (times_i (a) (b) ha hb _ htt).mono ?_
    rintro e w' ⟨rfl, rfl⟩
    go_wp2_with fail
    refine (times_i (gm a b) (c) hab hc _ htt).mono ?_
    rintro e w' ⟨rfl, rfl⟩
    go_wp2_with fail
    refine (times_i (b) (c) hb hc _ htt).mono ?_
    rintro e w' ⟨rfl, rfl⟩
    go_wp2_with fail
    refine (times_i (a) (gm b c) ha hbc _ htt).mono ?_
    rintro e w' ⟨rfl, rfl⟩
    go_wp2_with fail
    refine (times_i (a) (b ^^^ c) ha hxbc _ htt).mono ?_
    rintro e w' ⟨rfl, rfl⟩
    go_wp2_with fail
    refine (times_i (a) (b) ha hb _ htt).mono ?_
    rintro e w' ⟨rfl, rfl⟩
    go_wp2_with fail
    refine (times_i (a) (c) ha hc _ htt).mono ?_
    rintro e w' ⟨rfl, rfl⟩
    go_wp2_with fail
    refine (inverse_any a ha _ htt).mono ?_
    rintro e w' ⟨rfl, rfl⟩
    go_wp2_with fail
    refine (times_i (a) (gi a) ha hia _ htt).mono ?_
    rintro e w' ⟨rfl, rfl⟩
    go_wp2_with fail
    refine (inverse_any a ha _ htt).mono ?_
    rintro e w' ⟨rfl, rfl⟩
    go_wp2_with fail
    refine (sInverse_any a ha _).mono ?_
    rintro e w' ⟨rfl, rfl⟩
    go_wp2_with fail
    refine (power_any c n hc _ htt).mono ?_
    rintro e w' ⟨rfl, rfl⟩
    rw [HPV.out]
    go_wp2_with fail
    refine (sPower_any c n hc _).mono ?_
    rintro e w' ⟨rfl, rfl⟩
    rw [HPV.out]
    go_wp2_with fail
    refine (logOf_any a ha _ htt).mono ?_
    rintro e w' ⟨rfl, rfl⟩
    rw [HLV.out]
    go_wp2_with fail
    refine (sLogOf_any a ha _).mono ?_
    rintro e w' ⟨rfl, rfl⟩
    rw [HLV.out]
    have HP3 : Hid (powV 3 (gl a : Nat) = .tuple #[.int .u8 (a : Nat), .bool true]) := by
      show powV 3 (gl a : Nat) = _
      unfold powV
      rw [if_pos (by omega), Int.toNat_natCast, HG.out]
    have q11 : ((a : Int) == (a : Int)) = true := by simp
    generalize gl a = g at *
    have hgi : (g : Int) < 255 := by omega
    go_wp2_with fail
    refine (power_any 3 _ (by omega) _ htt).mono ?_
    rintro e w' ⟨rfl, rfl⟩
    rw [HP3.out]
    go_wp2_with fail
    go_ret
    exact ⟨by simp [hgi], hB⟩

theorem walk_FnField : G294.LawWalk Tryd.prog 3 Tryd.f3 Rows.fnFieldSpec.vars false (fun W => laidMetH Tryd.prog Rows.fnFieldRow.laid W) := by
  intro H enc W base args ds gs before hval hW hX
  have hlt0 : ∀ p ∈ before, p.block < W.heap.size := fun p hp => hW.lt p hp
  obtain ⟨p, q, hA, hV, rfl, hfz, hnd⟩ := hW
  rw [Tryd.params3] at hA hval
  obtain ⟨u0, u1, d0, d1, p0, p1, rfl, rfl, rfl, t0, t1⟩ := trodAll_two hA
  obtain ⟨l0, sn0⟩ := seen_bytes Tryd.underlying22 Tryd.underlying5 (by kernel_rfl) (hval 0 22 u0 rfl rfl) t0 (fun x hx => hlt0 x (by simp [hx]))
  obtain ⟨l1, sn1⟩ := seen_bytes Tryd.underlying22 Tryd.underlying5 (by kernel_rfl) (hval 1 22 u1 rfl rfl) t1 (fun x hx => hlt0 x (by simp [hx]))
  obtain ⟨ht, hs⟩ := tab_of (by kernel_rfl) hX 0 rfl (by kernel_rfl)
  exact field_walk u0 u1 l0 l1 W sn0 sn1 ht hs

end Go.Proofs.YtmkihipjfcknfaaDoor
