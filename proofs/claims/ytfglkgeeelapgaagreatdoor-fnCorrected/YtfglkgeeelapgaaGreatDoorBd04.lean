/- Joined texts: Turned, Good, MatI, Arr1, Arr2, ErrW1, ErrW2. -/
import Derived.Test.YtfglkgeeelapgaaGreatDoorBd03
import Derived.Test.YtfglkgeeelapgaaGreatDoorBd01
import Derived.Deep.QuietTactic
import Derived.BigQuiet
import Derived.Deep.RegionHeld3
import Derived.StillTailTactics
import Derived.Lib.AppendZeros
import Derived.Deep.AppendSrc
import Derived.WalkSpells
import Derived.BigRegion
set_option linter.unusedSimpArgs false
set_option linter.unusedVariables false
/- turned and identityGrid, on bytes and on field bytes. -/
namespace Go.Proofs.YtfglkgeeelapgaaGreatDoor
open Go.RowKit G294

set_option maxHeartbeats 1000000 in
theorem turnedAtF (r c B : Nat) (F : Ents) (v : Value) (w : World) (hB : B < w.heap.size) (hv : w.cell? ⟨B, 0, none⟩ = some v) (hs : SeenM w v (mkM r c F)) :
    GivesAt Tryz.prog 111 #[.pointer (some ⟨B, 0, none⟩)] c r (fun i j => F j i) w := by
  intro W i j hb hi hj
  have hv' := (hb.cell (p := ⟨B, 0, none⟩) hB).trans hv
  obtain ⟨bb, off, cp, b', off', c', rfl, hl1, h1, h2, h3, hl2, h4⟩ := (hs.below hb).cellF j i hj hi
  unfold maxLen at hl1 hl2
  have hi' : (i : Int) < (c : Int) := by omega
  have hj' : (j : Int) < (r : Int) := by omega
  clear hv hs
  go_enter Tryz.func111, Tryz.ntmps111
  go_wp2_with fail
  go_ret
  exact ⟨rfl, 0, rfl⟩

set_option maxHeartbeats 1000000 in
theorem turnedF (r c : Nat) (F : Ents) (v : Value) (w : World) (hs : SeenM w v (mkM r c F)) (hr : 1 ≤ r) (hr2 : r ≤ 1000) (hc : c ≤ 1000) :
    Calls Tryz.prog 91 #[v] w (RetM 115 147 w (mkM c r fun i j => F j i)) := by
  have hb1 : Below w.heap.size w (w.alloc (.cells #[v] 113)) := (Below.refl _ _).alloc (Nat.le_refl _) _
  have hG := turnedAtF r c w.heap.size F v (w.alloc (.cells #[v] 113)) (by simp) (by simp) (hs.below hb1)
  have HG := Lib.hid hG
  obtain ⟨bb, off, cp, A, c', rfl, hl1, h1, h2, hl2, h3⟩ := hs.rowF 0 (by omega)
  have eg := enters_of Tryz.func111 (by kernel_rfl) rfl
  have HB1 := Lib.hid hb1
  unfold maxLen at hl1 hl2
  rw [Nat.add_zero] at h2
  have h0 : 0 < r := hr
  have hne : bb ≠ w.heap.size := by omega
  have hne' : w.heap.size ≠ bb := by omega
  have hq1 : (w.alloc (.cells #[.slice (some ⟨bb, off, none⟩) r cp] 113)).cell? ⟨w.heap.size, 0, none⟩ = some (.slice (some ⟨bb, off, none⟩) r cp) := by simp
  have hq2 : (w.alloc (.cells #[.slice (some ⟨bb, off, none⟩) r cp] 113)).cell? ⟨bb, off, none⟩ = some (.slice A c c') := (HB1.out.cell (p := ⟨bb, off, none⟩) h1).trans h2
  have hsz : w.heap.size < (w.alloc (.cells #[.slice (some ⟨bb, off, none⟩) r cp] 113)).heap.size := by simp
  clear hG hb1
  go_enter Tryz.func91, Tryz.ntmps91
  go_wp2_with fail
  generalize w.alloc (.cells #[.slice (some ⟨bb, off, none⟩) r cp] 113) = w1 at *
  go_region_held3 (fun w' => w'.cell? ⟨w.heap.size, 0, none⟩ = some (.slice (some ⟨bb, off, none⟩) r cp) ∧ w'.cell? ⟨bb, off, none⟩ = some (.slice A c c'))
    (first | exact ⟨hq1, hq2⟩ | exact ⟨q1, q2⟩)
    ((go_at_call 86; refine (newGridF c r _ _ _ w1.drew eg (HG.out.later (Below.refl _ _).drew) (by omega) (by omega)).mono ?_; rintro e w' ⟨v', vs', rfl, hM, ht⟩; have q1 := (ht.to_below.cell (p := ⟨w.heap.size, 0, none⟩) hsz).trans hq1; have q2 := (ht.to_below.cell (p := ⟨bb, off, none⟩) (Nat.lt_trans h1 hsz)).trans hq2))
  go_wp2_with fail
  go_ret
  exact RetM.base ⟨_, _, rfl, hM, ht⟩ HB1.out.drew

end Go.Proofs.YtfglkgeeelapgaaGreatDoor

/- GoodMatrix, the program's and the model's. -/
namespace G294
theorem goodI_nat (n : Nat) : goodI (n : Int) = decide (1 ≤ n ∧ n ≤ 16) := by
  unfold goodI; rw [decide_eq_decide]; omega
theorem goodM_no1 {L : Mat} (h : goodI L.length = false) : goodM L = false := by
  rw [goodI_nat] at h; simp at h
  rw [Bool.eq_false_iff]; intro e
  have := (goodM_iff L).1 e
  omega
theorem goodM_no2 {L : Mat} (h : goodI (wid L) = false) : goodM L = false := by
  rw [goodI_nat] at h; simp at h
  rw [Bool.eq_false_iff]; intro e
  have := (goodM_iff L).1 e
  omega
theorem goodM_no3 {L : Mat} {k : Nat} (hk : k < L.length) (h : (L.getD k []).length ≠ wid L) : goodM L = false := by
  rw [Bool.eq_false_iff]; intro e
  exact h (((goodM_iff L).1 e).2.2.2.2 k hk)
theorem goodM_yes {L : Mat} (h1 : goodI L.length = true) (h2 : goodI (wid L) = true) (h : ∀ i, i < L.length → (L.getD i []).length = wid L) : goodM L = true := by
  rw [goodI_nat] at h1 h2; simp at h1 h2
  exact (goodM_iff L).2 ⟨h1.1, h1.2, h2.1, h2.2, h⟩
end G294
namespace Go.Proofs.YtfglkgeeelapgaaGreatDoor
open Go.RowKit G294

set_option maxHeartbeats 400000 in
theorem goodSide_any (n : Int) (w : World) : Calls Tryz.prog 112 #[.int .i64 n] w fun e w' => e = .returned (.bool (goodI n)) ∧ w = w' := by
  by_cases h1 : 1 ≤ n
  · have hd : decide (1 ≤ n) = true := by simpa using h1
    by_cases h2 : n ≤ 16
    · have HV : Hid (goodI n = true) := by show goodI n = true; simp [goodI, h1, h2]
      go_enter Tryz.func112, Tryz.ntmps112
      go_wp2_with fail
      go_ret
      exact ⟨by rw [HV.out]; simp [h2], rfl⟩
    · have HV : Hid (goodI n = false) := by show goodI n = false; simp [goodI, h2]
      go_enter Tryz.func112, Tryz.ntmps112
      go_wp2_with fail
      go_ret
      exact ⟨by rw [HV.out]; simp [h2], rfl⟩
  · have hd : decide (1 ≤ n) = false := by simpa using h1
    have HV : Hid (goodI n = false) := by show goodI n = false; simp [goodI, h1]
    go_enter Tryz.func112, Tryz.ntmps112
    go_wp2_with fail
    go_ret
    exact ⟨by rw [HV.out]; rfl, rfl⟩

theorem l1In_side (n : Int) (w : World) : Calls Tryz.prog 65 #[.int .i64 n, .int .i64 1, .int .i64 16] w fun e w' => e = .returned (.bool (goodI n)) ∧ w = w' := l1In_any n 1 16 w

set_option maxRecDepth 100000 in
set_option maxHeartbeats 1000000 in
theorem igood_any (v : Value) (L : Mat) (w : World) (hs : SeenM w v L) :
    Calls Tryz.prog 103 #[.agg #[v]] w (RetBool w (goodM L)) := by
  have hb1 : Below w.heap.size w (w.alloc (.cells #[v] 70)) := (Below.refl _ _).alloc (Nat.le_refl _) _
  have HB1 := Lib.hid (TurnIn.of_below hb1)
  obtain ⟨A, c, rfl, hlc, hcm⟩ := hs.len
  unfold maxLen at hcm
  by_cases h1 : goodI L.length = true
  · have H1 := Lib.hid h1
    have hn : 1 ≤ L.length ∧ L.length ≤ 16 := by rw [goodI_nat] at h1; simpa using h1
    have HSM := Lib.hid hs
    obtain ⟨bb, off, c', u0, hv, _, _, hbl, hc0, hs0⟩ := hs.row 0 (by omega)
    obtain ⟨rfl, rfl⟩ : A = some ⟨bb, off, none⟩ ∧ c = c' := by simpa using hv
    obtain ⟨A0, c0, rfl, hl0, hm0, _⟩ := hs0
    rw [bys_length] at hc0 hl0
    rw [Nat.add_zero] at hc0
    unfold maxLen at hm0
    have hw1 : (w.alloc (.cells #[.slice (some ⟨bb, off, none⟩) L.length c] 70)).cell? ⟨bb, off, none⟩ = some (.slice A0 (L.getD 0 []).length c0) := (hb1.cell (p := ⟨bb, off, none⟩) hbl).trans hc0
    have hbx : (w.alloc (.cells #[.slice (some ⟨bb, off, none⟩) L.length c] 70)).cell? ⟨w.heap.size, 0, none⟩ = some (.slice (some ⟨bb, off, none⟩) L.length c) := by simp
    have HBW := Lib.hid hb1
    have hpos : 0 < L.length := by omega
    have hne : bb ≠ w.heap.size := by omega
    have HW : Hid (wid L = (L.getD 0 []).length) := rfl
    clear hv h1 hb1 hs
    generalize hll : L.length = n at *
    generalize hww : (L.getD 0 []).length = n0 at *
    have HLL := Lib.hid hll
    have HWW := Lib.hid hww
    clear hll hww
    by_cases h2 : goodI n0 = true
    · have H2 := Lib.hid h2
      clear h2
      go_enter Tryz.func103, Tryz.ntmps103
      go_wp2_with fail
      refine (goodSide_any _ _).mono ?_
      rintro e w' ⟨rfl, rfl⟩
      rw [H1.out]
      go_wp2_with fail
      refine (goodSide_any _ _).mono ?_
      rintro e w' ⟨rfl, rfl⟩
      rw [H2.out]
      go_wp2_with fail
      generalize w.alloc (.cells #[.slice (some ⟨bb, off, none⟩) n c] 70) = w1 at *
      go_loop [22] (fun i => ∃ k : Nat, k ≤ n ∧ i = .int .i64 k ∧ Hid (∀ i, i < k → (L.getD i []).length = n0)) (fun i => n - (intOf i).toNat)
      case atStart => exact ⟨0, Nat.zero_le _, rfl, fun i h => by omega⟩
      case round =>
        obtain ⟨k, hk, rfl, HK⟩ := hrel
        by_cases hlt : k < n
        · have hki : (k : Int) < (n : Int) := by omega
          obtain ⟨bb2, off2, c2, uk, hv, _, _, hbl2, hck, ⟨Ak, ck, rfl, hlk, hmk, _⟩⟩ := HSM.out.row k (by rw [HLL.out]; exact hlt)
          simp only [Value.slice.injEq, Option.some.injEq, Addr.mk.injEq, and_true] at hv
          obtain ⟨⟨rfl, rfl⟩, _, rfl⟩ := hv
          rw [bys_length] at hck hlk
          have hck' := (HBW.out.cell (p := ⟨bb, off + k, none⟩) hbl2).trans hck
          clear hck
          unfold maxLen at hmk
          by_cases he : (L.getD k []).length = n0
          · have hbb : (((L.getD k []).length : Int) != (n0 : Int)) = false := by rw [he]; simp
            have HK2 : Hid (∀ i, i < k + 1 → (L.getD i []).length = n0) := fun i hi => by
              by_cases e : i = k
              · rw [e]; exact he
              · exact HK.out i (by omega)
            clear he
            generalize (L.getD k []).length = nk at *
            go_wp2_with fail
            go_round
            case rel => exact ⟨k + 1, by omega, by go_num, HK2⟩
            case measure => simp [intOf]; omega
          · have hbb : (((L.getD k []).length : Int) != (n0 : Int)) = true := bne_iff_ne.2 (fun e => he (Int.natCast_inj.1 e))
            have HF := Lib.hid (goodM_no3 (L := L) (k := k) (by rw [HLL.out]; exact hlt) (by rw [HW.out]; exact he))
            clear he
            generalize (L.getD k []).length = nk at *
            go_wp2_with fail
            go_ret
            exact ⟨by rw [HF.out]; rfl, HB1.out⟩
        · obtain rfl : k = n := by omega
          have hki : ¬ (k : Int) < (k : Int) := by omega
          have HF := Lib.hid (goodM_yes (L := L) (by rw [HLL.out]; exact H1.out) (by rw [HW.out]; exact H2.out) (fun i hi => by rw [HW.out]; exact HK.out i (by rw [← HLL.out]; exact hi)))
          go_wp2_with fail
          go_ret
          exact ⟨by rw [HF.out]; rfl, HB1.out⟩
    · have H2 : Hid (goodI n0 = false) := by show goodI n0 = false; simpa using h2
      have HF := Lib.hid (goodM_no2 (L := L) (by rw [HW.out]; exact H2.out))
      clear h2
      go_enter Tryz.func103, Tryz.ntmps103
      go_wp2_with fail
      refine (goodSide_any _ _).mono ?_
      rintro e w' ⟨rfl, rfl⟩
      rw [H1.out]
      go_wp2_with fail
      refine (goodSide_any _ _).mono ?_
      rintro e w' ⟨rfl, rfl⟩
      rw [H2.out]
      go_wp2_with fail
      go_ret
      exact ⟨by rw [HF.out]; rfl, HB1.out⟩
  · have H1 : Hid (goodI L.length = false) := by show goodI L.length = false; simpa using h1
    have HF := Lib.hid (goodM_no1 H1.out)
    clear h1 hs hb1
    generalize L.length = n at *
    go_enter Tryz.func103, Tryz.ntmps103
    go_wp2_with fail
    refine (goodSide_any _ _).mono ?_
    rintro e w' ⟨rfl, rfl⟩
    rw [H1.out]
    go_wp2_with fail
    go_ret
    exact ⟨by rw [HF.out]; rfl, HB1.out⟩

end Go.Proofs.YtfglkgeeelapgaaGreatDoor

/- The program's Identity, Transposed, Vandermonde and Cauchy. -/
namespace G294
open Go Go.RowKit
theorem turn_setCell (w : World) (B o : Nat) (x : Value) : TurnIn B (B + 1) w (w.setCell ⟨B, o, none⟩ x) :=
  ⟨rfl, rfl, rfl, by simp, fun k hk hd => heap_setCell_other w ⟨B, o, none⟩ k x (by intro e; simp at e; omega)⟩
theorem cell_set_other (w : World) {B B' : Nat} (o o' : Nat) (x : Value) (h : B ≠ B') : (w.setCell ⟨B, o, none⟩ x).cell? ⟨B', o', none⟩ = w.cell? ⟨B', o', none⟩ :=
  World.cell?_of_block (heap_setCell_other w ⟨B, o, none⟩ B' x (by intro e; simp at e; omega))
theorem frozen_set_other (w : World) {B B' : Nat} (o o' : Nat) (x : Value) (h : B ≠ B') : (w.setCell ⟨B, o, none⟩ x).frozen? ⟨B', o', none⟩ = w.frozen? ⟨B', o', none⟩ :=
  World.frozen?_of_block (heap_setCell_other w ⟨B, o, none⟩ B' x (by intro e; simp at e; omega))
/-- a result is stored into a variable that the call made ahead of it -/
theorem ret_store {E EE : TypeId} {w w1 w' : World} {v : Value} {L : Mat} {vs : List Value} (hb : Below w.heap.size w w1) (hM : OwnM E EE w' w1.heap.size w'.heap.size v L vs) (ht : TurnIn 0 0 w1 w') (B o : Nat) (h1 : w.heap.size ≤ B) (h2 : B < w1.heap.size) (x : Value) :
    OwnM E EE (w'.setCell ⟨B, o, none⟩ x) w.heap.size (w'.setCell ⟨B, o, none⟩ x).heap.size v L vs ∧ TurnIn 0 0 w (w'.setCell ⟨B, o, none⟩ x) := by
  have k := turn_setCell w' B o x
  have hs := k.size
  refine ⟨(hM.keep k (by omega)).wider (by have := hb.size; omega) hs (Nat.le_refl _), TurnIn.of_below ?_⟩
  have h3 : Below w.heap.size w w' := ht.base hb hb.size (by omega)
  exact h3.setCell h1 _
theorem cell_turn {w w' : World} (t : TurnIn 0 0 w w') {B o : Nat} {x : Value} (h : w.cell? ⟨B, o, none⟩ = some x) (hB : B < w.heap.size) : w'.cell? ⟨B, o, none⟩ = some x := (t.to_below.cell (p := ⟨B, o, none⟩) hB).trans h
theorem frozen_turn {w w' : World} (t : TurnIn 0 0 w w') {B o : Nat} {x : Bool} (h : w.frozen? ⟨B, o, none⟩ = x) (hB : B < w.heap.size) : w'.frozen? ⟨B, o, none⟩ = x := (t.to_below.frozen (p := ⟨B, o, none⟩) hB).trans h
end G294
namespace Go.Proofs.YtfglkgeeelapgaaGreatDoor
open Go.RowKit G294

theorem vand_u8 (i j : Nat) (hi : i < 256) : ((vandF i j).toNat : Int) = (gp i j : Nat) := by
  unfold vandF; rw [UInt8.toNat_ofNat', Nat.mod_eq_of_lt (gp_lt hi j)]

theorem cau_u8 (c i j : Nat) (h1 : c + i < 256) (h2 : j < 256) : ((cauF c i j).toNat : Int) = (gi ((c + i) ^^^ j) : Nat) := by
  unfold cauF; rw [UInt8.toNat_ofNat', Nat.mod_eq_of_lt (gi_lt (xor_lt h1 h2))]
end Go.Proofs.YtfglkgeeelapgaaGreatDoor

/- Arrays of 20 bytes: the program's hidden. -/
namespace G294
open Go
theorem hid_splice (s : UInt8) (l : List UInt8) (h : l.length ≤ 19) : splice (bys (pad20 [s])) 1 (bys l) = bys (pad20 (s :: l)) := by
  have e1 : bys (pad20 [s]) = .int .u8 (s.toNat : Int) :: List.replicate 19 (.int .u8 0) := rfl
  have e2 : bys (pad20 (s :: l)) = .int .u8 (s.toNat : Int) :: (bys l ++ List.replicate (19 - l.length) (.int .u8 0)) := by
    simp [pad20, bys, show 20 - (l.length + 1) = 19 - l.length by omega]
  rw [e1, e2]
  unfold splice
  rw [bys_length, Nat.add_comm 1, List.drop_succ_cons, List.drop_replicate]
  rfl
end G294
namespace Go.Proofs.YtfglkgeeelapgaaGreatDoor
open Go.RowKit G294

theorem infoCoef : (Tryz.prog.info? 56).map (fun i => (i.zero, i.size)) = some (some (aggL (List.replicate 20 0)), 20) := by kernel_rfl

theorem zeroCoef : (Tryz.prog.info? 56).map (·.zero) = some (some (aggL (List.replicate 20 0))) := by
  have := infoCoef
  cases h : Tryz.prog.info? 56 <;> simp_all

theorem sizeCoef : (Tryz.prog.info? 56).map (·.size) = some 20 := by
  have := infoCoef
  cases h : Tryz.prog.info? 56 <;> simp_all

theorem sizeByteA : (Tryz.prog.info? 5).map (·.size) = some 1 := by
  have := infoByte
  cases h : Tryz.prog.info? 5 <;> simp_all

end Go.Proofs.YtfglkgeeelapgaaGreatDoor

/- Arrays of 20 bytes: the program's withRoot. -/
namespace G294
open Go
theorem root_splice (V : List UInt8) (h : V.length = 20) : splice (bys (List.replicate 20 0)) 1 (bys (V.take 19)) = bys (0 :: V.take 19) := by
  have e1 : bys (List.replicate 20 0) = .int .u8 0 :: List.replicate 19 (.int .u8 0) := rfl
  have e2 : (V.take 19).length = 19 := by simp [h]
  rw [e1]
  unfold splice
  rw [bys_length, e2]
  simp [bys]
end G294
namespace Go.Proofs.YtfglkgeeelapgaaGreatDoor
open Go.RowKit G294

set_option maxRecDepth 100000 in
set_option maxHeartbeats 2000000 in
theorem withRoot_own (V : List UInt8) (r : UInt8) (w : World) (hV : V.length = 20) (ht : Tab w) (h0 : 3 < w.heap.size) :
    Calls Tryz.prog 42 #[aggL V, .int .u8 (r.toNat : Int)] w fun e w' => e = .returned (aggL (wrC r V)) ∧ TurnIn 0 0 w w' := by
  have HSP := Lib.hid (root_splice V hV)
  have HL19 : Hid ((0 :: V.take 19).length = V.length) := by show _ = _; simp [hV]
  have HLW : Hid ((wrC r V).length = 20) := by
    show _ = _
    unfold wrC
    rw [addL_lenS _ _ (by rw [scaleL_lenS]; exact HL19.out), HL19.out, hV]
  have HT := Lib.hid ht
  clear ht
  go_enter Tryz.func42, Tryz.ntmps42
  go_wp2_with (refine wpList_box_arr rfl 56 _ rfl V rfl ?_)
  intro W1 hW1
  replace hW1 := hW1.out
  have t1 := hW1 ▸ turn_alloc w (.cells (bys V).toArray 56)
  have r1 := hW1 ▸ ArrAt.new w 56 V
  have z1 := hW1 ▸ World.size_alloc w (.cells (bys V).toArray 56)
  clear hW1
  generalize hB : w.heap.size = B at *
  have HBE := Lib.hid hB
  clear hB
  go_wp2_with (refine wpList_alloc_arr rfl 56 rfl _ zeroCoef ?_)
  intro W2 hW2
  replace hW2 := hW2.out
  have t2 := hW2 ▸ turn_alloc W1 (.cells (bys (List.replicate 20 0)).toArray 56)
  have r2 := hW2 ▸ ArrAt.new W1 56 (List.replicate 20 0)
  have z2 := hW2 ▸ World.size_alloc W1 (.cells (bys (List.replicate 20 0)).toArray 56)
  rw [z1] at r2 z2
  replace r1 := r1.keep t2 (by omega)
  replace t1 := turn_trans t1 t2 (by omega)
  clear hW2 t2 z1
  go_wp2_with (refine wpList_alloc_arr rfl 56 rfl _ zeroCoef ?_)
  intro W3 hW3
  replace hW3 := hW3.out
  have t3 := hW3 ▸ turn_alloc W2 (.cells (bys (List.replicate 20 0)).toArray 56)
  have r3 := hW3 ▸ ArrAt.new W2 56 (List.replicate 20 0)
  have z3 := hW3 ▸ World.size_alloc W2 (.cells (bys (List.replicate 20 0)).toArray 56)
  rw [z2] at r3 z3
  replace r1 := r1.keep t3 (by omega)
  replace r2 := r2.keep t3 (by omega)
  replace t1 := turn_trans t1 t3 (by omega)
  clear hW3 t3 z2
  have HC4 : Hid (∀ v ∈ bys (V.take 19), v.oneCell' = true) := fun u hu => bys_one u _ hu
  have HC1 : Hid ((bys (V.take 19)).length = 19) := by show _ = _; simp [hV]
  have HC2 : Hid (∀ j v, (bys (V.take 19))[j]? = some v → W3.drew.cell? ((⟨B, 0, none⟩ : Addr).add j) = some v) := fun j v hv => by
    have hj : j < 19 := by have := (List.getElem?_eq_some_iff.1 hv).1; rw [HC1.out] at this; exact this
    rw [Addr.add_lit, Nat.zero_add]
    rw [bys_get _ j (by simp [hV]; omega)] at hv
    rw [show W3.drew.cell? ⟨B, j, none⟩ = W3.cell? ⟨B, j, none⟩ from rfl, r1.cell j (by omega), ← hv]
    simp
  go_wp2_with fail
  go_region_law (refine step_copy_splice rfl _ _ _ _ rfl 5 Tryz.underlying22 sizeByteA (some ⟨B + 1 + 1, 1, none⟩) (some ⟨B, 0, none⟩) 19 19 20 20 rfl rfl (B + 1 + 1) 1 (bys (List.replicate 20 0)) 56 r3 (bys (V.take 19)) (by rw [HC1.out]; rfl) (fun _ => ⟨rfl, _, rfl, HC2.out⟩) (by rw [HC1.out]; simp) HC4.out (B + 1 + 1) W3 (Below.refl _ _).drew (Nat.le_refl _) ?_; intro W4 hg4 hb4)
  all_goals
    rw [HSP.out] at hg4
    have r4 : ArrAt W4 (B + 1 + 1) 56 (mixK r (0 :: V.take 19) V 0) := by rw [mixK_zero]; exact hg4.out
    have t4 := turn_from hb4
    rw [z3] at t4
    have z4 : B + 1 + 1 + 1 ≤ W4.heap.size := by have := hb4.size; omega
    replace r1 := r1.keep t4 (by omega)
    replace r2 := r2.keep t4 (by omega)
    replace t1 := turn_trans t1 t4 (by have := HBE.out; omega)
    clear hg4 hb4 t4 r3 HC1 HC2 HC4
    go_wp2_with (refine wpList_load_arr rfl 56 _ rfl B 20 20 5 _ _ rfl r1 sizeCoef Tryz.underlying56 hV ?_)
    intro u hu
    replace hu := hu.out
    subst hu
    go_wp2_with fail
    go_loopw [12] (fun i wr => ∃ k : Nat, k ≤ 20 ∧ i = .int .i64 k ∧ ArrAt wr (B + 1 + 1) 56 (mixK r (0 :: V.take 19) V k) ∧ ArrAt wr (B + 1) 56 (List.replicate 20 0) ∧ TurnIn 0 0 w wr ∧ B + 1 + 1 + 1 ≤ wr.heap.size)
      (fun i _ => 20 - (intOf i).toNat)
    case atStart => exact ⟨0, by omega, rfl, r4, r2, t1, z4⟩
    case round =>
      obtain ⟨k, hk, rfl, q4, q2, q1, z5⟩ := hrel
      clear r4 r2 t1 z4 r1 z3
      by_cases hlt : k < 20
      · have hki : (k : Int) < 20 := by omega
        have hkV : k < V.length := by omega
        have hkM : k < (0 :: V.take 19).length := by rw [HL19.out]; exact hkV
        have hcx := q4.cellAt (mixK_get r (0 :: V.take 19) V HL19.out k hkM)
        have hfr := q4.frozen k
        have htab : Tab wr := HT.out.below q1.to_below (by rw [HBE.out]; exact h0)
        obtain ⟨c, hc⟩ : ∃ c, c = V[k] := ⟨_, rfl⟩
        obtain ⟨m, hm⟩ : ∃ m, m = (0 :: V.take 19)[k] := ⟨_, rfl⟩
        rw [← hm] at hcx
        have HC := Lib.hid (stillA (times_u8 r c wr.drew (show Tab wr.drew from htab)))
        have hxor := xor_u8 m (gmul r c)
        have hst := q4.set k (m ^^^ gmul r c)
        rw [hm, hc, mixK_set r (0 :: V.take 19) V HL19.out k hkM hkV] at hst
        rw [← hm, ← hc] at hst
        have tst := turn_set wr (B + 1 + 1) k (.int .u8 ((m ^^^ gmul r c).toNat : Int))
        have q2' := q2.keep tst (by omega)
        have q1' : TurnIn 0 0 w _ := turn_trans q1 tst (by have := HBE.out; omega)
        have HST := Lib.hid hst
        have HQ2 := Lib.hid q2'
        have HQ1 := Lib.hid q1'
        have HCC : Hid (c = V[k]) := hc
        clear hst q2' q1' tst hm hc htab
        go_wp2_with (refine wpList_index_arr rfl 56 _ _ rfl V k 20 5 rfl rfl Tryz.underlying56 Tryz.underlying5 sizeByteA hV hkV ?_)
        intro u hu
        replace hu := hu.out
        rw [← HCC.out] at hu
        subst hu
        go_wp2_with fail
        refine wp_region_still_tail 8 (by kernel_rfl) (by kernel_rfl) ?_
        simp only [List.take_succ_cons, List.take_zero, List.drop_succ_cons, List.drop_zero]
        repeat (first | still_step | still_call (HC.out))
        refine wpStill_nil ?_
        go_wp2_with fail
        go_roundw
        case rel => exact ⟨k + 1, by omega, by go_num, HST.out, HQ2.out, turn_drewA HQ1.out, by simp; omega⟩
        case measure => simp [intOf]; omega
      · obtain rfl : k = 20 := by omega
        have hki : ¬ ((20 : Nat) : Int) < 20 := by omega
        have hend : mixK r (0 :: V.take 19) V 20 = wrC r V := mixK_end r _ V HL19.out 20 (by rw [HL19.out, hV]; exact Nat.le_refl _)
        rw [hend] at q4
        clear hend
        go_wp2_with (refine wpList_load_arr rfl 56 _ rfl (B + 1 + 1) 20 20 5 _ _ rfl q4 sizeCoef Tryz.underlying56 HLW.out ?_)
        intro u hu
        replace hu := hu.out
        subst hu
        go_wp2_with (refine wpList_store_arr rfl 56 _ _ rfl (B + 1) 20 _ _ (wrC r V) rfl rfl q2 sizeCoef (by simp) HLW.out ?_)
        intro W5 hW5
        replace hW5 := hW5.out
        have r5 := hW5 ▸ q2.row (wrC r V)
        have t5 := hW5 ▸ turn_row wr (B + 1) (bys (wrC r V)).toArray
        have hb6 : TurnIn 0 0 w W5 := turn_trans q1 t5 (by have := HBE.out; omega)
        clear hW5
        go_wp2_with fail
        exact bodyPost_ret (ret_arr rfl _ (B + 1) 20 20 _ 5 _ rfl r5 Tryz.underlying56 sizeCoef HLW.out) rfl ⟨rfl, hb6⟩

end Go.Proofs.YtfglkgeeelapgaaGreatDoor

/- Chapter 8: sizes, roots, slices.Clone of bytes, the generator: the program's. -/
namespace G294
open Go Go.RowKit
theorem errT_b {t : Int} (h : errT t = true) : ∃ m : Nat, t = m ∧ 1 ≤ m ∧ m ≤ 4 := by
  simp only [errT, decide_eq_true_eq] at h
  exact ⟨t.toNat, by omega, by omega, by omega⟩
def sizB (m n : Nat) : Bool := decide (2 * m < n ∧ n ≤ 24)
/-- append([]T{}, x...) of a row that is not empty: a new row -/
theorem run_appLit {P : Program} (w : World) (t ty e : TypeId) (z : Value) (bytes : Nat) (ht : P.underlying t = some (.slice e)) (hinfo : (P.info? e).map (fun i => (i.zero, i.size, i.bytes)) = some (some z, 1, bytes)) (hzs : z.cells.size = 1)
    (base : Addr) (A : Addr) (m c : Nat) (ys : List Value) (h1m : 1 ≤ m) (hl : ys.length = m) (hc : ∀ j y, ys[j]? = some y → w.cell? (A.add j) = some y) (h1 : ∀ y, y ∈ ys → y.oneCell' = true) (hn : m ≤ 2000000) (hby : bytes ≤ 1000) :
    ∃ cp w', (Builtin.append_ #[t, t] ty #[.slice (some base) 0 0, .slice (some A) m c]).run P w = .ok (.slice (some ⟨w.heap.size, 0, none⟩) m cp) w' ∧ w'.ownsRow w.heap.size e 1 (.slice (some ⟨w.heap.size, 0, none⟩) m cp) m ys ∧ TurnIn 0 0 w w' := by
  obtain ⟨i, hi, hz, hsz, hbs⟩ := info_parts hinfo
  have hge := grownCap_ge w m 0 e
  have hcm : grownCap w m 0 e ≤ maxLen := grownCap_le_maxLen w m 0 e (by unfold maxLen; omega)
  have hb : m * bytes ≤ 2000000 * 1000 := Nat.mul_le_mul hn hby
  have h := run_append_grow_src (P := P) w t t ty e i z ht hi hz (some base) 0 0 [] (by simp [Builtin.firstCells, loadCells, loadCellsFrom]) (.slice (some A) m c) m ys (by rw [hsz]; exact Src.ofSlice w ht A m c ys (by omega) hc h1) (by omega) (by omega) (by rw [Nat.zero_add, nextslicecap_zero (by omega), hbs]; omega)
  rw [Nat.zero_add] at h
  refine ⟨_, _, h, ⟨by omega, .inr ⟨w.heap.size, _, _, rfl, Nat.le_refl _, heap_alloc_new w.drew _, hge, hcm, ?_, ?_⟩⟩, TurnIn.of_below ((Below.refl _ _).drew.alloc (Nat.le_refl _) _)⟩
  · simp only [List.nil_append, Array.size_append, List.size_toArray, size_zeroCells, hzs, hl]; omega
  · simp only [List.nil_append, Array.toList_append, Nat.mul_one]
    rw [← hl]; exact List.take_left
theorem seen_cellsB {w : World} {v : Value} {l : List UInt8} (h : Seen w v (bys l)) (h1 : 1 ≤ l.length) : ∃ b off c, v = .slice (some ⟨b, off, none⟩) l.length c ∧ b < w.heap.size ∧ l.length ≤ 9223372036854775807 ∧ ∀ W, Below w.heap.size w W → ∀ j y, (bys l)[j]? = some y → W.cell? ((⟨b, off, none⟩ : Addr).add j) = some y := by
  obtain ⟨A, c, rfl, hlc, hcm, hx⟩ := h
  rw [bys_length] at hlc hx
  obtain ⟨b, off, rfl, hbl, hcell⟩ := hx (by omega)
  unfold maxLen at hcm
  refine ⟨b, off, c, by rw [bys_length], hbl, by omega, fun W hb j y hj => ?_⟩
  rw [Addr.add_lit]
  exact (hb.cell (p := ⟨b, off + j, none⟩) hbl).trans (hcell j y hj)
theorem own_lowerB {w : World} {e : TypeId} {v : Value} {lo lo' n : Nat} {l : List UInt8} (h : w.ownsRow lo e 1 v n (bys l)) (hl : lo' ≤ lo) (hn : n = l.length) : w.ownsRow lo' e 1 v l.length (bys l) := by
  subst hn
  refine ⟨h.1, ?_⟩
  rcases h.2 with hh | ⟨g, cap, cur, rfl, hbg, rest⟩
  · exact .inl hh
  · exact .inr ⟨g, cap, cur, rfl, Nat.le_trans hl hbg, rest⟩
end G294
namespace Go.Proofs.YtfglkgeeelapgaaGreatDoor
open Go.RowKit G294

set_option maxHeartbeats 400000 in
theorem goodWrong_any (t : Int) (w : World) : Calls Tryz.prog 40 #[.int .i64 t] w fun e w' => e = .returned (.bool (errT t)) ∧ w = w' := by
  by_cases h1 : 1 ≤ t
  · have hd : decide (1 ≤ t) = true := by simpa using h1
    by_cases h2 : t ≤ 4
    · have HV : Hid (errT t = true) := by show errT t = true; simp [errT, h1, h2]
      go_enter Tryz.func40, Tryz.ntmps40
      go_wp2_with fail
      go_ret
      exact ⟨by rw [HV.out]; simp [h2], rfl⟩
    · have HV : Hid (errT t = false) := by show errT t = false; simp [errT, h2]
      go_enter Tryz.func40, Tryz.ntmps40
      go_wp2_with fail
      go_ret
      exact ⟨by rw [HV.out]; simp [h2], rfl⟩
  · have hd : decide (1 ≤ t) = false := by simpa using h1
    have HV : Hid (errT t = false) := by show errT t = false; simp [errT, h1]
    go_enter Tryz.func40, Tryz.ntmps40
    go_wp2_with fail
    go_ret
    exact ⟨by rw [HV.out]; rfl, rfl⟩

set_option maxHeartbeats 400000 in
theorem checkCount_any (m : Nat) (w : World) (hm : m ≤ 100) : Calls Tryz.prog 31 #[.int .i64 (m : Int)] w fun e w' => e = .returned (.int .i64 ((2 * m : Nat) : Int)) ∧ w = w' := by
  obtain ⟨z, hz⟩ : ∃ z : Int, z = 2 * (m : Int) := ⟨_, rfl⟩
  have hzz : 2 * (m : Int) = z := hz.symm
  have hb1 : 0 ≤ z := by omega
  have hb2 : z ≤ 200 := by omega
  have HZ : Hid (z = ((2 * m : Nat) : Int)) := by show _ = _; omega
  clear hz
  go_enter Tryz.func31, Tryz.ntmps31
  go_wp2_with fail
  go_ret
  exact ⟨by rw [HZ.out]; rfl, rfl⟩

set_option maxHeartbeats 400000 in
theorem goodWordSize_any (n m : Nat) (w : World) (hn : n ≤ 9223372036854775807) (hm : m ≤ 100) : Calls Tryz.prog 30 #[.int .i64 (n : Int), .int .i64 (m : Int)] w fun e w' => e = .returned (.bool (sizB m n)) ∧ w = w' := by
  by_cases h1 : 2 * m < n
  · have hd : decide (((2 * m : Nat) : Int) < (n : Int)) = true := by simp; omega
    have hdi : ((2 * m : Nat) : Int) < (n : Int) := by omega
    by_cases h2 : n ≤ 24
    · have HV : Hid (sizB m n = true) := by show _ = _; simp [sizB, h1, h2]
      have h2i : (n : Int) ≤ 24 := by omega
      go_enter Tryz.func30, Tryz.ntmps30
      go_wp2_with fail
      refine (checkCount_any m _ hm).mono ?_
      rintro e w' ⟨rfl, rfl⟩
      generalize 2 * m = z at *
      go_wp2_with fail
      go_ret
      exact ⟨by rw [HV.out]; simp [h2i], rfl⟩
    · have HV : Hid (sizB m n = false) := by show _ = _; simp [sizB, h2]
      have h2i : ¬ (n : Int) ≤ 24 := by omega
      go_enter Tryz.func30, Tryz.ntmps30
      go_wp2_with fail
      refine (checkCount_any m _ hm).mono ?_
      rintro e w' ⟨rfl, rfl⟩
      generalize 2 * m = z at *
      go_wp2_with fail
      go_ret
      exact ⟨by rw [HV.out]; simp [h2i], rfl⟩
  · have hd : decide (((2 * m : Nat) : Int) < (n : Int)) = false := by simp; omega
    have hdi : ¬ ((2 * m : Nat) : Int) < (n : Int) := by omega
    have HV : Hid (sizB m n = false) := by show _ = _; simp [sizB, h1]
    go_enter Tryz.func30, Tryz.ntmps30
    go_wp2_with fail
    refine (checkCount_any m _ hm).mono ?_
    rintro e w' ⟨rfl, rfl⟩
    generalize 2 * m = z at *
    go_wp2_with fail
    go_ret
    exact ⟨by rw [HV.out]; rfl, rfl⟩

theorem powOf3 (n : Nat) (w : World) (hn : n ≤ 1000) (ht : Tab w) : Calls Tryz.prog 72 #[.int .u8 3, .int .i64 (n : Int)] w fun e w' => e = .returned (.int .u8 ((powB 3 n).toNat : Int)) ∧ w = w' := by
  have h := powerOf_any 3 n (by omega) (by omega) w ht
  rw [powB_toNat]; exact h

theorem l1Pow3 (n : Nat) (w : World) (hn : n ≤ 1000) : Calls Tryz.prog 52 #[.int .u8 3, .int .i64 (n : Int)] w fun e w' => e = .returned (.int .u8 ((powB 3 n).toNat : Int)) ∧ w = w' := by
  have h := l1Power_any 3 n (by omega) (by omega) w
  rw [powB_toNat]; exact h

set_option maxRecDepth 100000 in
set_option maxHeartbeats 2000000 in
theorem cloneB_own (v : Value) (l : List UInt8) (w : World) (hv : Seen w v (bys l)) (h1 : 1 ≤ l.length) (h2 : l.length ≤ 1048576) : Calls Tryz.prog 39 #[v] w (RetBytes 5 w l) := by
  obtain ⟨b, off, c, rfl, hbl, hlm, hcell⟩ := seen_cellsB hv h1
  have hbA : Below w.heap.size w (w.alloc (.cells #[] 5)) := (Below.refl _ _).alloc (Nat.le_refl _) _
  obtain ⟨cp, w1, hap, ho, k1⟩ := run_appLit (P := Tryz.prog) (w.alloc (.cells #[] 5)) 22 22 5 _ _ Tryz.underlying22 infoByte rfl ⟨w.heap.size, 0, none⟩ ⟨b, off, none⟩ l.length c (bys l) h1 (bys_length _) (hcell _ hbA) (fun y hy => bys_one y l hy) (by omega) (by omega)
  rw [World.size_alloc] at hap ho
  have HO : Hid (OwnBytes 5 w1 w.heap.size w1.heap.size (.slice (some ⟨w.heap.size + 1, 0, none⟩) l.length cp) l) := Lib.hid ⟨own_lowerB ho (Nat.le_succ _) rfl, Nat.le_refl _, fun g e => (ho.lt g e).2⟩
  have HK := Lib.hid (turn_trans (TurnIn.of_below hbA) k1 (by omega))
  have hq : ∀ W : World, (binOp .eql 22 (.slice (some ⟨b, off, none⟩) l.length c) (.slice none 0 0)).run Tryz.prog W = .ok (.bool false) W := fun W => by
    have h := Lib.run_eql_slice_nil (P := Tryz.prog) W 22 5 (some ⟨b, off, none⟩) l.length c 0 0 Tryz.underlying22
    simpa using h
  clear hcell ho k1 hv
  generalize l.length = n at *
  go_enter Tryz.func39, Tryz.ntmps39
  go_wp2_with (at_builtin; refine Lib.wpList_append_run _ rfl _ _ _ _ rfl _ _ rfl rfl _ _ hap ?_)
  go_wp2_with fail
  go_ret
  exact ⟨_, rfl, HO.out, HK.out⟩

set_option maxRecDepth 100000 in
set_option maxHeartbeats 2000000 in
theorem rootsOf_own (m : Nat) (w : World) (h1 : 1 ≤ m) (h4 : m ≤ 4) (ht : Tab w) (h0 : 3 < w.heap.size) :
    Calls Tryz.prog 41 #[.int .i64 (m : Int)] w (RetBytes 5 w (rootsL (2 * m))) := by
  obtain ⟨i0, hi0, hz0, hz1, hz2⟩ := info_parts infoByte
  have HT := Lib.hid ht
  clear ht
  obtain ⟨n, hn⟩ : ∃ n, n = 2 * m := ⟨_, rfl⟩
  have hn8 : n ≤ 8 := by omega
  have hn1 : 1 ≤ n := by omega
  have HC : Hid (∀ W : World, Calls Tryz.prog 31 #[.int .i64 (m : Int)] W fun e w' => e = .returned (.int .i64 (n : Int)) ∧ W = w') := fun W => by rw [hn]; exact checkCount_any m W (by omega)
  have HBL : Hid ((bys (rootsL n)).length = n) := by show _ = _; simp [rootsL]
  have HG : Hid (∀ k, k < n → (bys (rootsL n))[k]? = some (.int .u8 ((powB 3 (k + 1)).toNat : Int))) := fun k hk => by
    rw [bys_get _ k (by simpa [rootsL] using hk)]; simp [rootsL, mkRow]
  rw [← hn]
  have HL : Hid ((rootsL n).length = n) := by show _ = _; simp [rootsL]
  clear hn
  go_enter Tryz.func41, Tryz.ntmps41
  go_wp2_with fail
  refine (HC.out _).mono ?_
  rintro e w' ⟨rfl, rfl⟩
  go_wp2_with (at_make; refine wpList_make_full _ rfl _ _ _ rfl w.heap.size _ i0 _ 1 Tryz.underlying22 hi0 hz0 hz1 _ _ _ _ n rfl rfl rfl rfl ?b2 ?b3 ?b4 ?_)
  case b2 => rw [hz2]; omega
  case b3 => unfold maxLen; omega
  case b4 => exact Nat.le_refl _
  intro w1 hown1 hg1
  have hb1 : Below w.heap.size w w1 := below_of_grown hg1 (Nat.le_refl _) (by simp)
  rw [toList_madeCells_one] at hown1
  clear hg1
  go_wp2_with fail
  go_loopw [10] (fun i wr => ∃ k : Nat, k ≤ n ∧ i = .int .i64 k ∧ wr.ownsRow w.heap.size 5 1 (.slice (some ⟨w.heap.size, 0, none⟩) n n) n ((bys (rootsL n)).take k ++ List.replicate (n - k) (.int .u8 0)) ∧ Below w.heap.size w wr)
    (fun i _ => n - (intOf i).toNat)
  case atStart => exact ⟨0, Nat.zero_le _, rfl, by simpa using hown1, hb1⟩
  case round =>
    obtain ⟨k, hk, rfl, hown, hb⟩ := hrel
    clear hown1 hb1
    by_cases hlt : k < n
    · have hki : (k : Int) < (n : Int) := by omega
      have hco : wr.cell? ⟨w.heap.size, k, none⟩ = some (.int .u8 0) := by
        have htk : ((bys (rootsL n)).take k).length = k := by rw [List.length_take, HBL.out]; omega
        rw [hown.cellAt k (by omega), List.getElem?_append_right (by omega), htk, Nat.sub_self, List.getElem?_replicate, if_pos (by omega)]
      have hfr := hown.frozenAt k
      have hst := hown.stored k (.int .u8 ((powB 3 (k + 1)).toNat : Int))
      rw [take_set_next _ _ k _ (HG.out k hlt) (by rw [HBL.out]; simp; omega)] at hst
      have HST := Lib.hid hst.1
      have HBB : Hid (Below w.heap.size w (wr.setCell ⟨w.heap.size, k, none⟩ (.int .u8 ((powB 3 (k + 1)).toNat : Int)))) := hb.setCell (Nat.le_refl _) _
      have HP : Hid (Calls Tryz.prog 72 #[.int .u8 3, .int .i64 ((k : Int) + 1)] wr fun e w' => e = .returned (.int .u8 ((powB 3 (k + 1)).toNat : Int)) ∧ wr = w') :=
        powOf3 (k + 1) wr (by omega) (HT.out.below hb h0)
      clear hst
      go_wp2_with fail
      refine HP.out.mono ?_
      rintro e w' ⟨rfl, rfl⟩
      go_wp2_with fail
      go_roundw
      case rel => exact ⟨k + 1, by omega, by go_num, by simpa [Nat.sub_sub] using HST.out, HBB.out⟩
      case measure => simp [intOf]; omega
    · obtain rfl : k = n := by omega
      have hki : ¬ (k : Int) < (k : Int) := by omega
      go_wp2_with fail
      go_ret
      rw [List.take_of_length_le (by rw [HBL.out]; exact Nat.le_refl _), Nat.sub_self] at hown
      exact ⟨_, rfl, OwnBytes.of_made (by rw [HL.out]; simpa using hown), TurnIn.of_below hb⟩

end Go.Proofs.YtfglkgeeelapgaaGreatDoor

/- Chapter 8: the generator: the program's and the model's. -/
namespace G294
open Go Go.RowKit
theorem OwnBytes.setB {E : TypeId} {w : World} {lo hi g n c : Nat} {l : List UInt8} (h : OwnBytes E w lo hi (.slice (some ⟨g, 0, none⟩) n c) l) (hn : n = l.length) (k : Nat) (x : UInt8) :
    OwnBytes E (w.setCell ⟨g, k, none⟩ (.int .u8 (x.toNat : Int))) lo hi (.slice (some ⟨g, 0, none⟩) n c) (l.set k x) ∧ TurnIn lo hi w (w.setCell ⟨g, k, none⟩ (.int .u8 (x.toNat : Int))) := by
  obtain ⟨h1, h2, h3⟩ := h
  subst hn
  have hs := h1.stored k (.int .u8 (x.toNat : Int))
  refine ⟨⟨by rw [bys_set, List.length_set]; exact hs.1, by simpa using h2, h3⟩, TurnIn.of_grown hs.2 fun g' e => ?_⟩
  obtain rfl : g = g' := Option.some.inj e
  exact ⟨(h1.lt g rfl).1, h3 g rfl⟩
theorem ArrAt.seenTake {W : World} {B T : Nat} {l : List UInt8} (h : ArrAt W B T l) {k : Nat} (hk : k ≤ l.length) (hm : l.length ≤ 1000) : Seen W (.slice (some ⟨B, 0, none⟩) k l.length) (bys (l.take k)) :=
  ⟨_, l.length, by simp [Nat.min_eq_left hk], by simp; omega, by unfold maxLen; omega, fun _ => ⟨B, 0, rfl, h.lt, fun i u hu => by
    have hi : i < k := by have := (List.getElem?_eq_some_iff.1 hu).1; simp at this; omega
    rw [cell_of_row W B _ _ T _ h, List.getElem?_toArray, Nat.zero_add, ← hu]
    simp [bys, List.getElem?_take, hi]⟩⟩
end G294
namespace Go.Proofs.YtfglkgeeelapgaaGreatDoor
open Go.RowKit G294

theorem sliceCoef (B k : Nat) (hk : k + 1 ≤ 20) (W : World) : (Instr.sliceAt 56 (.pointer (some ⟨B, 0, none⟩)) none (some (.int .i64 ((k : Int) + 1))) none).run Tryz.prog W = .ok (.slice (some ⟨B, 0, none⟩) (k + 1) 20) W := by
  have hal : Tryz.prog.arrayLen 56 = 20 := by kernel_rfl
  have hel : (sizeOf (Tryz.prog.elem 56)).run Tryz.prog W = .ok 1 W := by kernel_rfl
  rw [run_sliceAt_array_h W 56 ⟨B, 0, none⟩ (by kernel_rfl) .i64 ((k : Int) + 1) (by omega) (by rw [hal]; omega), hel, hal]
  simp only [Result.andThen, slicedAt]
  rw [show ((k : Int) + 1).toNat = k + 1 by omega]
  simp [Addr.add]

set_option maxRecDepth 100000 in
set_option maxHeartbeats 4000000 in
theorem generatorOf_own (t : Int) (w : World) (ht : Tab w) (h0 : 3 < w.heap.size) :
    Calls Tryz.prog 12 #[.int .i64 t] w (RetBytesOk 5 w (genR t) (errT t)) := by
  by_cases he : errT t = true
  · obtain ⟨m, rfl, h1, h4⟩ := errT_b he
    have HR : Hid (genR (m : Int) = genL (2 * m)) := by show _ = _; unfold genR; rw [if_pos he]; simp
    have HE := Lib.hid he
    have HT := Lib.hid ht
    have HW : Hid (∀ k, k ≤ 18 → wrC (powB 3 (k + 1)) (pad20 (genL k)) = pad20 (genL (k + 1))) := fun k hk => by rw [wr_pad _ _ (by simp; omega)]; rfl
    have HPL : Hid (∀ k, k ≤ 19 → (pad20 (genL k)).length = 20) := fun k hk => pad20_length (by simp; omega)
    have HTK : Hid (∀ k, (pad20 (genL k)).take (k + 1) = genL k) := fun k => by have := pad_take (genL k); rwa [genL_length] at this
    clear he ht
    go_enter Tryz.func12, Tryz.ntmps12
    go_wp2_with fail
    refine (goodWrong_any _ _).mono ?_
    rintro e w' ⟨rfl, rfl⟩
    rw [HE.out]
    go_wp2_with (refine wpList_alloc_arr rfl 56 rfl _ zeroCoef ?_)
    intro W1 hW1
    replace hW1 := hW1.out
    have t1 := hW1 ▸ turn_alloc w (.cells (bys (List.replicate 20 0)).toArray 56)
    have r1 := hW1 ▸ ArrAt.new w 56 (List.replicate 20 0)
    have z1 := hW1 ▸ World.size_alloc w (.cells (bys (List.replicate 20 0)).toArray 56)
    clear hW1
    generalize hB : w.heap.size = B at *
    have HBE := Lib.hid hB
    clear hB
    go_wp2_with (refine wpList_store_arr rfl 56 _ _ rfl B 20 _ _ (pad20 (genL 0)) rfl rfl r1 sizeCoef (by simp) (by simp [pad20]) ?_)
    intro W2 hW2
    replace hW2 := hW2.out
    have r2 := hW2 ▸ r1.row (pad20 (genL 0))
    have t2 := hW2 ▸ turn_row W1 B (bys (pad20 (genL 0))).toArray
    have z2 : W2.heap.size = B + 1 := by rw [hW2]; simp [z1]
    have k2 : TurnIn 0 0 w W2 := turn_trans t1 t2 (by have := HBE.out; omega)
    clear hW2 r1 t1 t2 z1
    have htab2 : Tab W2 := HT.out.below k2.to_below (by rw [HBE.out]; exact h0)
    have HTB2 := Lib.hid htab2
    clear htab2
    go_wp2_with fail
    refine (rootsOf_own m W2 h1 h4 HTB2.out (by omega)).mono ?_
    rintro e W3 ⟨v3, rfl, o3, k3⟩
    obtain ⟨n, hn⟩ : ∃ n, n = 2 * m := ⟨_, rfl⟩
    have hn1 : 1 ≤ n := by omega
    have hn8 : n ≤ 8 := by omega
    rw [← hn] at o3
    have HNM : Hid ((n : Int) = 2 * (m : Int)) := by show _ = _; omega
    have HCC : Hid (∀ W : World, Calls Tryz.prog 31 #[.int .i64 (m : Int)] W fun e w' => e = .returned (.int .i64 (n : Int)) ∧ W = w') := fun W => by rw [hn]; exact checkCount_any m W (by omega)
    rw [← hn] at HR
    clear hn
    have HRL : Hid ((rootsL n).length = n) := by show _ = _; simp [rootsL]
    have HRG : Hid (∀ k, k < n → (rootsL n).getD k 0 = powB 3 (k + 1)) := fun k hk => by simp [rootsL, mkRow, List.getD, hk]
    obtain ⟨g, cp, rfl, hg1, hg2, hcp1, hcp2⟩ := o3.slice (by rw [HRL.out]; omega)
    rw [HRL.out] at o3 hcp1 ⊢
    unfold maxLen at hcp2
    have r3 := r2.keep k3 (by omega)
    have kw := turn_trans k2 k3 (by omega)
    have z3 := k3.size
    clear r2 k2 k3
    go_wp2_with fail
    go_loopw [14] (fun i wr => ∃ k : Nat, k ≤ n ∧ i = .int .i64 k ∧ ArrAt wr B 56 (pad20 (genL k)) ∧ OwnBytes 5 wr W2.heap.size W3.heap.size (.slice (some ⟨g, 0, none⟩) n cp) (rootsL n) ∧ TurnIn 0 0 w wr ∧ W3.heap.size ≤ wr.heap.size)
      (fun i _ => n - (intOf i).toNat)
    case atStart => exact ⟨0, by omega, rfl, r3, o3, kw, Nat.le_refl _⟩
    case round =>
      obtain ⟨k, hk, rfl, q3, qo, qw, z4⟩ := hrel
      clear r3 o3 kw
      by_cases hlt : k < n
      · have hki : (k : Int) < (n : Int) := by omega
        have hcx := qo.cellAt (k := k) (by rw [HRL.out]; exact hlt)
        rw [HRG.out k hlt] at hcx
        have htab : Tab wr := HT.out.below qw.to_below (by rw [HBE.out]; exact h0)
        have HTB := Lib.hid htab
        clear htab
        go_wp2_with (refine wpList_load_arr rfl 56 _ rfl B 20 20 5 _ _ rfl q3 sizeCoef Tryz.underlying56 (HPL.out k (by omega)) ?_)
        intro u hu
        replace hu := hu.out
        subst hu
        go_wp2_with fail
        refine (withRoot_own (pad20 (genL k)) (powB 3 (k + 1)) wr (HPL.out k (by omega)) HTB.out (by omega)).mono ?_
        rintro e W5 ⟨rfl, k5⟩
        rw [HW.out k (by omega)]
        have q5 := q3.keep k5 (by omega)
        have qo5 := qo.keep k5 (by omega)
        have qw5 := turn_trans qw k5 (by omega)
        have z5 := k5.size
        clear q3 qo qw hcx
        go_wp2_with (refine wpList_store_arr rfl 56 _ _ rfl B 20 _ _ (pad20 (genL (k + 1))) rfl rfl q5 sizeCoef (HPL.out k (by omega)) (HPL.out (k + 1) (by omega)) ?_)
        intro W6 hW6
        replace hW6 := hW6.out
        have r6 := hW6 ▸ q5.row (pad20 (genL (k + 1)))
        have t6 := hW6 ▸ turn_row W5 B (bys (pad20 (genL (k + 1)))).toArray
        have qo6 := qo5.keep t6 (by omega)
        have qw6 : TurnIn 0 0 w W6 := turn_trans qw5 t6 (by have := HBE.out; omega)
        have z6 := t6.size
        clear hW6 q5 qo5 qw5 t6
        go_wp2_with fail
        go_roundw
        case rel => exact ⟨k + 1, by omega, by go_num, r6, qo6, qw6, by omega⟩
        case measure => simp [intOf]; omega
      · obtain rfl : k = n := by omega
        have hki : ¬ (k : Int) < (k : Int) := by omega
        have hs := q3.seenTake (k := k + 1) (by rw [HPL.out k (by omega)]; omega) (by rw [HPL.out k (by omega)]; omega)
        rw [HPL.out k (by omega), HTK.out k] at hs
        have HS := Lib.hid hs
        have HGL : Hid ((genL k).length = k + 1) := genL_length k
        have hk0 : (0 : Int) ≤ (k : Int) + 1 := by omega
        have hal : Tryz.prog.arrayLen 56 = 20 := by kernel_rfl
        have hk20 : (k : Int) + 1 ≤ ((Tryz.prog.arrayLen 56 : Nat) : Int) := by rw [hal]; omega
        have hsl := sliceCoef B k (by omega)
        clear hs q3 qo hal hk20 hk0
        go_wp2_with fail
        refine (HCC.out _).mono ?_
        rintro e w' ⟨rfl, rfl⟩
        go_wp2_with fail
        refine (cloneB_own _ (genL k) _ HS.out (by rw [HGL.out]; omega) (by rw [HGL.out]; omega)).mono ?_
        rintro e w6 ⟨v6, rfl, o6, k6⟩
        have s6 := qw.size
        have kk := turn_trans qw k6 (by omega)
        have o6' := o6.wider (lo' := w.heap.size) (hi' := w6.heap.size) (by omega) (Nat.le_refl _) (Nat.le_refl _)
        go_wp2_with fail
        go_ret2
        exact ⟨v6, by rw [HE.out]; rfl, by rw [HR.out]; exact o6', kk⟩
  · have HE : Hid (errT t = false) := by show _ = _; simpa using he
    have HR : Hid (genR t = []) := if_neg he
    clear he
    go_enter Tryz.func12, Tryz.ntmps12
    go_wp2_with fail
    refine (goodWrong_any _ _).mono ?_
    rintro e w' ⟨rfl, rfl⟩
    rw [HE.out]
    go_wp2_with fail
    go_ret2
    exact ⟨.slice none 0 0, by rw [HE.out]; rfl, by rw [HR.out]; exact OwnBytes.nil _ _ _, TurnIn.refl _⟩

end Go.Proofs.YtfglkgeeelapgaaGreatDoor
