/- Joined texts: LocS2, ShaSec, CurBase, CurWalks, CurVec, Cur8, Cur9. -/
import Derived.Test.YtblfobbeojdihaaGreatDoorBd13
import Derived.Test.YtblfobbeojdihaaGreatDoorBd04
import Derived.Test.YtblfobbeojdihaaGreatDoorBd12
import Derived.Deep.RegionHeld3
import Derived.Test.YtblfobbeojdihaaGreatDoorProg
import Derived.Deep.QuietTactic
import Derived.BigQuiet
import Derived.Test.YtblfobbeojdihaaGreatDoorBd02
import Derived.Test.YtblfobbeojdihaaGreatDoorBd03
set_option linter.unusedSimpArgs false
set_option linter.unusedVariables false
/- Chapter 8: the locator: the model's. -/
namespace Go.Proofs.YtblfobbeojdihaaGreatDoor
open Go.RowKit G294

set_option maxRecDepth 100000 in
set_option maxHeartbeats 1000000 in
theorem l8Locator_own (v : Value) (s : List UInt8) (w : World) (hs : Seen w v (bys s)) (h8 : s.length ≤ 8) (hev : s.length % 2 = 0) : Calls Tryz.prog 45 #[v] w (RetBytes 5 w (locL s)) := by
  have HS := Lib.hid hs
  obtain ⟨A, c, rfl, hlc, hcm, _⟩ := hs
  rw [bys_length] at hlc HS
  simp only [bys_length]
  unfold maxLen at hcm
  have HLL : Hid (∀ n, locN s (s.length / 2) = n → locL s = 1 :: (locSol s n).reverse) := fun n h => by unfold locL; rw [h]
  have HSR : Hid (∀ n W, 0 < n → 2 * n ≤ s.length → TurnIn 0 0 w W → ∃ b off, A = some ⟨b, off, none⟩ ∧ Seen W (.slice (some ⟨b, off + n, none⟩) n (c - n)) (bys ((s.drop n).take n))) := fun n W h1 h2 h3 => sub_row (HS.out.touch h3) h1 (by omega)
  have HSL : Hid (∀ n, 2 * n ≤ s.length → aplL n n (bst (hanF s) idF n n) ((s.drop n).take n) = locSol s n ∧ ((s.drop n).take n).length = n) := fun n h => ⟨apl_loc h, by rw [List.length_take, List.length_drop]; omega⟩
  have HSM : Hid (∀ n W, 2 * n ≤ s.length → n ≤ 100 → TurnIn 0 0 w W → Calls Tryz.prog 76 #[.slice A s.length c, .int .i64 (n : Int)] W (RetMat 5 22 W (mkM n n (hanF s)))) := fun n W h1 h2 h3 => l8Hankel_own n _ c A s W (HS.out.touch h3) rfl h2 h1 (by omega)
  generalize hqq : s.length = q at *
  have HQ := Lib.hid hqq
  clear hqq
  obtain ⟨h, hh⟩ : ∃ h, h = q / 2 := ⟨_, rfl⟩
  have h2q : 2 * h = q := by omega
  have hquo : (q : Int) / 2 = (h : Int) := by omega
  have hquo2 : (q : Int).tdiv 2 = (h : Int) := by rw [Int.tdiv_eq_ediv_of_nonneg (by omega)]; exact hquo
  rw [← hh] at HLL
  clear hh hev
  go_enter Tryz.func45, Tryz.ntmps45
  go_wp2_with fail
  go_loopw [3] (fun i wr => ∃ n : Nat, n ≤ h ∧ i = .int .i64 n ∧ Hid (locN s h = locN s n) ∧ TurnIn 0 0 w wr) (fun i _ => (intOf i).toNat)
  case atStart => exact ⟨h, Nat.le_refl _, rfl, rfl, TurnIn.refl _⟩
  case round =>
    obtain ⟨n, hn, rfl, HL, kr⟩ := hrel
    by_cases hlt : 0 < n
    · obtain ⟨b, off, rfl, hsr⟩ := HSR.out n wr hlt (by omega) kr
      obtain ⟨z, hz⟩ : ∃ z, z = 2 * n := ⟨_, rfl⟩
      have hmul : 2 * (n : Int) = (z : Int) := by omega
      have hzn : n ≤ z := by omega
      have hzq : z ≤ q := by omega
      have hzc : z ≤ c := by omega
      have HSZ : Hid (Seen wr (.slice (some ⟨b, off + n, none⟩) (z - n) (c - n)) (bys ((s.drop n).take n))) := by
        show Seen _ _ _
        rw [show z - n = n by omega]; exact hsr
      have HE := Lib.hid (HSL.out n (by omega))
      have HSN : Hid (solB (hanF s) n = true → locL s = 1 :: (locSol s n).reverse) := fun hb => by
        obtain ⟨m, rfl⟩ : ∃ m, n = m + 1 := ⟨n - 1, by omega⟩
        exact HLL.out _ (by rw [HL.out, locN_yes hb])
      have HSX : Hid (solB (hanF s) n = false → locN s h = locN s (n - 1)) := fun hb => by
        obtain ⟨m, rfl⟩ : ∃ m, n = m + 1 := ⟨n - 1, by omega⟩
        rw [HL.out, locN_no hb]; rfl
      have HM := Lib.hid (HSM.out n wr (by omega) (by omega) kr)
      have hn16 : n ≤ 16 := by omega
      have hwz : IntKind.i64.wrap (z : Int) = (z : Int) := IntWalk.i64_in _ (by omega)
      have hwm : IntKind.i64.wrap (2 * (n : Int)) = (z : Int) := by rw [IntWalk.i64_in _ (by omega)]; exact hmul
      have hsl1 := sliceLH b off q c n z hzn hzc (by omega)
      have hsl2 := sliceLHb b off q c n z hzn hzc (by omega)
      have zr := kr.size
      clear hz hsr HSR HSL HSM HLL
      go_wp2_with fail
      refine HM.out.mono ?_
      rintro e w1 ⟨v1, vs1, rfl, o1, k1⟩
      have kk1 := turn_trans kr k1 (by omega)
      have z1 := k1.size
      go_wp2_with fail
      refine (l2Inverse_own n (hanF s) v1 w1 o1.seen hlt (by omega)).mono ?_
      rintro e w2 ⟨v2, vs2, rfl, o2, k2⟩
      have kk2 := turn_trans kk1 k2 (by omega)
      have z2 := k2.size
      have hdb : decide ((est (hanF s) n n).2 = n) = solB (hanF s) n := rfl
      rw [hdb]
      obtain ⟨A2, n2, c2, rfl⟩ := o2.isSlice
      have ka := turn_alloc w2 (.cells #[.slice A2 n2 c2] 70)
      have HB := Lib.hid (alloc_cell w2 (.slice A2 n2 c2) 70)
      have HO2 := Lib.hid (o2.keep ka (by omega)).seen
      have HKA := Lib.hid (turn_trans kk2 ka (by omega))
      have HKW := Lib.hid (turn_trans (turn_trans k1 k2 (by omega)) ka (by omega))
      have za := World.size_alloc w2 (.cells #[.slice A2 n2 c2] 70)
      clear o1 o2 k1 k2 kk1 kk2 ka hdb HM
      by_cases hsol : solB (hanF s) n = true
      · have HFL := Lib.hid (HSN.out hsol)
        rw [hsol]
        clear hsol HSN HSX
        go_wp2_with fail
        generalize hw3 : w2.alloc (.cells #[.slice A2 n2 c2] 70) = w3 at *
        clear hw3
        have cB := HB.out
        have hz23 : w2.heap.size < w3.heap.size := by omega
        go_region_held3 (fun w' => w'.cell? ⟨w2.heap.size, 0, none⟩ = some (.slice A2 n2 c2))
          (first | exact cB | exact cB4)
          ((go_at_call 50; refine (l2Apply_own n n (bst (hanF s) idF n n) _ _ ((s.drop n).take n) w3.drew (show SeenM w3.drew _ _ from HO2.out) ((show Seen wr _ _ from HSZ.out).touch (turn_drewA HKW.out)) HE.out.2 (by omega)).mono ?_; rintro e w4 ⟨v4, rfl, o4, k4⟩; have cB4 := cell_turn k4 (show w3.drew.cell? _ = _ from cB) (show _ < w3.heap.size by omega)))
        rw [HE.out.1] at o4
        have HLS : Hid ((locSol s n).length = n) := by show _ = _; simp [locSol]
        have kk4 : TurnIn 0 0 w w4 := turn_trans (turn_drewA HKA.out) k4 (by omega)
        have z4 : w3.heap.size ≤ w4.heap.size := k4.size
        obtain ⟨g, cg, rfl, hg1, hg2, hg3, hg4⟩ := o4.slice (by rw [HLS.out]; omega)
        have hg1' : w3.heap.size ≤ g := hg1
        rw [HLS.out] at hg3 ⊢
        unfold maxLen at hg4
        have HO4 := Lib.hid o4
        have hob := own_built w4 5 [1] (by simp)
        have ka4 := turn_alloc w4 (.cells #[.int .u8 1] 5)
        have za4 := World.size_alloc w4 (.cells #[.int .u8 1] 5)
        have HOB : Hid ((w4.alloc (.cells #[.int .u8 1] 5)).ownsRow w4.heap.size 5 1 (.slice (some ⟨w4.heap.size, 0, none⟩) 1 1) 1 (bys (1 :: ((locSol s n).drop n).reverse))) := by
          rw [List.drop_of_length_le (by rw [HLS.out]; exact Nat.le_refl _)]; exact hob.1
        have HB4 : Hid (Below w4.heap.size w4 (w4.alloc (.cells #[.int .u8 1] 5))) := (Below.refl _ _).alloc (Nat.le_refl _) _
        have hnn1 : IntKind.i64.wrap ((n : Int) - 1) = (n : Int) - 1 := by rw [IntWalk.i64_in _ (by omega)]
        have HRD : Hid (∀ m, m < n → (1 :: ((locSol s n).drop (m + 1)).reverse) ++ [(locSol s n).getD m 0] = 1 :: ((locSol s n).drop m).reverse) := fun m hm => rev_drop (by rw [HLS.out]; exact hm)
        clear o4 k4 hob ka4 cB cB4 hsl1 hsl2
        go_wp2_with fail
        go_loopw [7, 8] (fun o j wq => ∃ m : Nat, m ≤ n ∧ j = .int .i64 ((m : Int) - 1) ∧ wq.ownsRow w4.heap.size 5 1 o (n - m + 1) (bys (1 :: ((locSol s n).drop m).reverse)) ∧ Below w4.heap.size w4 wq)
          (fun _ j _ => (intOf j + 1).toNat)
        case atStart => exact ⟨n, Nat.le_refl _, by first | rfl | rw [hnn1], by rw [Nat.sub_self]; exact HOB.out, HB4.out⟩
        case round =>
          obtain ⟨m, hm, rfl, ho, hbq⟩ := hrel
          by_cases hm0 : 0 < m
          · obtain ⟨m', rfl⟩ : ∃ m', m = m' + 1 := ⟨m - 1, by omega⟩
            have hj : (((m' + 1 : Nat) : Int) - 1) = (m' : Int) := by omega
            rw [hj]
            have hj0 : (0 : Int) ≤ (m' : Int) := by omega
            have hmn : (m' : Int) < (n : Int) := by omega
            have hcy := (hbq.cell (p := ⟨g, m', none⟩) hg2).trans (HO4.out.cellAt (k := m') (by rw [HLS.out]; omega))
            have HRM := Lib.hid (HRD.out m' (by omega))
            generalize (locSol s n).getD m' 0 = y at *
            obtain ⟨t, ht⟩ : ∃ t, t = n - (m' + 1) + 1 := ⟨_, rfl⟩
            have ht2 : t + 1 = n - m' + 1 := by omega
            have ht17 : t ≤ 17 := by omega
            rw [← ht] at ho
            have HT2 := Lib.hid ht2
            have HOA := Lib.hid (ho.alloc (.cells #[.int .u8 (y.toNat : Int)] 5))
            have HBA : Hid (Below w4.heap.size w4 (wr.alloc (.cells #[.int .u8 (y.toNat : Int)] 5))) := hbq.alloc hbq.size _
            have hzq := hbq.size
            have hw1 : IntKind.i64.wrap ((m' : Int) - 1) = (m' : Int) - 1 := by rw [IntWalk.i64_in _ (by omega)]
            clear ho ht ht2 hj
            go_wp2_with (at_builtin; refine wpList_append1 rfl _ _ _ rfl w4.heap.size 5 _ _ Tryz.underlying22 infoByte rfl _ t _ rfl HOA.out wr.heap.size (.int .u8 (y.toNat : Int)) rfl ?c1 rfl ?c2 ?c3 ?c4 ?_)
            case c1 => simp
            case c2 => omega
            case c3 => omega
            case c4 => simp; omega
            intro v' w' hown' hg' _
            have hb' : Below w4.heap.size w4 w' := below_append HBA.out HOA.out hg' (Nat.le_refl _) (by simp; omega)
            have hown2 : w'.ownsRow w4.heap.size 5 1 v' (n - m' + 1) (bys (1 :: ((locSol s n).drop m').reverse)) := by
              rw [← HT2.out, ← HRM.out, bys_append]; exact hown'
            clear hown' hg'
            go_wp2_with fail
            go_roundw
            case rel => exact ⟨m', by omega, by first | rfl | rw [hw1] | go_num, hown2, hb'⟩
            case measure => simp [intOf]
          · obtain rfl : m = 0 := by omega
            have HL1 : Hid ((1 :: (locSol s n).reverse).length = n + 1) := by show _ = _; simp [HLS.out]
            have HOO := Lib.hid ho
            clear ho
            go_wp2_with fail
            go_ret
            refine ⟨_, rfl, ?_, turn_of_below kk4.to_below (TurnIn.of_below hbq)⟩
            rw [HFL.out]
            refine (OwnBytes.of_made (w := w4) ?_).wider (by omega) (Nat.le_refl _) (Nat.le_refl _)
            rw [HL1.out]; exact HOO.out
      · have hsol' : solB (hanF s) n = false := by simpa using hsol
        have HXX : Hid (locN s h = locN s (n - 1)) := HSX.out hsol'
        rw [hsol']
        clear hsol hsol' HSN HSX
        obtain ⟨m, hm⟩ : ∃ m, m = n - 1 := ⟨_, rfl⟩
        rw [← hm] at HXX
        have hwm1 : IntKind.i64.wrap ((n : Int) - 1) = (m : Int) := by rw [IntWalk.i64_in _ (by omega)]; omega
        have hmn : m < n := by omega
        clear hm
        go_wp2_with fail
        go_roundw
        case rel => exact ⟨m, by omega, by go_num, HXX, HKA.out⟩
        case measure => simp [intOf]; omega
    · obtain rfl : n = 0 := by omega
      have HF : Hid (locL s = [1]) := by show _ = _; rw [HLL.out 0 HL.out]; rfl
      have hob := own_built wr 5 [1] (by simp)
      have HOB : Hid (OwnBytes 5 (wr.alloc (.cells #[.int .u8 1] 5)) wr.heap.size (wr.heap.size + 1) (.slice (some ⟨wr.heap.size, 0, none⟩) 1 1) [1]) := hob
      have kz := kr.size
      clear hob
      go_wp2_with fail
      go_ret
      refine ⟨_, rfl, ?_, turn_trans kr (turn_alloc _ _) (by omega)⟩
      rw [HF.out]
      exact HOB.out.wider kz (by simp) (Nat.le_refl _)

set_option maxHeartbeats 1000000 in
theorem sLocatorOf_own (v : Value) (s : List UInt8) (w : World) (hs : Seen w v (bys s)) : Calls Tryz.prog 21 #[v] w (RetBytesOk 5 w (locR s) (locOk s)) := by
  have HOK : Hid (locOk s = decide (s.length % 2 = 0 ∧ s.length ≤ 8)) := rfl
  have HNO : Hid (locOk s = false → locR s = []) := fun h => if_neg (by rw [h]; simp)
  have HYES : Hid (locOk s = true → locR s = locL s) := fun h => if_pos h
  have HC : Hid (s.length ≤ 8 → s.length % 2 = 0 → Calls Tryz.prog 45 #[v] w (RetBytes 5 w (locL s))) := fun h1 h2 => l8Locator_own v s w hs h1 h2
  obtain ⟨A, c, rfl, hlc, hcm, _⟩ := hs
  rw [bys_length] at hlc
  simp only [bys_length] at *
  unfold maxLen at hcm
  generalize s.length = q at *
  by_cases hodd : q % 2 = 0
  · have hr0 : (((q : Int) % 2) == 1) = false := by rw [show (q : Int) % 2 = 0 by omega]; rfl
    have hr2 : ((q : Int).tmod 2 == 1) = false := by rw [Int.tmod_eq_emod_of_nonneg (by omega)]; exact hr0
    by_cases h8 : q ≤ 8
    · have HO : Hid (locOk s = true) := by show _ = _; rw [HOK.out]; simp [hodd, h8]
      have h8i : ¬ (8 : Int) < (q : Int) := by omega
      have HCC := Lib.hid (HC.out h8 hodd)
      clear HC
      go_enter Tryz.func21, Tryz.ntmps21
      go_wp2_with fail
      refine HCC.out.mono ?_
      rintro e w1 ⟨v1, rfl, o1, k1⟩
      go_wp2_with fail
      go_ret2
      exact ⟨v1, by rw [HO.out]; rfl, by rw [HYES.out HO.out]; exact o1, k1⟩
    · have HO : Hid (locOk s = false) := by show _ = _; rw [HOK.out]; simp [h8]
      have h8i : (8 : Int) < (q : Int) := by omega
      go_enter Tryz.func21, Tryz.ntmps21
      go_wp2_with fail
      go_ret2
      exact ⟨.slice none 0 0, by rw [HO.out]; rfl, by rw [HNO.out HO.out]; exact OwnBytes.nil _ _ _, TurnIn.refl _⟩
  · have hr0 : (((q : Int) % 2) == 1) = true := by rw [show (q : Int) % 2 = 1 by omega]; rfl
    have hr2 : ((q : Int).tmod 2 == 1) = true := by rw [Int.tmod_eq_emod_of_nonneg (by omega)]; exact hr0
    have HO : Hid (locOk s = false) := by show _ = _; rw [HOK.out]; simp [hodd]
    go_enter Tryz.func21, Tryz.ntmps21
    go_wp2_with fail
    go_ret2
    exact ⟨.slice none 0 0, by rw [HO.out]; rfl, by rw [HNO.out HO.out]; exact OwnBytes.nil _ _ _, TurnIn.refl _⟩

end Go.Proofs.YtblfobbeojdihaaGreatDoor

/- ShareSecret: the program's and the model's. -/
namespace G294
open Go Go.RowKit
theorem shaOk_rnd {l : List UInt8} {n : Int} (h : ¬ l.length ≤ 8) : shaOk l n = false := by simp [shaOk, h]
theorem shaOk_n {l : List UInt8} {n : Int} (h : ¬ (1 ≤ n ∧ n ≤ 20)) : shaOk l n = false := by
  unfold shaOk
  rw [decide_eq_false h, Bool.and_false]
theorem shaOk_yes {l : List UInt8} {n : Int} (h : l.length ≤ 8) (h1 : 1 ≤ n) (h2 : n ≤ 20) : shaOk l n = true := by simp [shaOk, h, h1, h2]
theorem byte_int (k : Nat) (h : k < 256) : ((UInt8.ofNat k).toNat : Int) = (k : Int) := by rw [UInt8.toNat_ofNat']; omega
theorem srs_one (x y : UInt8) : srs [(x, y)] = [.int .u8 (x.toNat : Int), .int .u8 (y.toNat : Int)] := rfl
end G294
namespace Go.Proofs.YtblfobbeojdihaaGreatDoor
open Go.RowKit G294

end Go.Proofs.YtblfobbeojdihaaGreatDoor

/- Contracts of the model's cursor: what it draws is some number; only its own block is written (without bytes). -/
namespace Go.Proofs.YtblfobbeojdihaaGreatDoor
open Go.RowKit G294

/-- the cursor at block g: its code lies below g, it has moved at most n times -/
def CurAt (w : World) (g : Nat) (cv : Value) (n : Nat) : Prop :=
  ∃ (at_ : Nat) (seed : Int) (l : List UInt8) (A : Option Addr) (c : Nat), w.heap[g]? = some (.cells #[cv, .int .i64 at_, .int .u64 seed] 40 (0, 0)) ∧ at_ ≤ n ∧
    cv = .slice A l.length c ∧ l.length ≤ c ∧ c ≤ maxLen ∧ (0 < l.length → ∃ b off, A = some ⟨b, off, none⟩ ∧ b < g ∧ ∀ i u, (bys l)[i]? = some u → w.cell? ⟨b, off + i, none⟩ = some u)

/-- a number in a range is drawn -/
def Draws (w : World) (g : Nat) (cv : Value) (n : Nat) (lo hi : Int) (e : Ending) (w' : World) : Prop := ∃ r : Int, e = .returned (.int .i64 r) ∧ lo ≤ r ∧ r ≤ hi ∧ CurAt w' g cv n ∧ TurnIn g (g + 1) w w'

theorem draws_end {w : World} {g n at_ c : Nat} {seed s r : Int} {l : List UInt8} {A : Option Addr} (q q' : Nat)
    (hg : w.heap[g]? = some (.cells #[.slice A l.length c, .int .i64 at_, .int .u64 seed] 40 (0, 0))) (hat : at_ ≤ n) (hlc : l.length ≤ c) (hcm : c ≤ maxLen)
    (hx : 0 < l.length → ∃ b off, A = some ⟨b, off, none⟩ ∧ b < g ∧ ∀ i u, (bys l)[i]? = some u → w.cell? ⟨b, off + i, none⟩ = some u) (h0 : 0 ≤ r) (h1 : r ≤ 255) :
    Draws w g (.slice A l.length c) (n + 1) 0 255 (.returned (.int .i64 r)) ((((w.drewN q).setCell ⟨g, 1, none⟩ (.int .i64 ((at_ : Int) + 1))).setCell ⟨g, 2, none⟩ (.int .u64 s)).drewN q') := by
  have e1 : ((((w.drewN q).setCell ⟨g, 1, none⟩ (.int .i64 ((at_ : Int) + 1))).setCell ⟨g, 2, none⟩ (.int .u64 s)).drewN q').heap[g]? = some (.cells #[.slice A l.length c, .int .i64 ((at_ + 1 : Nat) : Int), .int .u64 s] 40 (0, 0)) := by
    have h2 : (w.drewN q).heap[g]? = some (.cells #[.slice A l.length c, .int .i64 at_, .int .u64 seed] 40 (0, 0)) := hg
    have h3 := heap_setCell_same (w.drewN q) g 1 _ _ (.int .i64 ((at_ : Int) + 1)) h2
    have h4 := heap_setCell_same _ g 2 _ _ (.int .u64 s) h3
    exact h4.trans (by simp)
  have hblk : ∀ k, k ≠ g → ((((w.drewN q).setCell ⟨g, 1, none⟩ (.int .i64 ((at_ : Int) + 1))).setCell ⟨g, 2, none⟩ (.int .u64 s)).drewN q').heap[k]? = w.heap[k]? := fun k hk => by
    have h3 := heap_setCell_other (w.drewN q) ⟨g, 1, none⟩ k (.int .i64 ((at_ : Int) + 1)) hk
    have h4 := heap_setCell_other ((w.drewN q).setCell ⟨g, 1, none⟩ (.int .i64 ((at_ : Int) + 1))) ⟨g, 2, none⟩ k (.int .u64 s) hk
    exact h4.trans h3
  refine ⟨r, rfl, h0, h1, ⟨at_ + 1, s, l, A, c, e1, by omega, rfl, hlc, hcm, fun hp => ?_⟩, ⟨rfl, rfl, rfl, ?_, fun k hk hd => hblk k (by omega)⟩⟩
  · obtain ⟨b, off, rfl, hb, hc⟩ := hx hp
    exact ⟨b, off, rfl, hb, fun i u hu => (World.cell?_of_block (a := ⟨b, off + i, none⟩) (hblk b (by omega))).trans (hc i u hu)⟩
  · simp [World.setCell, World.drewN]
theorem wrap64_u8 (x : UInt8) : wrap64 (x.toNat : Int) = (x.toNat : Int) := by
  have := x.toNat_lt
  unfold wrap64; omega
theorem and255 (x : Int) : 0 ≤ wrap64 (bits BinOp.and IntKind.u64 x 255) ∧ wrap64 (bits BinOp.and IntKind.u64 x 255) ≤ 255 := by
  have h : 0 ≤ bits BinOp.and IntKind.u64 x 255 ∧ bits BinOp.and IntKind.u64 x 255 ≤ 255 := by
    show 0 ≤ IntKind.u64.wrap ((BitVec.ofInt 64 x &&& BitVec.ofInt 64 255).toNat : Int) ∧ IntKind.u64.wrap ((BitVec.ofInt 64 x &&& BitVec.ofInt 64 255).toNat : Int) ≤ 255
    have e : (BitVec.ofInt 64 255).toNat = 255 := by decide
    have hle : (BitVec.ofInt 64 x &&& BitVec.ofInt 64 255).toNat ≤ 255 := by
      rw [BitVec.toNat_and, e]; exact Nat.and_le_right
    generalize (BitVec.ofInt 64 x &&& BitVec.ofInt 64 255).toNat = y at *
    have : IntKind.u64.wrap (y : Int) = y := by simp [IntKind.wrap, IntKind.bits, IntKind.signed]; omega
    omega
  generalize bits BinOp.and IntKind.u64 x 255 = y at *
  unfold wrap64; omega

set_option maxHeartbeats 1000000 in
theorem next_any (g : Nat) (cv : Value) (n : Nat) (w : World) (hc : CurAt w g cv n) (hn : n ≤ 1000000000000) :
    Calls Tryz.prog 58 #[.pointer (some ⟨g, 0, none⟩)] w (Draws w g cv (n + 1) 0 255) := by
  obtain ⟨at_, seed, l, A, c, hg, hat, rfl, hlc, hcm, hx⟩ := hc
  unfold maxLen at hcm
  have hc0 : w.cell? ⟨g, 0, none⟩ = some (.slice A l.length c) := by rw [cell_of_row w g 0 _ _ _ hg]; rfl
  have hc1 : w.cell? ⟨g, 1, none⟩ = some (.int .i64 at_) := by rw [cell_of_row w g 1 _ _ _ hg]; rfl
  have hc2 : w.cell? ⟨g, 2, none⟩ = some (.int .u64 seed) := by rw [cell_of_row w g 2 _ _ _ hg]; rfl
  have hf1 : w.frozen? ⟨g, 1, none⟩ = false := frozen_of_row w g 1 _ _ hg
  have hf2 : w.frozen? ⟨g, 2, none⟩ = false := frozen_of_row w g 2 _ _ hg
  have HG := Lib.hid hg
  clear hg
  by_cases hlt : at_ < l.length
  · obtain ⟨b, off, rfl, hbl, hcell⟩ := hx (by omega)
    have hcx := hcell at_ _ (bys_get l at_ hlt)
    have hd : decide ((at_ : Int) < (l.length : Int)) = true := by simp; omega
    have hli : (at_ : Int) < (l.length : Int) := by omega
    have HX := Lib.hid hcell
    clear hcell hx
    go_enter Tryz.func58, Tryz.ntmps58
    go_wp2_with fail
    go_quiet (fail)
    go_wp2_with fail
    go_quiet (fail)
    go_wp2_with fail
    go_quiet (fail)
    go_wp2_with fail
    go_ret
    have hu := l[at_].toNat_lt
    exact draws_end _ _ HG.out hat hlc hcm (fun _ => ⟨b, off, rfl, hbl, HX.out⟩) (by rw [wrap64_u8]; omega) (by rw [wrap64_u8]; omega)
  · have HX := Lib.hid hx
    clear hx
    have hd : decide ((at_ : Int) < (l.length : Int)) = false := by simp; omega
    go_enter Tryz.func58, Tryz.ntmps58
    go_wp2_with fail
    go_quiet (fail)
    go_wp2_with fail
    go_quiet (fail)
    go_wp2_with fail
    go_ret
    exact draws_end _ _ HG.out hat hlc hcm HX.out (and255 _).1 (and255 _).2

theorem CurAt.more {w : World} {g : Nat} {cv : Value} {n m : Nat} (h : CurAt w g cv n) (hm : n ≤ m) : CurAt w g cv m := by
  obtain ⟨at_, seed, l, A, c, h1, h2, h3⟩ := h
  exact ⟨at_, seed, l, A, c, h1, by omega, h3⟩
theorem CurAt.lt {w : World} {g : Nat} {cv : Value} {n : Nat} (h : CurAt w g cv n) : g < w.heap.size := by
  obtain ⟨at_, seed, l, A, c, h1, _⟩ := h
  exact (Array.getElem?_eq_some_iff.1 h1).1
theorem CurAt.keep {w w' : World} {g : Nat} {cv : Value} {n a b : Nat} (h : CurAt w g cv n) (t : TurnIn a b w w') (hd : g < a ∨ b ≤ 0) : CurAt w' g cv n := by
  have hl := h.lt
  obtain ⟨at_, seed, l, A, c, h1, h2, h3, h4, h5, h6⟩ := h
  refine ⟨at_, seed, l, A, c, (t.block g hl (by omega)).trans h1, h2, h3, h4, h5, fun hp => ?_⟩
  obtain ⟨b', off, rfl, hb, hc⟩ := h6 hp
  exact ⟨b', off, rfl, hb, fun i u hu => (World.cell?_of_block (a := ⟨b', off + i, none⟩) (t.block b' (by omega) (by omega))).trans (hc i u hu)⟩

/-- what pick may answer at most -/
def pickHi (n : Int) : Int := if n ≤ 1 then 0 else n - 1

set_option maxHeartbeats 1000000 in
theorem pick_any (g : Nat) (cv : Value) (m : Nat) (n : Int) (w : World) (hc : CurAt w g cv m) (hm : m ≤ 100000000000) :
    Calls Tryz.prog 24 #[.pointer (some ⟨g, 0, none⟩), .int .i64 n] w (Draws w g cv (m + 2) 0 (pickHi n)) := by
  by_cases h1 : n ≤ 1
  · have HP : Hid (pickHi n = 0) := if_pos h1
    go_enter Tryz.func24, Tryz.ntmps24
    go_wp2_with fail
    go_ret
    exact ⟨0, rfl, by omega, by rw [HP.out]; omega, hc.more (by omega), ⟨rfl, rfl, rfl, Nat.le_refl _, fun _ _ _ => rfl⟩⟩
  · have HP : Hid (pickHi n = n - 1) := if_neg h1
    by_cases h2 : 200 < n
    · go_enter Tryz.func24, Tryz.ntmps24
      go_wp2_with fail
      refine (next_any g cv m _ hc (by omega)).mono ?_
      rintro e w1 ⟨x, rfl, x0, x1, hc1, k1⟩
      go_wp2_with fail
      refine (next_any g cv (m + 1) _ hc1 (by omega)).mono ?_
      rintro e w2 ⟨y, rfl, y0, y1, hc2, k2⟩
      have hn0 : (n == 0) = false := by simp; omega
      have HR := Lib.hid (Int.emod_nonneg (x * 256 + y) (show n ≠ 0 by omega))
      have HL := Lib.hid (Int.emod_lt_of_pos (x * 256 + y) (show 0 < n by omega))
      go_wp2_with fail
      go_ret
      refine ⟨(x * 256 + y) % n, rfl, HR.out, by rw [HP.out]; have := HL.out; omega, hc2, turn_trans k1 k2 (by omega)⟩
    · go_enter Tryz.func24, Tryz.ntmps24
      go_wp2_with fail
      refine (next_any g cv m _ hc (by omega)).mono ?_
      rintro e w1 ⟨x, rfl, x0, x1, hc1, k1⟩
      have hn0 : (n == 0) = false := by simp; omega
      have HR := Lib.hid (Int.emod_nonneg x (show n ≠ 0 by omega))
      have HL := Lib.hid (Int.emod_lt_of_pos x (show 0 < n by omega))
      go_wp2_with fail
      go_ret
      exact ⟨x % n, rfl, HR.out, by rw [HP.out]; have := HL.out; omega, hc1.more (by omega), k1⟩

/-- a bool is drawn -/
def DrawsB (w : World) (g : Nat) (cv : Value) (n : Nat) (e : Ending) (w' : World) : Prop := ∃ b : Bool, e = .returned (.bool b) ∧ CurAt w' g cv n ∧ TurnIn g (g + 1) w w'

set_option maxHeartbeats 400000 in
theorem one_any (g : Nat) (cv : Value) (m : Nat) (n : Int) (w : World) (hc : CurAt w g cv m) (hm : m ≤ 100000000000) :
    Calls Tryz.prog 53 #[.pointer (some ⟨g, 0, none⟩), .int .i64 n] w (DrawsB w g cv (m + 2)) := by
  go_enter Tryz.func53, Tryz.ntmps53
  go_wp2_with fail
  refine (pick_any g cv m n _ hc hm).mono ?_
  rintro e w1 ⟨x, rfl, x0, x1, hc1, k1⟩
  go_wp2_with fail
  go_ret
  exact ⟨_, rfl, hc1, k1⟩

/-- one of some numbers is drawn -/
def DrawsOf (w : World) (g : Nat) (cv : Value) (n : Nat) (l : List Int) (e : Ending) (w' : World) : Prop := ∃ r : Int, e = .returned (.int .i64 r) ∧ r ∈ l ∧ CurAt w' g cv n ∧ TurnIn g (g + 1) w w'

set_option maxHeartbeats 400000 in
theorem among_any (g : Nat) (cv : Value) (m : Nat) (b c : Nat) (l : List Int) (w : World) (hc : CurAt w g cv m) (hm : m ≤ 100000000000) (hp : 0 < l.length) (hl : l.length ≤ 1000) (hlc : l.length ≤ c) (hc' : c ≤ 1000) (hbg : b ≠ g) (hbl : b < w.heap.size)
    (hcell : ∀ i u, (ints l)[i]? = some u → w.cell? ⟨b, i, none⟩ = some u) :
    Calls Tryz.prog 23 #[.pointer (some ⟨g, 0, none⟩), .slice (some ⟨b, 0, none⟩) l.length c] w (DrawsOf w g cv (m + 2) l) := by
  have HC := Lib.hid hcell
  clear hcell
  generalize hnn : l.length = n at *
  have HN := Lib.hid hnn
  clear hnn
  go_enter Tryz.func23, Tryz.ntmps23
  go_wp2_with fail
  refine (pick_any g cv m n _ hc hm).mono ?_
  rintro e w1 ⟨x, rfl, x0, x1, hc1, k1⟩
  have hxn : x < n := by
    unfold pickHi at x1
    split at x1 <;> omega
  clear x1
  obtain ⟨i, rfl⟩ := Int.eq_ofNat_of_zero_le x0
  have hi : i < l.length := by rw [HN.out]; omega
  have hcx : w1.cell? ⟨b, i, none⟩ = some (.int .i64 l[i]) :=
    (World.cell?_of_block (a := ⟨b, i, none⟩) (k1.block b hbl (by omega))).trans (HC.out i _ (by simp [ints, hi]))
  go_wp2_with fail
  go_ret
  exact ⟨l[i], rfl, List.getElem_mem hi, hc1, k1⟩

/-- a new cursor -/
theorem cur_new {w : World} {v : Value} {l : List UInt8} (hv : Seen w v (bys l)) : CurAt (w.alloc (.cells #[v, .int .i64 0, .int .u64 0] 40)) w.heap.size v 0 := by
  obtain ⟨A, c, rfl, hlc, hcm, hx⟩ := hv
  rw [bys_length] at hlc hx ⊢
  refine ⟨0, 0, l, A, c, heap_alloc_new w _, Nat.le_refl _, rfl, hlc, hcm, fun hp => ?_⟩
  obtain ⟨b, off, rfl, hb, hc⟩ := hx hp
  exact ⟨b, off, rfl, hb, fun i u hu => (World.cell?_alloc_lt w _ ⟨b, off + i, none⟩ hb).trans (hc i u hu)⟩

theorem turn_own {B : Nat} {w w' : World} {e : TypeId} {size n : Nat} {v : Value} {xs : List Value} (hown : w.ownsRow B e size v n xs) (hg : w.grownBy w' v.ownBlock) : TurnIn B w.heap.size w w' :=
  TurnIn.of_grown hg fun g h => hown.lt g h

end Go.Proofs.YtblfobbeojdihaaGreatDoor

/- Contracts of the model's cursor: what it draws is some number; only its own block is written. -/
namespace Go.Proofs.YtblfobbeojdihaaGreatDoor
open Go.RowKit G294

/-- a byte is drawn -/
def DrawsU (w : World) (g : Nat) (cv : Value) (n : Nat) (e : Ending) (w' : World) : Prop := ∃ x : UInt8, e = .returned (.int .u8 (x.toNat : Int)) ∧ CurAt w' g cv n ∧ TurnIn g (g + 1) w w'
theorem to_byte (r : Int) : r % 256 = ((UInt8.ofNat (r % 256).toNat).toNat : Int) := by
  rw [UInt8.toNat_ofNat']; omega

set_option maxHeartbeats 1000000 in
theorem byte_any (g : Nat) (cv : Value) (m : Nat) (w : World) (hc : CurAt w g cv m) (hm : m ≤ 10000000000) :
    Calls Tryz.prog 57 #[.pointer (some ⟨g, 0, none⟩)] w (DrawsU w g cv (m + 4)) := by
  go_enter Tryz.func57, Tryz.ntmps57
  go_wp2_with fail
  refine (one_any g cv m 5 _ hc (by omega)).mono ?_
  rintro e w1 ⟨b, rfl, hc1, k1⟩
  have hg1 := hc1.lt
  cases b
  · go_wp2_with fail
    refine (pick_any g cv (m + 2) 256 _ hc1 (by omega)).mono ?_
    rintro e w2 ⟨r, rfl, r0, r1, hc2, k2⟩
    clear r1
    go_wp2_with fail
    go_ret
    exact ⟨_, by rw [← to_byte r]; rfl, hc2, turn_trans k1 k2 (by omega)⟩
  · go_wp2_with fail
    have k2 := turn_alloc w1 (.cells #[.int .i64 0, .int .i64 1, .int .i64 2, .int .i64 3, .int .i64 255, .int .i64 27] 3)
    refine (among_any g cv (m + 2) w1.heap.size 6 [0, 1, 2, 3, 255, 27] _ (hc1.keep k2 (by omega)) (by omega) (by simp) (by simp) (by simp) (by omega) (by omega) (by simp) ?_).mono ?_
    · intro i u hu
      rw [cell_of_row _ w1.heap.size i _ _ _ (heap_alloc_new w1 _)]
      simpa [ints] using hu
    rintro e w3 ⟨r, rfl, hr, hc3, k3⟩
    clear hr
    go_wp2_with fail
    go_ret
    exact ⟨_, by rw [← to_byte r]; rfl, hc3, turn_trans (turn_trans k1 k2 (by omega)) k3 (by omega)⟩

end Go.Proofs.YtblfobbeojdihaaGreatDoor

/- Drawn vectors. -/
namespace Go.Proofs.YtblfobbeojdihaaGreatDoor
open Go.RowKit G294

/-- some bytes of a given number are drawn into a new row -/
def DrawsBytes (w : World) (g : Nat) (cv : Value) (m n : Nat) (e : Ending) (w' : World) : Prop :=
  ∃ (v : Value) (l : List UInt8), e = .returned v ∧ l.length = n ∧ w'.ownsRow w.heap.size 5 1 v l.length (bys l) ∧ CurAt w' g cv m ∧ TurnIn g (g + 1) w w'

set_option maxHeartbeats 1000000 in
theorem vector_any (g : Nat) (cv : Value) (m n : Nat) (w : World) (hc : CurAt w g cv m) (hm : m + 4 * n ≤ 1000000000) :
    Calls Tryz.prog 22 #[.pointer (some ⟨g, 0, none⟩), .int .i64 n] w (DrawsBytes w g cv (m + 4 * n) n) := by
  have hgw := hc.lt
  go_enter Tryz.func22, Tryz.ntmps22
  go_wp2_with fail
  go_loopw [1, 5] (fun y o wr => ∃ (k : Nat) (l : List UInt8), k ≤ n ∧ y = .int .i64 k ∧ Hid (l.length + k = n) ∧ wr.ownsRow w.heap.size 5 1 o l.length (bys l) ∧ CurAt wr g cv (m + 4 * (n - k)) ∧ TurnIn g (g + 1) w wr)
    (fun y _ _ => (intOf y).toNat)
  case atStart => exact ⟨n, [], Nat.le_refl _, rfl, by show 0 + n = n; omega, World.ownsRow_nil _ _ _ _, hc.more (by omega), ⟨rfl, rfl, rfl, Nat.le_refl _, fun _ _ _ => rfl⟩⟩
  case round =>
    obtain ⟨k, l, hk, rfl, HL, hown, hcr, kr⟩ := hrel
    have hsr := kr.size
    by_cases hlt : 0 < k
    · go_wp2_with fail
      refine (byte_any g cv _ _ hcr (by omega)).mono ?_
      rintro e w1 ⟨x, rfl, hc1, k1⟩
      have hs1 := k1.size
      have hown1 : w1.ownsRow w.heap.size 5 1 u5 l.length (bys l) := by
        refine ⟨hown.1, ?_⟩
        rcases hown.2 with hn | ⟨g', cap, cur, e1, hbg, hg', rest⟩
        · exact .inl hn
        · refine .inr ⟨g', cap, cur, e1, hbg, ?_, rest⟩
          rw [k1.block g' (Array.getElem?_eq_some_iff.1 hg').1 (by omega)]
          exact hg'
      have hll : l.length ≤ 1000000000 := by have := HL.out; omega
      go_wp2_with (at_builtin; refine wpList_append1 rfl _ _ _ rfl w.heap.size 5 _ _ Tryz.underlying22 infoByte rfl _ l.length _ rfl (hown1.alloc _) w1.heap.size (.int .u8 (x.toNat : Int)) rfl ?c1 rfl ?c2 ?c3 ?c4 ?_)
      case c1 => simp
      case c2 => exact hll
      case c3 => omega
      case c4 => simp; omega
      intro v' w2 hown2 hg2 _
      have ka := turn_alloc w1 (.cells #[.int .u8 (x.toNat : Int)] 5)
      have ko := turn_own (hown1.alloc (.cells #[.int .u8 (x.toNat : Int)] 5)) hg2
      have hc2 := (hc1.keep ka (by omega)).keep ko (by omega)
      have k2 : TurnIn g (g + 1) w w2 := turn_trans (turn_trans (turn_trans kr k1 (by omega)) ka (by omega)) ko (by omega)
      have hown3 : w2.ownsRow w.heap.size 5 1 v' (l ++ [x]).length (bys (l ++ [x])) := by
        rw [bys_append, List.length_append]; exact hown2
      clear hown2 hg2 hown1 ka ko hc1 k1 hown hcr kr
      go_wp2_with fail
      go_roundw
      case rel => exact ⟨k - 1, l ++ [x], by omega, by go_num, by show _ = _; have := HL.out; rw [List.length_append, List.length_singleton]; omega, hown3, hc2.more (by omega), k2⟩
      case measure => simp [intOf]; omega
    · obtain rfl : k = 0 := by omega
      go_wp2_with fail
      go_ret
      exact ⟨_, l, rfl, HL.out, hown, hcr.more (by omega), kr⟩

/-- two drawn vectors -/
def RetVecs (w : World) (e : Ending) (w' : World) : Prop :=
  ∃ (v u : Value) (l m : List UInt8), e = .returned (.tuple #[v, u]) ∧ Seen w' v (bys l) ∧ Seen w' u (bys m) ∧ l.length ≤ 100 ∧ m.length ≤ 100 ∧ TurnIn 0 0 w w'

end Go.Proofs.YtblfobbeojdihaaGreatDoor

/- The cursor's shares. -/
namespace G294
open Go Go.RowKit
theorem srs_setY (l : List Sr) (i : Nat) (y : UInt8) (h : i < l.length) : (srs l).set (i * 2 + 1) (.int .u8 (y.toNat : Int)) = srs (l.set i (l[i].1, y)) := by
  rw [← srs_set l i (l[i].1, y) h]
  congr 1
  apply List.ext_getElem?
  intro j
  by_cases e : i * 2 = j
  · subst e; rw [List.getElem?_set_self (by simp; omega), srs_no l i h]
  · rw [List.getElem?_set_ne e]
theorem srs_setX (l : List Sr) (x : UInt8) (h : 0 < l.length) : (srs l).set 0 (.int .u8 (x.toNat : Int)) = srs (l.set 0 (x, l[0].2)) := by
  cases l with
  | nil => simp at h
  | cons a l => rfl
theorem own_far {w w' : World} {lo a b n size : Nat} {E : TypeId} {v : Value} {xs : List Value} (h : w.ownsRow lo E size v n xs) (t : TurnIn a b w w') (d : b ≤ lo) : w'.ownsRow lo E size v n xs := owns_turnR h (fun g e => (h.lt g e).2) t (.inr d)
/-- shares that lie in other blocks -/
theorem SeenR.far {w w' w0 : World} {a b lo hi : Nat} {E : TypeId} {v : Value} {l : List Sr} (h : SeenR w v l) (t : TurnIn a b w w') (ho : OwnSr E w0 lo hi v l) (d : b ≤ lo) : SeenR w' v l := by
  obtain ⟨A, c, rfl, h1, h2, h3⟩ := h
  refine ⟨A, c, rfl, h1, h2, fun hn => ?_⟩
  obtain ⟨bb, off, rfl, hb', hc⟩ := h3 hn
  have hlo : lo ≤ bb := by
    rcases ho.1.2 with ⟨e, _⟩ | ⟨g, cap, cur, e, hbg, _⟩
    · simp at e
    · simp only [Value.slice.injEq, Option.some.injEq, Addr.mk.injEq] at e
      omega
  have e := t.block bb hb' (by omega)
  exact ⟨bb, off, rfl, Nat.lt_of_lt_of_le hb' t.size, fun i s hi => ⟨(World.cell?_of_block (a := ⟨bb, off + i * 2, none⟩) e).trans (hc i s hi).1, (World.cell?_of_block (a := ⟨bb, off + i * 2 + 1, none⟩) e).trans (hc i s hi).2⟩⟩
theorem SeenR.far2 {w w' w0 : World} {lo hi D : Nat} {row : Option Nat} {E : TypeId} {v : Value} {l : List Sr} (h : SeenR w v l) (hg : w.grownBy w' row) (ho : OwnSr E w0 lo hi v l) (hr : ∀ g, row = some g → D ≤ g) (hD : hi ≤ D := by omega) : SeenR w' v l := by
  obtain ⟨A, c, rfl, h1, h2, h3⟩ := h
  refine ⟨A, c, rfl, h1, h2, fun hn => ?_⟩
  obtain ⟨bb, off, rfl, hb', hc⟩ := h3 hn
  have hhi : bb < hi := ho.2.2 bb rfl
  have e := hg.block bb hb' (fun e => by have := hr bb e.symm; omega)
  exact ⟨bb, off, rfl, Nat.lt_of_lt_of_le hb' hg.size, fun i s hi => ⟨(World.cell?_of_block (a := ⟨bb, off + i * 2, none⟩) e).trans (hc i s hi).1, (World.cell?_of_block (a := ⟨bb, off + i * 2 + 1, none⟩) e).trans (hc i s hi).2⟩⟩
end G294
namespace Go.Proofs.YtblfobbeojdihaaGreatDoor
open Go.RowKit G294

theorem pickHi_lt {L : Nat} (h : 1 ≤ L) : pickHi (L : Int) ≤ (L : Int) - 1 := by unfold pickHi; split <;> omega

end Go.Proofs.YtblfobbeojdihaaGreatDoor

/- Draws of shares, and the laws' sameShares. -/
namespace G294
open Go Go.RowKit
theorem OwnSr.wid {w : World} {E : TypeId} {lo lo' hi : Nat} {v : Value} {l : List Sr} (h : OwnSr E w lo hi v l) (h1 : lo' ≤ lo) : OwnSr E w lo' w.heap.size v l := ⟨own_base h.1 h1, Nat.le_refl _, fun g e => (h.1.lt g e).2⟩
theorem OwnBytes.wid {w : World} {E : TypeId} {lo lo' hi : Nat} {v : Value} {l : List UInt8} (h : OwnBytes E w lo hi v l) (h1 : lo' ≤ lo) : OwnBytes E w lo' w.heap.size v l := ⟨own_base h.1 h1, Nat.le_refl _, fun g e => (h.1.lt g e).2⟩
end G294
namespace Go.Proofs.YtblfobbeojdihaaGreatDoor
open Go.RowKit G294

end Go.Proofs.YtblfobbeojdihaaGreatDoor
