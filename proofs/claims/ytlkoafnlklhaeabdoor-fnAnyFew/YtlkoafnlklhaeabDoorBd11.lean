/- Joined texts: SpecPart, Comb, SpecRows, Iter, EncMath, SpecEncode, SpecDecode. -/
import Derived.Test.YtlkoafnlklhaeabDoorBd05
import Derived.Test.YtlkoafnlklhaeabDoorBd04
import Derived.Test.YtlkoafnlklhaeabDoorBd03
import Derived.Test.YtlkoafnlklhaeabDoorBd10
import Derived.Test.YtlkoafnlklhaeabDoorBd02
import Derived.Test.YtlkoafnlklhaeabDoorBd08
import Derived.StillTailTactics
import Derived.RangeFuncNested
import Derived.RangeFuncBound
import Derived.RangeFuncCalls
import Derived.RangeFuncLeaves
import Derived.Shelf.Abstract
import Derived.Shelf.RegionOpen
import Derived.WalkKit
import Derived.OwnWalkIn
import Derived.TacticsInMore
import Derived.LoopNIn
import Derived.LoopIn
import Derived.Test.YtlkoafnlklhaeabDoorBd06
import Derived.Test.YtlkoafnlklhaeabDoorBd07
set_option linter.unusedSimpArgs false
set_option linter.unusedVariables false
/- The model's PartOf. -/
namespace Go.Proofs.YtlkoafnlklhaeabDoor
open Go.RowKit G294

set_option maxRecDepth 100000 in
set_option maxHeartbeats 4000000 in
theorem l2Part_own (r c : Nat) (F : Ents) (l m : List Int) (v u x : Value) (w : World) (hs : SeenM w v (mkM r c F)) (hl : Seen w u (ints l)) (hm : Seen w x (ints m))
    (hlo : ∀ i, i < l.length → 0 ≤ l.getD i 0 ∧ l.getD i 0 < r) (hmo : ∀ i, i < m.length → 0 ≤ m.getD i 0 ∧ m.getD i 0 < c) (hn : l.length ≤ 1000) (hn2 : m.length ≤ 1000) :
    Calls Tryd.prog 70 #[.agg #[v], u, x] w (RetMat 5 22 w (mkM l.length m.length fun i j => F (l.getD i 0).toNat (m.getD j 0).toNat)) := by
  have k1 : TurnIn 0 0 w (w.alloc (.cells #[v] 52)) := turn_alloc _ _
  have k3 : TurnIn 0 0 w (((w.alloc (.cells #[v] 52)).alloc (.cells #[.slice none 0 0] 52)).alloc (.cells #[.slice none 0 0] 52)) := turn_trans (turn_trans k1 (turn_alloc _ _) (by omega)) (turn_alloc _ _) (by omega)
  have z3 : (((w.alloc (.cells #[v] 52)).alloc (.cells #[.slice none 0 0] 52)).alloc (.cells #[.slice none 0 0] 52)).heap.size = w.heap.size + 3 := by simp
  have q0 : (((w.alloc (.cells #[v] 52)).alloc (.cells #[.slice none 0 0] 52)).alloc (.cells #[.slice none 0 0] 52)).cell? ⟨w.heap.size, 0, none⟩ = some v := cell_turn (turn_trans (turn_alloc _ _) (turn_alloc _ _) (by omega)) (show (w.alloc (.cells #[v] 52)).cell? ⟨w.heap.size, 0, none⟩ = some v by simp) (by simp)
  have q1 : (((w.alloc (.cells #[v] 52)).alloc (.cells #[.slice none 0 0] 52)).alloc (.cells #[.slice none 0 0] 52)).cell? ⟨w.heap.size + 1, 0, none⟩ = some (.slice none 0 0) := alloc_mid_cell _ _ _ _ _
  have q1f : (((w.alloc (.cells #[v] 52)).alloc (.cells #[.slice none 0 0] 52)).alloc (.cells #[.slice none 0 0] 52)).frozen? ⟨w.heap.size + 1, 0, none⟩ = false := alloc_mid_frozen _ _ _ _ _
  have q2 : (((w.alloc (.cells #[v] 52)).alloc (.cells #[.slice none 0 0] 52)).alloc (.cells #[.slice none 0 0] 52)).cell? ⟨w.heap.size + 1 + 1, 0, none⟩ = some (.slice none 0 0) := alloc_last_cell _ _ _ _ _
  have q2f : (((w.alloc (.cells #[v] 52)).alloc (.cells #[.slice none 0 0] 52)).alloc (.cells #[.slice none 0 0] 52)).frozen? ⟨w.heap.size + 1 + 1, 0, none⟩ = false := alloc_last_frozen _ _ _ _ _
  have hM0 : OwnM 5 22 (((w.alloc (.cells #[v] 52)).alloc (.cells #[.slice none 0 0] 52)).alloc (.cells #[.slice none 0 0] 52)) (w.heap.size + 3) (((w.alloc (.cells #[v] 52)).alloc (.cells #[.slice none 0 0] 52)).alloc (.cells #[.slice none 0 0] 52)).heap.size (.slice none 0 0) (mkM 0 m.length fun i j => F (l.getD i 0).toNat (m.getD j 0).toNat) [] := OwnM.nil _ _ _ _
  obtain ⟨A, cp, hvv, _, _⟩ := hs.len
  obtain ⟨A1, c1, hu⟩ := hl.len
  obtain ⟨A2, c2, hx⟩ := hm.len
  rw [ints_length] at hu hx
  rw [mkM_length] at hvv
  subst hu hx hvv
  have HS := Lib.hid hs
  have HL := Lib.hid hl
  have HM := Lib.hid hm
  have HLO := Lib.hid hlo
  have HMO := Lib.hid hmo
  have K3 := Lib.hid k3
  have HM0 := Lib.hid hM0
  clear hs hl hm hlo hmo k1 k3 hM0
  obtain ⟨n, hnn⟩ : ∃ n, n = l.length := ⟨_, rfl⟩
  obtain ⟨n2, hnn2⟩ : ∃ n, n = m.length := ⟨_, rfl⟩
  have HN := Lib.hid hnn
  have HN2 := Lib.hid hnn2
  rw [← hnn] at hn HL ⊢
  rw [← hnn2] at hn2 HM HM0 ⊢
  clear hnn hnn2
  go_enter Tryd.func70, Tryd.ntmps70
  go_wp2_with fail
  generalize (((w.alloc (.cells #[.slice A r cp] 52)).alloc (.cells #[.slice none 0 0] 52)).alloc (.cells #[.slice none 0 0] 52)) = w3 at *
  go_loopw [16] (fun i wr => ∃ (k : Nat) (o : Value) (vs : List Value), k ≤ n ∧ i = .int .i64 k ∧ Hid (OwnM 5 22 wr (w.heap.size + 3) wr.heap.size o (mkM k n2 fun i j => F (l.getD i 0).toNat (m.getD j 0).toNat) vs) ∧
      wr.cell? ⟨w.heap.size + 1 + 1, 0, none⟩ = some o ∧ wr.frozen? ⟨w.heap.size + 1 + 1, 0, none⟩ = false ∧ wr.cell? ⟨w.heap.size + 1, 0, none⟩ = some (.slice none 0 0) ∧ wr.frozen? ⟨w.heap.size + 1, 0, none⟩ = false ∧ wr.cell? ⟨w.heap.size, 0, none⟩ = some (.slice A r cp) ∧ Hid (Below w.heap.size w wr) ∧ w.heap.size + 3 ≤ wr.heap.size)
    (fun i _ => n - (intOf i).toNat)
  case atStart => exact ⟨0, .slice none 0 0, [], Nat.zero_le _, rfl, HM0, q2, q2f, q1, q1f, q0, Lib.hid K3.out.to_below, by omega⟩
  case round =>
    obtain ⟨k, o, vs, hk, rfl, HO, hc2, hf2, hc1, hf1, hc0, HB, hsz⟩ := hrel
    clear q0 q1 q1f q2 q2f z3
    by_cases hlt : k < n
    · have hki : (k : Int) < (n : Int) := by omega
      have hkl : k < l.length := by rw [← HN.out]; exact hlt
      obtain ⟨p, hp⟩ := Int.eq_ofNat_of_zero_le (HLO.out k hkl).1
      have hpr : p < r := by have := (HLO.out k hkl).2; omega
      have HP := Lib.hid hp
      obtain ⟨A3, c3, e3, hlc3, hcm3, hx3⟩ := HL.out.below HB.out
      rw [ints_length, ← HN.out] at e3 hlc3 hx3
      simp only [Value.slice.injEq] at e3
      obtain ⟨rfl, z9, rfl⟩ := e3
      clear z9
      obtain ⟨b3, o3, rfl, hb3, hc3⟩ := hx3 (by omega)
      have g3 := hc3 k _ (ints_get l k hkl)
      have e4 : l[k] = (p : Int) := by simp [List.getD, hkl] at hp; exact hp
      rw [e4] at g3
      unfold maxLen at hcm3
      clear hc3 hx3 e4 hp
      obtain ⟨B0, hB0⟩ : ∃ B0, B0 = wr.heap.size := ⟨_, rfl⟩
      have hB1 : B0 ≤ wr.heap.size := by omega
      have hB2 : wr.heap.size ≤ B0 := by omega
      clear hB0
      go_wp2_with fail
      go_loopw [10, 22] (fun y i wq => ∃ mm : Nat, mm ≤ n2 ∧ i = .int .i64 mm ∧ Hid (wq.ownsRow B0 5 1 y mm (bys (mkRow mm fun j => F p (m.getD j 0).toNat))) ∧ Hid (TurnIn 0 0 wr wq))
        (fun _ i _ => n2 - (intOf i).toNat)
      case atStart => exact ⟨0, Nat.zero_le _, rfl, Lib.hid (World.ownsRow_nil _ _ _ _), Lib.hid (TurnIn.refl _)⟩
      case round =>
        obtain ⟨mm, hmm, rfl, HOWN, HT⟩ := hrel
        have hst := HT.out.size
        have hBB := HT.out.base HB.out (by omega) (by omega)
        have HBB := Lib.hid hBB
        have hc0' := cell_turn HT.out hc0 (by omega)
        clear hBB
        by_cases hlm : mm < n2
        · have hmi : (mm : Int) < (n2 : Int) := by omega
          have hml : mm < m.length := by rw [← HN2.out]; exact hlm
          obtain ⟨q, hq⟩ := Int.eq_ofNat_of_zero_le (HMO.out mm hml).1
          have hqr : q < c := by have := (HMO.out mm hml).2; omega
          have HQ := Lib.hid hq
          obtain ⟨A4, c4, e5, hlc4, hcm4, hx4⟩ := HM.out.below HBB.out
          rw [ints_length, ← HN2.out] at e5 hlc4 hx4
          simp only [Value.slice.injEq] at e5
          obtain ⟨rfl, z9, rfl⟩ := e5
          clear z9
          obtain ⟨b4, o4, rfl, hb4, hc4⟩ := hx4 (by omega)
          have g4 := hc4 mm _ (ints_get m mm hml)
          have e4 : m[mm] = (q : Int) := by simp [List.getD, hml] at hq; exact hq
          rw [e4] at g4
          unfold maxLen at hcm4
          obtain ⟨bb, off, cp5, b', off', c', e6, hl5, h5, h6, h7, hl6, h8⟩ := (HS.out.below HBB.out).cellF p q hpr hqr
          simp only [Value.slice.injEq] at e6
          obtain ⟨rfl, z9, rfl⟩ := e6
          clear z9
          unfold maxLen at hl5 hl6
          have hown := HOWN.out
          have HF : Hid (F p (m.getD mm 0).toNat = F p q) := by show F p _ = F p q; rw [HQ.out]; rfl
          have hpi : (p : Int) < (r : Int) := by omega
          have hqi : (q : Int) < (c : Int) := by omega
          clear hc4 hx4 e4 hq
          go_wp2_with (at_builtin; refine wpList_append1 rfl _ _ _ rfl _ 5 _ _ Tryd.underlying22 infoByte rfl _ mm _ rfl (hown.alloc _) wr.heap.size (.int .u8 ((F p q).toNat : Int)) rfl ?c1 rfl ?c2 ?c3 ?c4 ?_)
          case c1 => simp
          case c2 => omega
          case c3 => omega
          case c4 => simp; omega
          intro v' w' hown' hg' _
          have hT2 := turn_trans (turn_trans HT.out (turn_alloc wr (.cells #[.int .u8 ((F p q).toNat : Int)] 5)) (by omega)) (TurnIn.of_grown hg' (fun g e => (hown.alloc (.cells #[.int .u8 ((F p q).toNat : Int)] 5)).lt g e)) (by omega)
          have hown2 : w'.ownsRow B0 5 1 v' (mm + 1) (bys (mkRow (mm + 1) fun j => F p (m.getD j 0).toNat)) := by
            have e : (mkRow (mm + 1) fun j => F p (m.getD j 0).toNat) = (mkRow mm fun j => F p (m.getD j 0).toNat) ++ [F p q] := by
              rw [← HF.out]; simp [mkRow, List.range_succ]
            rw [e, bys_append]; exact hown'
          have HT2 := Lib.hid hT2
          have HOWN2 := Lib.hid hown2
          clear hown' hg' hown2 hT2 hown
          go_wp2_with fail
          go_roundw
          case rel => exact ⟨mm + 1, by omega, by go_num, HOWN2, HT2⟩
          case measure => simp [intOf]; omega
        · obtain rfl : mm = n2 := by omega
          have hmi : ¬ (mm : Int) < (mm : Int) := by omega
          obtain ⟨A5, n5, c5, rfl⟩ := own_isSlice HOWN.out
          obtain ⟨A6, n6, c6, rfl⟩ := HO.out.isSlice
          have hrow : wr.ownsRow (w.heap.size + 3) 22 1 (.slice A6 n6 c6) k vs := by simpa using (HO.out.keep HT.out (by omega)).row
          have hob : ∀ g, (Value.slice A6 n6 c6).ownBlock = some g → w.heap.size + 3 ≤ g := fun g e => (hrow.lt g e).1
          have hne2 : (Value.slice A6 n6 c6).ownBlock ≠ some (w.heap.size + 1 + 1) := fun e => by have := hob _ e; omega
          have hne1 : (Value.slice A6 n6 c6).ownBlock ≠ some (w.heap.size + 1) := fun e => by have := hob _ e; omega
          have hne0 : (Value.slice A6 n6 c6).ownBlock ≠ some w.heap.size := fun e => by have := hob _ e; omega
          have kW := turn_trans HT.out (turn_alloc wr (.cells #[.slice A5 n5 c5] 22)) (by omega)
          have hR : OwnBytes 5 (wr.alloc (.cells #[.slice A5 n5 c5] 22)) B0 wr.heap.size (.slice A5 n5 c5) (mkRow mm fun j => F p (m.getD j 0).toNat) := ⟨by simpa using HOWN.out.alloc _, by simp, fun g e => (HOWN.out.lt g e).2⟩
          have hc2' := cell_turn HT.out hc2 (by omega)
          go_wp2_with (at_builtin; refine wpList_append1 rfl _ _ _ rfl (w.heap.size + 3) 22 _ _ Tryd.underlying50 infoRowB rfl _ k vs rfl (hrow.alloc _) wr.heap.size (.slice A5 n5 c5) rfl ?d1 rfl ?d2 ?d3 ?d4 ?_)
          case d2 => omega
          case d4 => omega
          intro v' w' hown' hg' hv'
          obtain ⟨A7, n7, c7, rfl⟩ := own_isSlice hown'
          have g2 := (cell_past kW hg' hne2 (by omega) 0).trans hc2
          have g2f := (frozen_past kW hg' hne2 (by omega) 0).trans hf2
          have g1 := (cell_past kW hg' hne1 (by omega) 0).trans hc1
          have g1f := (frozen_past kW hg' hne1 (by omega) 0).trans hf1
          have g0 := (cell_past kW hg' hne0 (by omega) 0).trans hc0
          have hM5 := (((HO.out.push kW hR hB2 (by omega) (by simpa using hown') hg' (by rw [World.size_alloc]; exact hv')).keep (turn_setCell w' (w.heap.size + 1 + 1) 0 (.slice A7 n7 c7)) (by omega)).congr (L' := mkM (k + 1) mm fun i j => F (l.getD i 0).toNat (m.getD j 0).toNat) (by rw [mkM_succ, HP.out]; rfl))
          have HM5 := Lib.hid hM5
          have hsw : wr.heap.size ≤ w'.heap.size := by have := hg'.size; have e : (wr.alloc (.cells #[.slice A5 n5 c5] 22)).heap.size = wr.heap.size + 1 := by simp
                                                       omega
          have hb5 : Below w.heap.size w (w'.setCell ⟨w.heap.size + 1 + 1, 0, none⟩ (.slice A7 n7 c7)) := Below.setCell (TurnIn.base (TurnIn.of_grown hg' (fun g e => (hrow.alloc (.cells #[.slice A5 n5 c5] 22)).lt g e)) (kW.base HB.out (by omega) (by omega)) (by have := kW.size; omega) (by omega)) (show w.heap.size ≤ w.heap.size + 1 + 1 by omega) _
          have HB5 := Lib.hid hb5
          clear hM5 hb5 hown' hg' hv' hR kW hrow hob hc0 hc1 hf1 hc2 hf2
          go_wp2_with fail
          go_roundw
          case rel => exact ⟨k + 1, .slice A7 n7 c7, _, by omega, by go_num, Lib.hid (HM5.out.wider (Nat.le_refl _) (by simp) (Nat.le_refl _)), World.cell?_setCell_same _ _ _ g2, by simp [g2f], (cell_set_other w' _ _ _ (by omega)).trans g1, (frozen_set_other w' _ _ _ (by omega)).trans g1f, (cell_set_other w' _ _ _ (by omega)).trans g0, HB5, by simp; omega⟩
          case measure => simp [intOf]; omega
    · obtain rfl : k = n := by omega
      have hki : ¬ (k : Int) < (k : Int) := by omega
      obtain ⟨A9, n9, c9, rfl⟩ := HO.out.isSlice
      go_wp2_with fail
      refine bodyPost_ret (v := .agg #[.slice A9 n9 c9]) (by simp [results, Tryd.results70, go_sem, hc1]) rfl ?_
      have kk := turn_setCell wr (w.heap.size + 1) 0 (.slice A9 n9 c9)
      exact ⟨_, vs, rfl, (HO.out.keep kk (by omega)).wider (by omega) (by simp) (by simp), TurnIn.of_below (HB.out.setCell (Nat.le_succ _) _)⟩

end Go.Proofs.YtlkoafnlklhaeabDoor

/- A row of a matrix by texts: the program's combined. -/
namespace G294
open Go Go.RowKit
/-- the product of a row and the bytes of texts -/
def combF (c : Nat) (f : Nat → UInt8) (T : List (List UInt8)) (p : Nat) : UInt8 := sumK c fun j => gmul (f j) (ent T j p)
def comb (c n : Nat) (f : Nat → UInt8) (T : List (List UInt8)) : List UInt8 := mkRow n (combF c f T)
theorem combF_succ (c : Nat) (f : Nat → UInt8) (T : List (List UInt8)) (p : Nat) : combF (c + 1) f T p = combF c f T p ^^^ gmul (f c) (ent T c p) := rfl
theorem str_get (t : List UInt8) (q : Nat) (h : q < (str t).size) : (str t)[q] = t.getD q 0 := by
  have h' : q < t.length := by rwa [str_size] at h
  show t.toArray[q]'(by simpa using h') = _
  simp [List.getD, h']
/-- one byte of a row of the call's own is stored -/
theorem OwnBytes.store {E : TypeId} {w : World} {lo hi g n cap q : Nat} {l l' : List UInt8} {x : UInt8} (h : OwnBytes E w lo hi (.slice (some ⟨g, 0, none⟩) n cap) l) (hn : l.length = n) (e : l.set q x = l') :
    OwnBytes E (w.setCell ⟨g, q, none⟩ (.int .u8 (x.toNat : Int))) lo hi (.slice (some ⟨g, 0, none⟩) n cap) l' := by
  have h1 := h.1
  rw [hn] at h1
  have hst := h1.stored q (.int .u8 (x.toNat : Int))
  refine ⟨?_, by simpa using h.2.1, h.2.2⟩
  have e2 : bys l' = (bys l).set q (.int .u8 (x.toNat : Int)) := by rw [← e]; simp [bys, List.map_set]
  have e3 : l'.length = n := by rw [← e]; simpa using hn
  rw [e2, e3]
  exact hst.1
theorem comb_step (n j q : Nat) (f : Nat → UInt8) (T : List (List UInt8)) : (mkRow n fun p => if p < q then combF (j + 1) f T p else combF j f T p).set q (combF (j + 1) f T q) = mkRow n fun p => if p < q + 1 then combF (j + 1) f T p else combF j f T p := by
  rw [mkRow_set]
  apply mkRow_congr
  intro p hp
  by_cases e : p = q
  · subst e; simp
  · rw [if_neg e]
    by_cases h2 : p < q
    · rw [if_pos h2, if_pos (by omega)]
    · rw [if_neg h2, if_neg (by omega)]
end G294
namespace Go.Proofs.YtlkoafnlklhaeabDoor
open Go.RowKit G294

set_option maxRecDepth 100000 in
set_option maxHeartbeats 4000000 in
theorem combined_own (c n : Nat) (f : Nat → UInt8) (T : List (List UInt8)) (vr vt : Value) (w : World) (hr : Seen w vr (bys (mkRow c f))) (htx : Seen w vt (strs T)) (hc : T.length = c) (hc1 : 1 ≤ c) (hcc : c ≤ 1000)
    (hn : ∀ j, j < c → (T.getD j []).length = n) (hn2 : n ≤ 1000) (ht : Tab w) (h0 : 0 < w.heap.size) : Calls Tryd.prog 59 #[vr, vt] w (RetStr w (comb c n f T)) := by
  obtain ⟨i0, hi0, hz0, hz1, hz2⟩ := info_parts infoByte
  obtain ⟨A, cp, rfl, hlc, hcm, hx⟩ := hr
  obtain ⟨A', cp', rfl, hlc', hcm', hx'⟩ := htx
  simp only [bys_length, mkRow_length] at hlc hx ⊢
  rw [strs_length, hc] at hlc' hx'
  simp only [strs_length, hc]
  unfold maxLen at hcm hcm'
  obtain ⟨b, off, rfl, hbl, hcell⟩ := hx (by omega)
  obtain ⟨b', off', rfl, hbl', hcell'⟩ := hx' (by omega)
  have hrow : ∀ j, j < c → w.cell? ⟨b, off + j, none⟩ = some (.int .u8 ((f j).toNat : Int)) := fun j hj => by
    have := hcell j _ (bys_get _ j (by simpa using hj))
    rwa [mkRow_get] at this
  have htxt : ∀ j, j < c → w.cell? ⟨b', off' + j, none⟩ = some (.string (str (T.getD j []))) := fun j hj => by
    have := hcell' j _ (strs_get T j (by omega))
    rw [this]; simp [List.getD, show j < T.length by omega]
  have hc0 := htxt 0 (by omega)
  rw [Nat.add_zero] at hc0
  have hs0 : (str (T.getD 0 [])).size = n := by rw [str_size]; exact hn 0 (by omega)
  generalize T.getD 0 [] = t0 at hc0 hs0
  have HROW := Lib.hid hrow
  have HTXT := Lib.hid htxt
  have HNN := Lib.hid hn
  have HT := Lib.hid ht
  clear hcell hcell' hx hx' hrow htxt hn ht hc
  go_enter Tryd.func59, Tryd.ntmps59
  go_wp2_with (at_make; refine wpList_make_full _ rfl _ _ _ rfl w.heap.size _ i0 _ 1 Tryd.underlying22 hi0 hz0 hz1 _ _ _ _ n rfl rfl rfl rfl ?b2 ?b3 ?b4 ?_)
  case b2 => rw [hz2]; omega
  case b3 => unfold maxLen; omega
  case b4 => exact Nat.le_refl _
  intro w1 hown1 hg1
  have hb1 : Below w.heap.size w w1 := below_of_grown hg1 (Nat.le_refl _) (by simp)
  rw [toList_madeCells_one] at hown1
  have hO : OwnBytes 5 w1 w.heap.size w1.heap.size (.slice (some ⟨w.heap.size, 0, none⟩) n n) (mkRow n (combF 0 f T)) := by
    refine OwnBytes.of_made ?_
    rw [mkRow_length, bys_zero n (combF 0 f T) (fun _ _ => rfl)]; exact hown1
  clear hg1 hown1
  go_wp2_with fail
  go_loopw [16] (fun i wr => ∃ j : Nat, j ≤ c ∧ i = .int .i64 j ∧ OwnBytes 5 wr w.heap.size wr.heap.size (.slice (some ⟨w.heap.size, 0, none⟩) n n) (mkRow n (combF j f T)) ∧ Below w.heap.size w wr)
    (fun i _ => c - (intOf i).toNat)
  case atStart => exact ⟨0, Nat.zero_le _, rfl, hO, hb1⟩
  case round =>
    obtain ⟨j, hj, rfl, hO, hb⟩ := hrel
    clear hb1 hc0 hs0
    by_cases hlt : j < c
    · have hji : (j : Int) < (c : Int) := by omega
      have hct : wr.cell? ⟨b', off' + j, none⟩ = some (.string (str (T.getD j []))) := (hb.cell (p := ⟨b', off' + j, none⟩) hbl').trans (HTXT.out j hlt)
      have hst : (str (T.getD j [])).size = n := by rw [str_size]; exact HNN.out j hlt
      have HE : Hid (∀ p, ent T j p = (T.getD j []).getD p 0) := fun p => rfl
      generalize T.getD j [] = tj at hct hst HE
      have hO2 : OwnBytes 5 wr w.heap.size wr.heap.size (.slice (some ⟨w.heap.size, 0, none⟩) n n) (mkRow n fun p => if p < 0 then combF (j + 1) f T p else combF j f T p) := by simpa using hO
      clear hO
      go_wp2_with fail
      go_loopw [23] (fun i wq => ∃ q : Nat, q ≤ n ∧ i = .int .i64 q ∧ OwnBytes 5 wq w.heap.size wq.heap.size (.slice (some ⟨w.heap.size, 0, none⟩) n n) (mkRow n fun p => if p < q then combF (j + 1) f T p else combF j f T p) ∧ Below w.heap.size w wq)
        (fun i _ => n - (intOf i).toNat)
      case atStart => exact ⟨0, Nat.zero_le _, rfl, hO2, hb⟩
      case round =>
        obtain ⟨q, hq, rfl, hO, hbq⟩ := hrel
        clear hO2 hct hb
        by_cases hlq : q < n
        · have hqi : (q : Int) < (n : Int) := by omega
          have hcs := hO.cellAt (k := q) (by simpa using hlq)
          have hfr := hO.frozenAt q
          rw [mkRow_getD _ _ _ hlq, if_neg (by omega)] at hcs
          have hcr : wr.cell? ⟨b, off + j, none⟩ = some (.int .u8 ((f j).toNat : Int)) := (hbq.cell (p := ⟨b, off + j, none⟩) hbl).trans (HROW.out j hlt)
          obtain ⟨y, hy⟩ : ∃ y, y = tj.getD q 0 := ⟨_, rfl⟩
          have hsg := str_get tj q (by omega)
          rw [← hy] at hsg
          have HY : Hid (ent T j q = y) := (HE.out q).trans hy.symm
          clear hy
          have htq : Tab wr := HT.out.below hbq h0
          have HC := Lib.hid (stilly (times_u8 (f j) y wr.drew (show Tab wr.drew from htq)))
          have hxor : bits BinOp.xor IntKind.u8 ((combF j f T q).toNat : Int) ((gmul (f j) y).toNat : Int) = ((combF (j + 1) f T q).toNat : Int) := by
            rw [xor_u8, combF_succ, HY.out]
          have hO3 := (hO.store (q := q) (x := combF (j + 1) f T q) (by simp) (comb_step n j q f T))
          have hb3 : Below w.heap.size w (wr.setCell ⟨w.heap.size, q, none⟩ (.int .u8 ((combF (j + 1) f T q).toNat : Int))) := hbq.setCell (Nat.le_refl _) _
          have HO3 := Lib.hid hO3
          have hzz : (wr.setCell ⟨w.heap.size, q, none⟩ (.int .u8 ((combF (j + 1) f T q).toNat : Int))).heap.size = wr.heap.size := by simp
          clear htq hO3
          go_wp2_with fail
          refine wp_region_still_tail 14 (by kernel_rfl) (by kernel_rfl) ?_
          simp only [List.take_succ_cons, List.take_zero, List.drop_succ_cons, List.drop_zero]
          repeat (first | still_step | still_call (HC.out))
          refine wpStill_nil ?_
          go_wp2_with fail
          go_roundw
          case rel => exact ⟨q + 1, by omega, by go_num, by
            have h := HO3.out
            refine ⟨h.1, Nat.le_refl _, fun g e => ?_⟩
            have := h.2.2 g e
            show g < (wr.setCell ⟨w.heap.size, q, none⟩ (.int .u8 ((combF (j + 1) f T q).toNat : Int))).heap.size
            rw [hzz]; exact this, hb3.drew⟩
          case measure => simp [intOf]; omega
        · obtain rfl : q = n := by omega
          have hqi : ¬ (q : Int) < (q : Int) := by omega
          go_wp2_with fail
          go_roundw
          case rel => exact ⟨j + 1, by omega, by go_num, by
            have e : (mkRow q fun p => if p < q then combF (j + 1) f T p else combF j f T p) = mkRow q (combF (j + 1) f T) := mkRow_congr fun p hp => if_pos hp
            rw [e] at hO; exact hO, hbq⟩
          case measure => simp [intOf]; omega
    · obtain rfl : j = c := by omega
      have hji : ¬ (j : Int) < (j : Int) := by omega
      have hseen : Seen wr (.slice (some ⟨w.heap.size, 0, none⟩) n n) (bys (comb j n f T)) := hO.seen
      have hconv := run_string_seen (P := Tryd.prog) 22 5 9 Tryd.underlying22 Tryd.underlying5 Tryd.underlying9 hseen
      clear hO hseen
      go_wp2_with fail
      go_ret
      exact ⟨rfl, TurnIn.of_below hb⟩

end Go.Proofs.YtlkoafnlklhaeabDoor

/- A matrix by texts: the model's l3Rows. -/
namespace G294
open Go Go.RowKit
/-- the texts that a matrix makes of texts -/
def rowsT (r c n : Nat) (F : Ents) (T : List (List UInt8)) : List (List UInt8) := mkM r n fun i => combF c (F i) T
@[simp] theorem rowsT_length (r c n : Nat) (F : Ents) (T : List (List UInt8)) : (rowsT r c n F T).length = r := by simp [rowsT]
theorem rowsT_succ (r c n : Nat) (F : Ents) (T : List (List UInt8)) : rowsT (r + 1) c n F T = rowsT r c n F T ++ [comb c n (F r) T] := by simp [rowsT, mkM, comb, List.range_succ]
end G294
namespace Go.Proofs.YtlkoafnlklhaeabDoor
open Go.RowKit G294

set_option maxRecDepth 100000 in
set_option maxHeartbeats 4000000 in
theorem l3Rows_own (r c n : Nat) (F : Ents) (T : List (List UInt8)) (vm vt : Value) (w : World) (hm : SeenM w vm (mkM r c F)) (htx : Seen w vt (strs T)) (hc : T.length = c) (hc1 : 1 ≤ c) (hcc : c ≤ 1000) (hrr : r ≤ 1000)
    (hn : ∀ j, j < c → (T.getD j []).length = n) (hn2 : n ≤ 1000) : Calls Tryd.prog 31 #[.agg #[vm], vt] w (RetStrs 9 w (rowsT r c n F T)) := by
  obtain ⟨i0, hi0, hz0, hz1, hz2⟩ := info_parts infoByte
  have hb0 : Below w.heap.size w (w.alloc (.cells #[vm] 52)) := (Below.refl _ _).alloc (Nat.le_refl _) _
  have HM := Lib.hid hm
  obtain ⟨A0, cp0, rfl, hl0, hm0⟩ := hm.len
  rw [mkM_length] at hl0 HM hb0 ⊢
  obtain ⟨A', cp', rfl, hlc', hcm', hx'⟩ := htx
  rw [strs_length, hc] at hlc' hx'
  simp only [strs_length, hc]
  unfold maxLen at hm0 hcm'
  obtain ⟨b', off', rfl, hbl', hcell'⟩ := hx' (by omega)
  have htxt : ∀ j, j < c → w.cell? ⟨b', off' + j, none⟩ = some (.string (str (T.getD j []))) := fun j hj => by
    have := hcell' j _ (strs_get T j (by omega))
    rw [this]; simp [List.getD, show j < T.length by omega]
  have hc0 : w.cell? ⟨b', off', none⟩ = some (.string (str (T.getD 0 []))) := by
    have := htxt 0 (by omega)
    rwa [Nat.add_zero] at this
  have hs0 : (str (T.getD 0 [])).size = n := by rw [str_size]; exact hn 0 (by omega)
  generalize T.getD 0 [] = t0 at hc0 hs0
  have HTXT := Lib.hid htxt
  have HNN := Lib.hid hn
  clear hcell' hx' htxt hn hc hm
  go_enter Tryd.func31, Tryd.ntmps31
  go_wp2_with fail
  go_loopw [5, 15] (fun o i wr => ∃ k : Nat, k ≤ r ∧ i = .int .i64 k ∧ wr.ownsRow w.heap.size 9 1 o k (strs (rowsT k c n F T)) ∧ Below w.heap.size w wr)
    (fun _ i _ => r - (intOf i).toNat)
  case atStart => exact ⟨0, Nat.zero_le _, rfl, World.ownsRow_nil _ _ _ _, hb0⟩
  case round =>
    obtain ⟨k, hk, rfl, hown, hb⟩ := hrel
    clear hb0
    by_cases hlt : k < r
    · have hki : (k : Int) < (r : Int) := by omega
      obtain ⟨bb, off, c9, A1, c1, hvv, _, hbb, hcx, hc9, hsr⟩ := (HM.out.below hb).rowF k hlt
      simp only [Value.slice.injEq] at hvv
      obtain ⟨rfl, z9, rfl⟩ := hvv
      obtain ⟨A2, c2, hA2, hcc2, hcm2, hx2⟩ := hsr
      simp only [bys_length, mkRow_length] at hA2 hcc2 hx2
      obtain ⟨b, off2, hA3, hb2, hrow⟩ := hx2 (by omega)
      simp only [Value.slice.injEq] at hA2
      obtain ⟨rfl, _, rfl⟩ := hA2
      subst hA3
      have hcw0 : wr.cell? ⟨b', off', none⟩ = some (.string (str t0)) := (hb.cell (p := ⟨b', off', none⟩) hbl').trans hc0
      have HROW : Hid (∀ j, j < c → wr.cell? ⟨b, off2 + j, none⟩ = some (.int .u8 ((F k j).toNat : Int))) := fun j hj => by
        have := hrow j _ (bys_get _ j (by simpa using hj))
        rwa [mkRow_get] at this
      have hbs := hb.size
      unfold maxLen at hc9
      clear hrow hx2 z9
      go_wp2_with (at_make; refine wpList_make_full _ rfl _ _ _ rfl wr.heap.size _ i0 _ 1 Tryd.underlying22 hi0 hz0 hz1 _ _ _ _ n rfl rfl rfl rfl ?b2 ?b3 ?b4 ?_)
      case b2 => rw [hz2]; omega
      case b3 => unfold maxLen; omega
      case b4 => exact Nat.le_refl _
      intro w1 hown1 hg1
      rw [toList_madeCells_one] at hown1
      have k1 : TurnIn 0 0 wr w1 := TurnIn.of_grown hg1 (by simp)
      have hs1 : wr.heap.size < w1.heap.size := (hown1.lt wr.heap.size rfl).2
      have hO : OwnBytes 5 w1 wr.heap.size (wr.heap.size + 1) (.slice (some ⟨wr.heap.size, 0, none⟩) n n) (mkRow n (combF 0 (F k) T)) := by
        refine ⟨?_, hs1, fun g e => by simp [Value.ownBlock] at e; omega⟩
        rw [mkRow_length, bys_zero n (combF 0 (F k) T) (fun _ _ => rfl)]; exact hown1
      obtain ⟨B, hB⟩ : ∃ B, B = wr.heap.size := ⟨_, rfl⟩
      have hown' := owns_turn0 hown k1
      have hlo : ∀ g, Value.ownBlock u5 = some g → g < B := fun g e => by rw [hB]; exact (hown.lt g e).2
      have hbw1 : Below w.heap.size w w1 := k1.base hb (by omega) (by omega)
      have hrb : ∀ j, j < c → w1.cell? ⟨b, off2 + j, none⟩ = some (.int .u8 ((F k j).toNat : Int)) := fun j hj => cell_turn k1 (HROW.out j hj) (by omega)
      have hbB : b < B := by omega
      have hwB : w.heap.size ≤ B := by omega
      rw [← hB] at hO hs1 ⊢
      have HRB := Lib.hid hrb
      have HOWN := Lib.hid hown'
      have HLO := Lib.hid hlo
      clear hg1 hown1 hown hown' hlo hrb hcx hB k1 HROW hb hcw0 hb2
      go_wp2_with fail
      go_loopw [26] (fun i wq => ∃ j : Nat, j ≤ c ∧ i = .int .i64 j ∧ OwnBytes 5 wq B (B + 1) (.slice (some ⟨B, 0, none⟩) n n) (mkRow n (combF j (F k) T)) ∧ TurnIn B (B + 1) w1 wq)
        (fun i _ => c - (intOf i).toNat)
      case atStart => exact ⟨0, Nat.zero_le _, rfl, hO, ⟨rfl, rfl, rfl, Nat.le_refl _, fun _ _ _ => rfl⟩⟩
      case round =>
        obtain ⟨j, hj, rfl, hOj, hk1⟩ := hrel
        clear hO
        by_cases hltj : j < c
        · have hji : (j : Int) < (c : Int) := by omega
          have hcr : wr.cell? ⟨b, off2 + j, none⟩ = some (.int .u8 ((F k j).toNat : Int)) := (World.cell?_of_block (hk1.block b (by omega) (by omega))).trans (HRB.out j hltj)
          have hO2 : OwnBytes 5 wr B (B + 1) (.slice (some ⟨B, 0, none⟩) n n) (mkRow n fun p => if p < 0 then combF (j + 1) (F k) T p else combF j (F k) T p) := by simpa using hOj
          have hst : (str (T.getD j [])).size = n := by rw [str_size]; exact HNN.out j hltj
          have HE : Hid (∀ p, ent T j p = (T.getD j []).getD p 0) := fun p => rfl
          have hct0 := HTXT.out j hltj
          generalize T.getD j [] = tj at hct0 hst HE
          have hs9 := hk1.size
          clear hOj
          go_wp2_with fail
          go_loopw [33] (fun i wq => ∃ q : Nat, q ≤ n ∧ i = .int .i64 q ∧ OwnBytes 5 wq B (B + 1) (.slice (some ⟨B, 0, none⟩) n n) (mkRow n fun p => if p < q then combF (j + 1) (F k) T p else combF j (F k) T p) ∧ TurnIn B (B + 1) w1 wq)
            (fun i _ => n - (intOf i).toNat)
          case atStart => exact ⟨0, Nat.zero_le _, rfl, hO2, hk1⟩
          case round =>
            obtain ⟨q, hq, rfl, hO, hkq⟩ := hrel
            clear hO2 hcr hk1
            by_cases hlq : q < n
            · have hqi : (q : Int) < (n : Int) := by omega
              have hcs := hO.cellAt (k := q) (by simpa using hlq)
              have hfr := hO.frozenAt q
              rw [mkRow_getD _ _ _ hlq, if_neg (by omega)] at hcs
              have hct : wr.cell? ⟨b', off' + j, none⟩ = some (.string (str tj)) := (World.cell?_of_block (hkq.block b' (by omega) (by omega))).trans ((hbw1.cell (p := ⟨b', off' + j, none⟩) hbl').trans hct0)
              obtain ⟨y, hy⟩ : ∃ y, y = tj.getD q 0 := ⟨_, rfl⟩
              have hsg := str_get tj q (by omega)
              rw [← hy] at hsg
              have HY : Hid (ent T j q = y) := (HE.out q).trans hy.symm
              have HC := Lib.hid (stilly (l1Times_u8 (F k j) y wr.drew))
              have hxor : bits BinOp.xor IntKind.u8 ((combF j (F k) T q).toNat : Int) ((gmul (F k j) y).toNat : Int) = ((combF (j + 1) (F k) T q).toNat : Int) := by
                rw [xor_u8, combF_succ, HY.out]
              have HO3 := Lib.hid (hO.store (q := q) (x := combF (j + 1) (F k) T q) (by simp) (comb_step n j q (F k) T))
              have hk3 : TurnIn B (B + 1) w1 (wr.setCell ⟨B, q, none⟩ (.int .u8 ((combF (j + 1) (F k) T q).toNat : Int))) := turn_trans hkq (turn_setCell wr B q _) (by omega)
              have HK3 : Hid (TurnIn B (B + 1) w1 (wr.setCell ⟨B, q, none⟩ (.int .u8 ((combF (j + 1) (F k) T q).toNat : Int))).drew) := ⟨hk3.os, hk3.tape, hk3.output, hk3.size, hk3.block⟩
              clear hy hk3
              go_wp2_with fail
              refine wp_region_still_tail 14 (by kernel_rfl) (by kernel_rfl) ?_
              simp only [List.take_succ_cons, List.take_zero, List.drop_succ_cons, List.drop_zero]
              repeat (first | still_step | still_call (HC.out))
              refine wpStill_nil ?_
              go_wp2_with fail
              go_roundw
              case rel => exact ⟨q + 1, by omega, by go_num, HO3.out, HK3.out⟩
              case measure => simp [intOf]; omega
            · obtain rfl : q = n := by omega
              have hqi : ¬ (q : Int) < (q : Int) := by omega
              go_wp2_with fail
              go_roundw
              case rel => exact ⟨j + 1, by omega, by go_num, by
                have e : (mkRow q fun p => if p < q then combF (j + 1) (F k) T p else combF j (F k) T p) = mkRow q (combF (j + 1) (F k) T) := mkRow_congr fun p hp => if_pos hp
                rw [e] at hO; exact hO, hkq⟩
              case measure => simp [intOf]; omega
        · obtain rfl : j = c := by omega
          have hji : ¬ (j : Int) < (j : Int) := by omega
          have hseen : Seen wr (.slice (some ⟨B, 0, none⟩) n n) (bys (comb j n (F k) T)) := hOj.seen
          have hconv := run_string_seen (P := Tryd.prog) 22 5 9 Tryd.underlying22 Tryd.underlying5 Tryd.underlying9 hseen
          have hs9 := hk1.size
          have hown2 := owns_turn (hi := B) HOWN.out HLO.out hk1 (by omega)
          have hb5 : Below w.heap.size w wr := hk1.base hbw1 (by omega) (by omega)
          clear hOj hseen
          go_wp2_with (at_builtin; refine wpList_append1 rfl _ _ _ rfl w.heap.size 9 _ _ Tryd.underlying35 infoStr rfl _ k _ rfl (hown2.alloc _) wr.heap.size (.string (str (comb j n (F k) T))) rfl ?c1 rfl ?c2 ?c3 ?c4 ?_)
          case c2 => omega
          case c4 => first | omega | (simp; omega)
          intro v' w' hown' hg' _
          have hb' : Below w.heap.size w w' := below_append (hb5.alloc (by omega) _) (hown2.alloc _) hg' (Nat.le_refl _) (by simp; omega)
          have hown3 : w'.ownsRow w.heap.size 9 1 v' (k + 1) (strs (rowsT (k + 1) j n F T)) := by
            rw [rowsT_succ, strs_append]; exact hown'
          clear hown' hg'
          go_wp2_with fail
          go_roundw
          case rel => exact ⟨k + 1, by omega, by go_num, hown3, hb'⟩
          case measure => simp [intOf]; omega
    · obtain rfl : k = r := by omega
      have hki : ¬ (k : Int) < (k : Int) := by omega
      go_wp2_with fail
      go_ret
      exact ⟨_, rfl, OwnStrs.of_made (by simpa using hown), TurnIn.of_below hb⟩

end Go.Proofs.YtlkoafnlklhaeabDoor

/- shardsBy: the iterator over the shards that a matrix makes of texts. -/
namespace G294
open Go Go.RowKit
/-- the shards that a matrix makes of texts -/
def shardsF (r c n : Nat) (F : Ents) (T : List (List UInt8)) : List Sh := (List.range r).map fun (i : Nat) => (((i : Nat) : Int), comb c n (F i) T)
@[simp] theorem shardsF_length (r c n : Nat) (F : Ents) (T : List (List UInt8)) : (shardsF r c n F T).length = r := by simp [shardsF]
theorem shardsF_take (r c n : Nat) (F : Ents) (T : List (List UInt8)) (k : Nat) (h : k < r) : (shardsF r c n F T).take (k + 1) = (shardsF r c n F T).take k ++ [((k : Int), comb c n (F k) T)] := by
  rw [List.take_succ_eq_append_getElem (by simpa using h)]; simp [shardsF]
/-- a shard as a value -/
def shV (x : Sh) : Value := .agg #[.int .i64 x.1, .string (str x.2)]
/-- what lies below n₀, but for one block, is as it was -/
structure KeepBut (n₀ Bs : Nat) (W W' : World) : Prop where
  os : W'.os = W.os
  tape : W'.tape = W.tape
  output : W'.output = W.output
  size : W.heap.size ≤ W'.heap.size
  block : ∀ k, k < n₀ → k ≠ Bs → W'.heap[k]? = W.heap[k]?
theorem KeepBut.trans {n₀ Bs : Nat} {A B C : World} (h : KeepBut n₀ Bs A B) (k : KeepBut n₀ Bs B C) : KeepBut n₀ Bs A C :=
  ⟨k.os.trans h.os, k.tape.trans h.tape, k.output.trans h.output, Nat.le_trans h.size k.size, fun i hi hne => (k.block i hi hne).trans (h.block i hi hne)⟩
theorem KeepBut.refl (n₀ Bs : Nat) (W : World) : KeepBut n₀ Bs W W := ⟨rfl, rfl, rfl, Nat.le_refl _, fun _ _ _ => rfl⟩
theorem KeepBut.of_below {n₀ Bs : Nat} {W W' : World} (h : Below n₀ W W') : KeepBut n₀ Bs W W' := ⟨h.os, h.tape, h.output, h.size, fun k hk _ => h.block k hk⟩
theorem KeepBut.putObj {n₀ Bs : Nat} {w : World} (hn : n₀ ≤ w.heap.size) (W : World) (l : Nat) (o o' : Obj) (hl : w.heap.size ≤ l) (h : W.heap[l]? = some o) (h1 : o.isCells = false) (h2 : o.isWalk = false) : KeepBut n₀ Bs W (W.putObj l o') :=
  KeepBut.of_below (belowK_b hn W l o o' hl h h1 h2)
theorem KeepBut.cell {n₀ Bs B o : Nat} {W W' : World} (h : KeepBut n₀ Bs W W') (hB : B < n₀) (hne : B ≠ Bs) : W'.cell? ⟨B, o, none⟩ = W.cell? ⟨B, o, none⟩ := World.cell?_of_block (h.block B hB hne)
theorem KeepBut.below {n₀ Bs e : Nat} {w W W' : World} (h : KeepBut n₀ Bs W W') (hb : Below e w W) (h1 : e ≤ Bs) (h2 : e ≤ n₀) : Below e w W' :=
  ⟨h.os.trans hb.os, h.tape.trans hb.tape, h.output.trans hb.output, Nat.le_trans hb.size h.size, fun k hk => (h.block k (by omega) (by omega)).trans (hb.block k hk)⟩
theorem owns_agree {w w' : World} {lo hi size n : Nat} {E : TypeId} {v : Value} {xs : List Value} (h : w.ownsRow lo E size v n xs) (h2 : ∀ g, v.ownBlock = some g → g < hi) (hb : ∀ k, lo ≤ k → k < hi → w'.heap[k]? = w.heap[k]?) : w'.ownsRow lo E size v n xs := by
  refine ⟨h.1, ?_⟩
  rcases h.2 with hn | ⟨g, cap, cur, rfl, hbg, hg, rest⟩
  · exact .inl hn
  · refine .inr ⟨g, cap, cur, rfl, hbg, ?_, rest⟩
    rw [hb g hbg (h2 g rfl)]
    exact hg
theorem OwnM.agree {E EE : TypeId} {w w' : World} {lo hi : Nat} {v : Value} {L : Mat} {vs : List Value} (h : OwnM E EE w lo hi v L vs) (hs : w.heap.size ≤ w'.heap.size) (hb : ∀ k, lo ≤ k → k < hi → w'.heap[k]? = w.heap[k]?) : OwnM E EE w' lo hi v L vs :=
  ⟨owns_agree h.row h.out hb, Nat.le_trans h.top hs, h.out, fun i u hu => ⟨owns_agree (h.rows i u hu).1 (h.rows i u hu).2.2 hb, Nat.le_trans h.top hs, (h.rows i u hu).2.2⟩, h.apart⟩
theorem OwnStrs.agree {E : TypeId} {w w' : World} {lo hi : Nat} {v : Value} {l : List (List UInt8)} (h : OwnStrs E w lo hi v l) (hs : w.heap.size ≤ w'.heap.size) (hb : ∀ k, lo ≤ k → k < hi → w'.heap[k]? = w.heap[k]?) : OwnStrs E w' lo hi v l :=
  ⟨owns_agree h.1 h.2.2 hb, Nat.le_trans h.2.1 hs, h.2.2⟩
/-- one more element in a boxed row that a loop collects -/
theorem collect_step {W w1 : World} {n₀ Bs e0 size : Nat} {t e : TypeId} {v v' : Value} {k mm : Nat} {xs ys : List Value} {tmp : Obj} (hv : Boxed W Bs t v) (hte : t ≠ e) (hrow : W.ownsRow n₀ e size v k xs)
    (hown' : w1.ownsRow n₀ e size v' mm ys) (hgrow : (W.alloc tmp).grownBy w1 v.ownBlock) (h1 : e0 ≤ Bs) (h2 : Bs < n₀) (h3 : n₀ ≤ W.heap.size) :
    Boxed w1 Bs t v ∧ Boxed (w1.setCell ⟨Bs, 0, none⟩ v') Bs t v' ∧ (w1.setCell ⟨Bs, 0, none⟩ v').ownsRow n₀ e size v' mm ys ∧ KeepsOthers W (w1.setCell ⟨Bs, 0, none⟩ v') ∧ KeepBut n₀ Bs W (w1.setCell ⟨Bs, 0, none⟩ v') ∧ n₀ ≤ (w1.setCell ⟨Bs, 0, none⟩ v').heap.size := by
  obtain ⟨hv1, hv2, hr2, hk2, hb2⟩ := hv.appended (n₀ := e0) hte (own_base hrow (by omega)) (by omega) h1 (own_base hown' (by omega)) hgrow
  have hs := hgrow.size
  have hsa := World.size_alloc W tmp
  refine ⟨hv1, hv2, hown'.kept (grownBy_setCell' w1 Bs v') (.inr (fun e' => by have := (hown'.lt Bs e').1; omega)), hk2, ⟨hb2.os, hb2.tape, hb2.output, hb2.size, fun j hj hne => ?_⟩, by simp; omega⟩
  have t1 := (grownBy_setCell' w1 Bs v').block j (by omega) (fun e' => hne (by cases e'; rfl))
  have t2 := hgrow.block j (by omega) (fun e' => by have := (hrow.lt j e'.symm).1; omega)
  have t3 := (turn_alloc W tmp).block j (by omega) (by omega)
  exact t1.trans (t2.trans t3)
end G294
namespace Go.Proofs.YtlkoafnlklhaeabDoor
open Go.RowKit Go.Shelf G294

attribute [local go_sem] Oper.semAt_some

set_option maxRecDepth 100000 in
set_option maxHeartbeats 1000000 in
/-- shardsBy boxes its arguments and hands back the function -/
theorem shardsBy_any (vm : Value) (At : Option Addr) (nt ct : Nat) (w : World) : Calls Tryd.prog 42 #[.agg #[vm], .slice At nt ct] w fun e w' => e = .returned (.func (.func 58) #[] #[.pointer (some ⟨w.heap.size, 0, none⟩), .pointer (some ⟨w.heap.size + 1, 0, none⟩)]) ∧
    w' = (w.alloc (.cells #[vm] 52)).alloc (.cells #[.slice At nt ct] 35) := by
  go_enter Tryd.func42, Tryd.ntmps42
  go_wp2_with fail
  go_ret
  exact ⟨rfl, rfl⟩

set_option maxRecDepth 100000 in
set_option maxHeartbeats 4000000 in
theorem shardsBy_stops (nF r c n Bm Bt : Nat) (F : Ents) (T : List (List UInt8)) (vm vt : Value) (w : World) (Kp : World → World → Prop) (Inv : World → Prop) (hc : T.length = c) (hc1 : 1 ≤ c) (hcc : c ≤ 1000) (hr : r ≤ 1000)
    (hn : ∀ j, j < c → (T.getD j []).length = n) (hn2 : n ≤ 1000)
    (hInv : ∀ W, Inv W → (W.cell? ⟨Bm, 0, none⟩ = some vm ∧ W.cell? ⟨Bt, 0, none⟩ = some vt) ∧ (SeenM W vm (mkM r c F) ∧ Seen W vt (strs T)) ∧ Tab W ∧ 0 < W.heap.size)
    (hKp : ∀ W W', Inv W → Kp W W' → Inv W') (hBel : ∀ W W', Inv W → Below W.heap.size W W' → Inv W') (hw : ∀ W, Below w.heap.size w W → Inv W) (hnF : 1 ≤ nF) :
    SeqStopsK Fence.wide nF Tryd.prog 58 #[.pointer (some ⟨Bm, 0, none⟩), .pointer (some ⟨Bt, 0, none⟩)] (fun x : Sh => #[shV x]) Kp (fun xs => xs = shardsF r c n F T) (fun pre => pre <+: shardsF r c n F T) r w := by
  intro l J Jx W hW hJ hJx hY h0
  have hiv := hw W hW
  obtain ⟨⟨cm, ct⟩, ⟨sm, st⟩, tb, hrm⟩ := hInv W hiv
  obtain ⟨A, cp, rfl, hlc, hcm⟩ := sm.len
  rw [mkM_length] at hlc
  unfold maxLen at hcm
  rw [mkM_length] at *
  have HINV := Lib.hid hInv
  have HKP := Lib.hid hKp
  have HBEL := Lib.hid hBel
  have HY := Lib.hid hY
  clear hInv hKp hBel hY st tb sm hw
  refine callsIn_of_wp Tryd.func58 rfl trivial ?_ rfl
  simp only [Tryd.ntmps58, List.size_toArray, List.length_cons, List.length_nil, Nat.reduceAdd, Nat.reduceSub, Array.replicate_succ, Array.replicate_zero, List.push_toArray, List.append_toArray, List.nil_append, List.cons_append]
  gi_wp2_with fail
  gi_loopw [9] (fun i wr => ∃ k : Nat, k ≤ r ∧ i = .int .i64 k ∧ Inv wr ∧ J ((shardsF r c n F T).take k) wr) (fun i _ => r - (intOf i).toNat)
  case atStart => exact ⟨0, Nat.zero_le _, rfl, hiv, h0⟩
  case round =>
    obtain ⟨k, hk, rfl, hi, hj⟩ := hrel
    clear hiv h0 cm ct hrm
    by_cases hlt : k < r
    · have hki : (k : Int) < (r : Int) := by omega
      obtain ⟨⟨cm, ct⟩, ⟨sm, st⟩, tb, hrm⟩ := HINV.out _ hi
      obtain ⟨bb, off, c9, A1, c1, hvv, _, hbb, hcx, hc9, hsr⟩ := sm.rowF k hlt
      simp only [Value.slice.injEq] at hvv
      obtain ⟨rfl, z9, rfl⟩ := hvv
      have HSR := Lib.hid hsr
      have HST := Lib.hid st
      have HTB := Lib.hid tb
      have HHN := Lib.hid hn
      clear z9 sm st tb hsr hn
      gi_wp2_with fail
      refine ⟨trivial, ?_⟩
      refine (callsIn_wide.2 (combined_own c n (F k) T _ _ _ HSR.out HST.out hc hc1 hcc HHN.out hn2 HTB.out hrm)).mono ?_
      rintro e w2 ⟨rfl, k2⟩
      have hi2 := HBEL.out _ _ hi k2.to_below
      have hj2 := hJ _ _ w2 none hj (grown_of_below k2.to_below) (fun r e => by cases e)
      have hs2 := k2.size
      obtain ⟨fn, tmps, assign, body, hy, hR⟩ := HY.out _ ((k : Int), comb c n (F k) T) w2 hj2 (by rw [List.length_take, shardsF_length]; omega)
      have HR := Lib.hid hR
      have hpre : (shardsF r c n F T).take k ++ [((k : Int), comb c n (F k) T)] = (shardsF r c n F T).take (k + 1) := (shardsF_take r c n F T k hlt).symm
      have HPRE := Lib.hid hpre
      simp only [shV] at hy
      clear hR hpre cm ct hcx k2
      gi_wp2_with fail
      refine HR.out.mono ?_
      rintro e W3 (⟨rfl, hJ3, hk3⟩ | ⟨rfl, hJx3⟩)
      · have hi3 := HKP.out _ _ hi2 hk3
        rw [HPRE.out] at hJ3
        gi_wp2_with fail
        go_roundw
        case rel => exact ⟨k + 1, by omega, by go_num, hi3, hJ3⟩
        case measure => simp [intOf]; omega
      · gi_wp2_with fail
        refine bodyPost_ret (results_none rfl _ _ _) rfl ?_
        exact ⟨⟨_, rfl⟩, .inr ⟨_, by rw [HPRE.out]; exact List.take_prefix _ _, hJx3⟩⟩
    · obtain rfl : k = r := by omega
      have hki : ¬ (k : Int) < (k : Int) := by omega
      gi_wp2_with fail
      go_end0
      exact ⟨⟨_, rfl⟩, .inl (by rw [List.take_of_length_le (by simp)] at hj; exact hj)⟩

end Go.Proofs.YtlkoafnlklhaeabDoor

/- The mathematics of EncodeShards. -/
namespace G294
open Go Go.RowKit
def encOk (T : List (List UInt8)) (m : Int) : Bool := shapeOk T.length m && textsOk T
def encL (k m : Nat) (T : List (List UInt8)) : List Sh := shardsF (k + m) k (T.getD 0 []).length (codF k) T
def encR (T : List (List UInt8)) (m : Int) : List Sh := if encOk T m then encL T.length m.toNat T else []
theorem encR_no {T : List (List UInt8)} {m : Int} (h : encOk T m = false) : encR T m = [] := by unfold encR; rw [if_neg (by rw [h]; simp)]
theorem encR_yes {T : List (List UInt8)} {m : Nat} (h : encOk T m = true) : encR T m = encL T.length m T := by unfold encR; rw [if_pos h]; simp
theorem textsOk_at {T : List (List UInt8)} (h : textsOk T = true) : ∀ j, j < T.length → (T.getD j []).length = (T.getD 0 []).length := fun j hj => by
  have := ((textsOk_iff T).1 h j hj).1
  rw [← this]; simp [List.getD, hj]
theorem encR_len (T : List (List UInt8)) (m : Int) : (encR T m).length ≤ 14 := by
  unfold encR; split
  · rename_i h
    simp only [encOk, Bool.and_eq_true] at h
    have := shapeOk_b h.1
    simp [encL]; omega
  · simp
end G294

/- EncodeShards: the model's. -/
namespace G294
open Go Go.RowKit
theorem shards_rows (r c n : Nat) (F : Ents) (T : List (List UInt8)) (k : Nat) (h : k < r) : (rowsT r c n F T)[k]? = some (comb c n (F k) T) := by
  simp [rowsT, mkM, h, comb]
/-- append(s, x) of one struct of two cells, onto a row of the call's own -/
theorem wpList_append2 {P : Program} {w : World} {ops : Array Oper} {rest : List Oper} {o : Oper} {a : Act} {Q : Exit → Act → World → Prop} (hgd : o.guard = none) (s x : Operand) (t : TypeId)
    (ho : o.op = .call { callee := .builtin .append, args := #[s, x], argTypes := #[t, t] })
    (base : Nat) (e : TypeId) (z : Value) (bytes : Nat) (ht : P.underlying t = some (.slice e)) (hinfo : (P.info? e).map (fun i => (i.zero, i.size, i.bytes)) = some (some z, 2, bytes)) (hzs : z.cells.size = 2)
    (v : Value) (n : Nat) (xs : List Value) (hs : a.eval s = v) (hown : w.ownsRow base e 2 v n xs)
    (g : Nat) (u u' : Value) (hx : a.eval x = .slice (some ⟨g, 0, none⟩) 1 1) (hc : w.cell? ⟨g, 0, none⟩ = some u) (hc' : w.cell? ⟨g, 1, none⟩ = some u') (h1 : u.oneCell' = true) (h2 : u'.oneCell' = true)
    (hn : n ≤ 1000000000) (hby : bytes ≤ 1000) (hbase : base ≤ w.heap.size)
    (h : ∀ v' w', w'.ownsRow base e 2 v' (n + 1) (xs ++ [u, u']) → w.grownBy w' v.ownBlock → (v'.ownBlock = v.ownBlock ∨ v'.ownBlock = some w.heap.size) → wpList P ops Q rest (a.put o.dst v') w') :
    wpList P ops Q (o :: rest) a w := by
  obtain ⟨i, hi, hz, hsz, hbs⟩ := info_parts hinfo
  refine wpList_append_own_at w hgd s x t ho base e i z 2 bytes ht hi hz hsz hbs hzs (by omega) v n xs hs hown ⟨g, 0, none⟩ 1 1 [u, u'] hx rfl ?_ ?_ ?_ ?_ hbase (fun v' w' h2 h3 _ h5 => h v' w' h2 h3 h5)
  · intro j y hj
    match j, hj with
    | 0, hj => simp at hj; subst hj; simpa [Addr.add] using hc
    | 1, hj => simp at hj; subst hj; simpa [Addr.add] using hc'
  · intro y hy
    simp only [List.mem_cons, List.not_mem_nil, or_false] at hy
    rcases hy with rfl | rfl
    · exact h1
    · exact h2
  · unfold maxLen; omega
  · have : (n + 1) * bytes ≤ 1000000001 * 1000 := Nat.mul_le_mul (by omega) hby
    omega
end G294
namespace Go.Proofs.YtlkoafnlklhaeabDoor
open Go.RowKit G294

set_option maxRecDepth 100000 in
set_option maxHeartbeats 4000000 in
theorem sEncodeShards_own (v : Value) (T : List (List UInt8)) (m : Int) (w : World) (hv : Seen w v (strs T)) :
    Calls Tryd.prog 18 #[v, .int .i64 m] w (RetShsOk 27 w (encR T m) (encOk T m)) := by
  have HV := Lib.hid hv
  obtain ⟨A, cp, hvv⟩ := hv.len
  rw [strs_length] at hvv
  subst hvv
  clear hv
  by_cases hs : shapeOk T.length m = true
  · have HS := Lib.hid hs
    have hbs := shapeOk_b hs
    obtain ⟨q, rfl⟩ := Int.eq_ofNat_of_zero_le (show 0 ≤ m by omega)
    clear hs
    by_cases htx : textsOk T = true
    · have HT := Lib.hid htx
      have HO : Hid (encOk T q = true) := by show encOk T q = true; rw [encOk, HS.out, HT.out]; rfl
      have HR := Lib.hid (encR_yes HO.out)
      have HAT := Lib.hid (textsOk_at htx)
      have hn40 := textsOk_first htx
      clear htx
      generalize hk : T.length = k at *
      have HK := Lib.hid hk
      generalize hnn : (T.getD 0 []).length = n at *
      have HNN := Lib.hid hnn
      clear hk hnn
      have hk8 : 1 ≤ k ∧ k ≤ 8 := by omega
      have hq6 : 1 ≤ q ∧ q ≤ 6 := by omega
      go_enter Tryd.func18, Tryd.ntmps18
      go_wp2_with fail
      refine (sGoodShape_any _ _ _).mono ?_
      rintro e w' ⟨rfl, rfl⟩
      rw [HS.out]
      go_wp2_with fail
      refine (l3Texts_any _ T _ HV.out).mono ?_
      rintro e w' ⟨rfl, rfl⟩
      rw [HT.out]
      go_wp2_with fail
      refine (l3Matrix_own k q _ (by omega) (by omega) (by omega) (by omega)).mono ?_
      rintro e w1 ⟨v1, vs1, rfl, hM1, k1⟩
      have hs1 := k1.size
      have HM1 := Lib.hid hM1
      clear hM1
      go_wp2_with fail
      refine (l3Rows_own (k + q) k n (codF k) T _ _ _ HM1.out.seen (HV.out.below k1.to_below) HK.out (by omega) (by omega) (by omega) HAT.out (by omega)).mono ?_
      rintro e w2 ⟨v2, rfl, hO2, k2⟩
      have hs2 := k2.size
      have hB2 : Below w.heap.size w w2 := k2.base k1.to_below (by omega) (by omega)
      obtain ⟨A2, c2, rfl, hlc2, hcm2, hx2⟩ := hO2.seen
      rw [strs_length, rowsT_length] at hlc2 hx2
      rw [strs_length, rowsT_length]
      obtain ⟨b, off, rfl, hbl, hcell⟩ := hx2 (by omega)
      have HC : Hid (∀ j, j < k + q → w2.cell? ⟨b, off + j, none⟩ = some (.string (str (comb k n (codF k j) T)))) := fun j hj => by
        refine hcell j _ ?_
        simp only [strs, List.getElem?_map, shards_rows _ _ _ _ _ _ hj, Option.map_some]
      unfold maxLen at hcm2
      clear hcell hx2 hO2
      generalize hrr : k + q = r at *
      go_wp2_with fail
      go_loopw [6, 26] (fun o i wr => ∃ j : Nat, j ≤ r ∧ i = .int .i64 j ∧ wr.ownsRow w2.heap.size 27 2 o j (shs ((shardsF r k n (codF k) T).take j)) ∧ Below w2.heap.size w2 wr)
        (fun _ i _ => r - (intOf i).toNat)
      case atStart => exact ⟨0, Nat.zero_le _, rfl, World.ownsRow_nil _ _ _ _, Below.refl _ _⟩
      case round =>
        obtain ⟨j, hj, rfl, hown, hb⟩ := hrel
        have hbs2 := hb.size
        by_cases hlt : j < r
        · have hji : (j : Int) < (r : Int) := by omega
          have hcx := (hb.cell (p := ⟨b, off + j, none⟩) hbl).trans (HC.out j hlt)
          go_wp2_with (at_builtin; refine wpList_append2 rfl _ _ _ rfl w2.heap.size 27 _ _ Tryd.underlying23 infoShard rfl _ j _ rfl (hown.alloc _) wr.heap.size (.int .i64 j) (.string (str (comb k n (codF k j) T))) rfl ?c1 ?c5 rfl rfl ?c2 ?c3 ?c4 ?_)
          case c1 => simp
          case c5 => simp
          case c2 => omega
          case c3 => omega
          case c4 => simp; omega
          intro v' w' hown' hg' _
          have hb' : Below w2.heap.size w2 w' := below_append (hb.alloc hbs2 _) (hown.alloc _) hg' (Nat.le_refl _) (by simp; omega)
          have hown3 : w'.ownsRow w2.heap.size 27 2 v' (j + 1) (shs ((shardsF r k n (codF k) T).take (j + 1))) := by
            rw [shardsF_take _ _ _ _ _ _ hlt, shs_append]; exact hown'
          clear hown' hg'
          go_wp2_with fail
          go_roundw
          case rel => exact ⟨j + 1, by omega, by go_num, hown3, hb'⟩
          case measure => simp [intOf]; omega
        · obtain rfl : j = r := by omega
          have hji : ¬ (j : Int) < (j : Int) := by omega
          go_wp2_with fail
          go_ret2
          refine ⟨_, by rw [HO.out]; rfl, ?_, TurnIn.of_below (hB2.trans (hb.mono (by omega)))⟩
          rw [List.take_of_length_le (by simp)] at hown
          rw [HR.out, encL, HNN.out, hrr]
          exact OwnSh.of_made (w := w) (own_base (by simpa using hown) (by omega))
    · have HT : Hid (textsOk T = false) := by show textsOk T = false; simpa using htx
      have HO : Hid (encOk T q = false) := by show encOk T q = false; rw [encOk, HT.out]; simp
      have HR := Lib.hid (encR_no HO.out)
      clear htx
      generalize hk : T.length = k at *
      go_enter Tryd.func18, Tryd.ntmps18
      go_wp2_with fail
      refine (sGoodShape_any _ _ _).mono ?_
      rintro e w' ⟨rfl, rfl⟩
      rw [HS.out]
      go_wp2_with fail
      refine (l3Texts_any _ T _ HV.out).mono ?_
      rintro e w' ⟨rfl, rfl⟩
      rw [HT.out]
      go_wp2_with fail
      go_ret2
      exact ⟨.slice none 0 0, by rw [HO.out]; rfl, by rw [HR.out]; exact OwnSh.nil _ _ _, TurnIn.refl _⟩
  · have HS : Hid (shapeOk T.length m = false) := by show shapeOk T.length m = false; simpa using hs
    have HO : Hid (encOk T m = false) := by show encOk T m = false; rw [encOk, HS.out]; rfl
    have HR := Lib.hid (encR_no HO.out)
    clear hs
    generalize hk : T.length = k at *
    go_enter Tryd.func18, Tryd.ntmps18
    go_wp2_with fail
    refine (sGoodShape_any _ _ _).mono ?_
    rintro e w' ⟨rfl, rfl⟩
    rw [HS.out]
    go_wp2_with fail
    go_ret2
    exact ⟨.slice none 0 0, by rw [HO.out]; rfl, by rw [HR.out]; exact OwnSh.nil _ _ _, TurnIn.refl _⟩

end Go.Proofs.YtlkoafnlklhaeabDoor

/- Decoding shards: the model's. -/
namespace G294
open Go Go.RowKit
/-- the rows of the code that the first shards name -/
def usedG (k : Nat) (l : List Sh) : Ents := fun i j => codF k (l.getD i (0, [])).1.toNat j
def usedF (k : Nat) (l : List Sh) : Ents := ent (mkM k k (usedG k l))
theorem used_mk (k : Nat) (l : List Sh) : mkM k k (usedF k l) = mkM k k (usedG k l) := mkM_congr fun i j hi hj => ent_mkM _ _ _ _ _ hi hj
def nosK (k : Nat) (l : List Sh) : List Int := (l.take k).map (·.1)
def txtK (k : Nat) (l : List Sh) : List (List UInt8) := (l.take k).map (·.2)
def decX (k n : Nat) (l : List Sh) : List (List UInt8) := rowsT k k n (bst (usedF k l) idF k k) (txtK k l)
def usedOk (k : Nat) (l : List Sh) : Bool := decide ((est (usedF k l) k k).2 = k)
def decY (k n : Nat) (l : List Sh) : List (List UInt8) := if usedOk k l = true then decX k n l else []
theorem decY_yes {k n : Nat} {l : List Sh} (h : usedOk k l = true) : decY k n l = decX k n l := if_pos h
theorem decY_no {k n : Nat} {l : List Sh} (h : usedOk k l = false) : decY k n l = [] := if_neg (by rw [h]; simp)
theorem nosK_succ {l : List Sh} {k : Nat} {s : Sh} (h : l[k]? = some s) : nosK (k + 1) l = nosK k l ++ [s.1] := by simp [nosK, List.take_add_one, h]
theorem txtK_succ {l : List Sh} {k : Nat} {s : Sh} (h : l[k]? = some s) : txtK (k + 1) l = txtK k l ++ [s.2] := by simp [txtK, List.take_add_one, h]
theorem nosK_length {l : List Sh} {k : Nat} (h : k ≤ l.length) : (nosK k l).length = k := by simp [nosK]; omega
theorem txtK_length {l : List Sh} {k : Nat} (h : k ≤ l.length) : (txtK k l).length = k := by simp [txtK]; omega
theorem nosK_get {l : List Sh} {k i : Nat} (h : k ≤ l.length) (hi : i < k) : (nosK k l).getD i 0 = (l.getD i (0, [])).1 := by
  have : i < l.length := by omega
  simp [nosK, List.getD, List.getElem?_map, List.getElem?_take, hi, this]
theorem txtK_get {l : List Sh} {k i : Nat} (h : k ≤ l.length) (hi : i < k) : (txtK k l).getD i [] = (l.getD i (0, [])).2 := by
  have : i < l.length := by omega
  simp [txtK, List.getD, List.getElem?_map, List.getElem?_take, hi, this]
theorem range_get {k j : Nat} (h : j < k) : ((List.range k).map fun i : Nat => (i : Int)).getD j 0 = (j : Int) := by simp [List.getD, h]
theorem used_eq {l : List Sh} {k : Nat} (h : k ≤ l.length) : mkM (nosK k l).length ((List.range k).map fun i : Nat => (i : Int)).length (fun i j => codF k ((nosK k l).getD i 0).toNat (((List.range k).map fun i : Nat => (i : Int)).getD j 0).toNat) = mkM k k (usedF k l) := by
  rw [nosK_length h]
  simp only [List.length_map, List.length_range]
  rw [used_mk]
  unfold mkM mkRow
  refine List.map_congr_left fun i hi => List.map_congr_left fun j hj => ?_
  rw [List.mem_range] at hi hj
  show codF k ((nosK k l).getD i 0).toNat (((List.range k).map fun i : Nat => (i : Int)).getD j 0).toNat = usedG k l i j
  rw [nosK_get h hi, range_get hj]
  simp [usedG]
end G294
namespace Go.Proofs.YtlkoafnlklhaeabDoor
open Go.RowKit G294

set_option maxRecDepth 100000 in
set_option maxHeartbeats 4000000 in
theorem l3Decode_own (k q n : Nat) (l : List Sh) (v : Value) (w : World) (hv : SeenH w v l) (hk : 1 ≤ k ∧ k ≤ 8) (hq : 1 ≤ q ∧ q ≤ 6) (hkl : k ≤ l.length)
    (hno : ∀ (i : Nat) (s : Sh), l[i]? = some s → 0 ≤ s.1 ∧ s.1 < ((k + q : Nat) : Int)) (htx : ∀ (i : Nat) (s : Sh), l[i]? = some s → s.2.length = n) (hn : n ≤ 40) :
    Calls Tryd.prog 53 #[v, .int .i64 k, .int .i64 q] w (RetStrsOk 9 w (decY k n l) (usedOk k l)) := by
  have HNO : Hid (∀ i, i < (nosK k l).length → 0 ≤ (nosK k l).getD i 0 ∧ (nosK k l).getD i 0 < ((k + q : Nat) : Int)) := fun i hi => by
    rw [nosK_length hkl] at hi
    rw [nosK_get hkl hi]
    exact hno i _ (by simp [List.getD, show i < l.length by omega])
  have HAL : Hid (∀ i, i < ((List.range k).map fun i : Nat => (i : Int)).length → 0 ≤ ((List.range k).map fun i : Nat => (i : Int)).getD i 0 ∧ ((List.range k).map fun i : Nat => (i : Int)).getD i 0 < (k : Int)) := fun i hi => by
    have hi2 : i < k := by simpa using hi
    rw [range_get hi2]; omega
  have HTX : Hid (∀ j, j < k → ((txtK k l).getD j []).length = n) := fun j hj => by
    rw [txtK_get hkl hj]
    exact htx j _ (by simp [List.getD, show j < l.length by omega])
  have HU := Lib.hid (used_eq hkl)
  have HLN := Lib.hid (nosK_length hkl)
  have HLT := Lib.hid (txtK_length hkl)
  obtain ⟨A, c, rfl, hlc, hcm, hx⟩ := hv
  obtain ⟨b, off, rfl, hbl, hcell⟩ := hx (by omega)
  have HC := Lib.hid hcell
  clear hx hcell hno htx
  unfold maxLen at hcm
  generalize hL : l.length = L at *
  have HL := Lib.hid hL
  clear hL
  go_enter Tryd.func53, Tryd.ntmps53
  go_wp2_with fail
  go_loopw [8, 9, 18] (fun o1 o2 i wr => ∃ j : Nat, j ≤ k ∧ i = .int .i64 j ∧ wr.ownsRow w.heap.size 3 1 o1 j (ints (nosK j l)) ∧ wr.ownsRow w.heap.size 9 1 o2 j (strs (txtK j l)) ∧ (∀ g, o1.ownBlock = some g → o2.ownBlock ≠ some g) ∧ Below w.heap.size w wr)
    (fun _ _ i _ => k - (intOf i).toNat)
  case atStart => exact ⟨0, Nat.zero_le _, rfl, World.ownsRow_nil _ _ _ _, World.ownsRow_nil _ _ _ _, (fun g h => by simp [Value.ownBlock] at h), Below.refl _ _⟩
  case round =>
    obtain ⟨j, hj, rfl, hown1, hown2, hap, hb⟩ := hrel
    have hbs := hb.size
    by_cases hlt : j < k
    · obtain ⟨⟨no, s⟩, hks⟩ := at_lt HL.out (show j < L by omega)
      have hc1 := (hb.cell (p := ⟨b, off + j * 2, none⟩) hbl).trans (HC.out j _ hks).1
      have hc2 := (hb.cell (p := ⟨b, off + j * 2 + 1, none⟩) hbl).trans (HC.out j _ hks).2
      simp only at hc1 hc2
      have hji : (j : Int) < (k : Int) := by omega
      have hjL : j < k := hlt
      have HN1 := Lib.hid (nosK_succ hks)
      have HT1 := Lib.hid (txtK_succ hks)
      clear hks
      have hlt1 := fun g e => (hown1.lt g e).2
      have hlt2 := fun g e => (hown2.lt g e).2
      go_wp2_with (at_builtin; refine wpList_append1 rfl _ _ _ rfl w.heap.size 3 _ _ Tryd.underlying47 infoInt rfl _ j _ rfl ((hown1.alloc _).alloc _) (wr.heap.size + 1) (.int .i64 no) rfl ?c1 rfl ?c2 ?c3 ?c4 ?_)
      case c2 => omega
      case c4 => first | omega | (simp; omega)
      intro v1 w1 hown1' hg1 hor1
      have hsz1 := hg1.size
      have hbox : w1.cell? ⟨wr.heap.size, 1, none⟩ = some (.string (str s)) := hg1.cell (by simp) (fun e => Nat.lt_irrefl _ (hlt1 wr.heap.size e.symm))
      have hown2' := own_other ((hown2.alloc (.cells #[.int .i64 no, .string (str s)] 27)).alloc (.cells #[.int .i64 no] 3)) hg1 (fun g e e2 => hap g e2 e)
      have hb1 : Below w.heap.size w w1 := below_append ((hb.alloc hbs _).alloc (by simp; omega) _) ((hown1.alloc _).alloc _) hg1 (Nat.le_refl _) (by simp; omega)
      simp only [World.size_alloc] at hsz1 hor1
      clear hown1 hg1 hc1 hc2
      go_wp2_with (at_builtin; refine wpList_append1 rfl _ _ _ rfl w.heap.size 9 _ _ Tryd.underlying35 infoStr rfl _ j _ rfl (hown2'.alloc _) w1.heap.size (.string (str s)) rfl ?d1 rfl ?d2 ?d3 ?d4 ?_)
      case d1 => simp
      case d2 => omega
      case d3 => omega
      case d4 => first | omega | (simp; omega)
      intro v2 w2 hown2'' hg2 hor2
      have hapa : ∀ g, v1.ownBlock = some g → u9.ownBlock ≠ some g := fun g e e2 => by
        rcases hor1 with h | h
        · exact hap g (h ▸ e) e2
        · rw [h] at e; cases e; have := hlt2 _ e2; omega
      have hown1'' := own_other (hown1'.alloc (.cells #[.string (str s)] 9)) hg2 (fun g e e2 => hapa g e e2)
      have hap' : ∀ g, v1.ownBlock = some g → v2.ownBlock ≠ some g := fun g e e2 => by
        rcases hor2 with h | h
        · exact hapa g e (h ▸ e2)
        · rw [h] at e2; have := (hown1'.lt _ e).2; simp at e2; omega
      have hb2 : Below w.heap.size w w2 := below_append (hb1.alloc (by omega) _) (hown2'.alloc _) hg2 (Nat.le_refl _) (by simp; omega)
      have hn1 : w2.ownsRow w.heap.size 3 1 v1 (j + 1) (ints (nosK (j + 1) l)) := by rw [HN1.out, ints_append]; exact hown1''
      have hn2 : w2.ownsRow w.heap.size 9 1 v2 (j + 1) (strs (txtK (j + 1) l)) := by rw [HT1.out, strs_append]; exact hown2''
      clear hown1'' hown2'' hown1' hown2' hg2 hor1 hor2 hapa hbox
      go_wp2_with fail
      go_roundw
      case rel => exact ⟨j + 1, by omega, by go_num, hn1, hn2, hap', hb2⟩
      case measure => simp [intOf]; omega
    · obtain rfl : j = k := by omega
      have hji : ¬ (j : Int) < (j : Int) := by omega
      have HS1 := Lib.hid (Seen.of_own hown1)
      have HS2 := Lib.hid (Seen.of_own hown2)
      clear hown1 hown2 hap
      go_wp2_with fail
      refine (l3Matrix_own j q _ (by omega) (by omega) (by omega) (by omega)).mono ?_
      rintro e w1 ⟨v1, vs1, rfl, hM1, k1⟩
      have hs1 := k1.size
      have HM1 := Lib.hid hM1
      clear hM1
      go_wp2_with fail
      refine (l3All_own j _ (by omega)).mono ?_
      rintro e w2 ⟨v2, rfl, hO2, k2⟩
      have hs2 := k2.size
      have HO2 := Lib.hid hO2
      clear hO2
      go_wp2_with fail
      refine (l2Part_own (j + q) j (codF j) (nosK j l) ((List.range j).map fun i : Nat => (i : Int)) _ _ _ _ (HM1.out.seen.touch k2) ((HS1.out.below k1.to_below).below k2.to_below) HO2.out.seen HNO.out HAL.out (by rw [HLN.out]; omega) (by simp; omega)).mono ?_
      rw [HU.out]
      rintro e w3 ⟨v3, vs3, rfl, hM3, k3⟩
      have hs3 := k3.size
      have HM3 := Lib.hid hM3
      clear hM3
      go_wp2_with fail
      refine (l2Inverse_own j (usedF j l) _ _ HM3.out.seen (by omega) (by omega)).mono ?_
      rintro e w4 ⟨v4, vs4, rfl, hM4, k4⟩
      have hs4 := k4.size
      obtain ⟨A4, c4, rfl, hlc4, hcm4⟩ := hM4.seen.len
      rw [mkM_length] at *
      unfold maxLen at hcm4
      have HM4 := Lib.hid hM4
      clear hM4
      have HB4 : Hid (Below w.heap.size w w4) := k4.base (k3.base (k2.base (k1.base hb (by omega) (by omega)) (by omega) (by omega)) (by omega) (by omega)) (by omega) (by omega)
      have HS4 : Hid (Seen w4 _ (strs (txtK j l))) := (((HS2.out.below k1.to_below).below k2.to_below).below k3.to_below).below k4.to_below
      have kA : TurnIn 0 0 w4 (w4.alloc (.cells #[.slice A4 j c4] 52)) := turn_alloc _ _
      by_cases hok : usedOk j l = true
      · have HY := Lib.hid (decY_yes (n := n) hok)
        have hok2 : decide ((est (usedF j l) j j).2 = j) = true := hok
        have HK := Lib.hid hok
        rw [hok2]
        clear hok hok2
        go_wp2_with fail
        refine (l3Rows_own j j n (bst (usedF j l) idF j j) (txtK j l) _ _ _ (HM4.out.seen.touch kA) (HS4.out.below kA.to_below) HLT.out (by omega) (by omega) (by omega) HTX.out (by omega)).mono ?_
        rintro e w5 ⟨v5, rfl, hO5, k5⟩
        go_wp2_with fail
        go_ret2
        refine ⟨_, by rw [HK.out]; rfl, ?_, ?_⟩
        · rw [HY.out, decX]
          exact ⟨own_base hO5.1 (by have := HB4.out.size; simp; omega), hO5.2⟩
        · exact TurnIn.of_below (k5.base (kA.base HB4.out (by have := HB4.out.size; omega) (by omega)) (by have := HB4.out.size; simp; omega) (by omega))
      · have hok1 : usedOk j l = false := by simpa using hok
        have hok2 : decide ((est (usedF j l) j j).2 = j) = false := hok1
        have HY := Lib.hid (decY_no (n := n) hok1)
        have HK := Lib.hid hok1
        rw [hok2]
        clear hok hok1 hok2
        go_wp2_with fail
        go_ret2
        refine ⟨.slice none 0 0, by rw [HK.out]; rfl, by rw [HY.out]; exact OwnStrs.nil _ _ _, TurnIn.of_below (kA.base HB4.out (by have := HB4.out.size; omega) (by omega))⟩

end Go.Proofs.YtlkoafnlklhaeabDoor
