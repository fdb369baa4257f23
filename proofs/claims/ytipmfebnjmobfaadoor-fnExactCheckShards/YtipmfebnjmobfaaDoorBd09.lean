/- Joined texts: SpecPart, CodeM, Comb, SpecRows, Iter, EncMath. -/
import Derived.Test.YtipmfebnjmobfaaDoorBd08
import Derived.Test.YtipmfebnjmobfaaDoorBd04
import Derived.Test.YtipmfebnjmobfaaDoorBd02
import Derived.Test.YtipmfebnjmobfaaDoorBd05
import Derived.Deep.DeepMust
import Derived.Deep.RegionHeldLaw
import Derived.Test.YtipmfebnjmobfaaDoorBd03
import Derived.Test.YtipmfebnjmobfaaDoorBd06
import Derived.StillTailTactics
import Derived.RangeFuncNested
import Derived.RangeFuncBound
import Derived.RangeFuncCalls
import Derived.RangeFuncLeaves
import Derived.Shelf.Abstract
import Derived.Shelf.RegionOpen
import Derived.WalkKit
import Derived.OwnWalkIn
import Derived.TacticsInMore
import Derived.LoopNIn
import Derived.LoopIn
import Derived.Test.YtipmfebnjmobfaaDoorBd01
set_option linter.unusedSimpArgs false
set_option linter.unusedVariables false
/- The model's PartOf. -/
namespace Go.Proofs.YtipmfebnjmobfaaDoor
open Go.RowKit G294

set_option maxRecDepth 100000 in
set_option maxHeartbeats 1000000 in
theorem l1Some_any (v : Value) (l : List Int) (size : Nat) (w : World) (hv : Seen w v (ints l)) (hsz : size ≤ 1000) (hs1 : 1 ≤ size) :
    Calls Tryd.prog 107 #[v, .int .i64 size] w fun e w' => e = .returned (.bool (someOk l size)) ∧ w = w' := by
  obtain ⟨A, c, rfl, hlc, hcm, hx⟩ := hv
  rw [ints_length] at hlc hx
  simp only [ints_length]
  unfold maxLen at hcm
  generalize hnn : l.length = n at *
  have HN := Lib.hid hnn
  have HX := Lib.hid hx
  clear hnn hx
  go_enter Tryd.func107, Tryd.ntmps107
  go_wp2_with fail
  go_loop [9] (fun i => ∃ k : Nat, k ≤ n ∧ i = .int .i64 k ∧ Hid (∀ i, i < k → okAt l size i)) (fun i => n - (intOf i).toNat)
  case atStart => exact ⟨0, Nat.zero_le _, rfl, fun i h => by omega⟩
  case round =>
    obtain ⟨k, hk, rfl, HK⟩ := hrel
    by_cases hlt : k < n
    · have hki : (k : Int) < (n : Int) := by omega
      have hkl : k < l.length := by rw [HN.out]; exact hlt
      obtain ⟨b, off, rfl, hbl, hcell⟩ := HX.out (by omega)
      have hcx := hcell k _ (ints_get l k hkl)
      obtain ⟨x, hxx⟩ : ∃ x, x = l[k] := ⟨_, rfl⟩
      rw [← hxx] at hcx
      have HXX : Hid (l.getD k 0 = x) := by show l.getD k 0 = x; rw [hxx]; simp [List.getD, hkl]
      clear hxx
      by_cases h1 : inB x 0 ((size : Int) - 1) = true
      · have H1 := Lib.hid h1
        have hin : 0 ≤ x ∧ x ≤ (size : Int) - 1 := by unfold inB at h1; simpa using h1
        clear h1
        by_cases hk0 : k = 0
        · have hkz : ¬ (0 : Int) < (k : Int) := by omega
          have hkd : decide ((0 : Int) < (k : Int)) = false := by simp; omega
          have HK2 : Hid (∀ i, i < k + 1 → okAt l size i) := fun i hi => by
            obtain rfl : i = k := by omega
            have e := HXX.out
            exact ⟨by omega, by omega, fun h => by omega⟩
          clear hcell hk0
          go_wp2_with fail
          refine (l1In_any _ _ _ _).mono ?_
          rintro e w' ⟨rfl, rfl⟩
          rw [H1.out]
          go_wp2_with fail
          go_round
          case rel => exact ⟨k + 1, by omega, by go_num, HK2⟩
          case measure => simp [intOf]; omega
        · have hkz : (0 : Int) < (k : Int) := by omega
          have hkd : decide ((0 : Int) < (k : Int)) = true := by simp; omega
          have hcy := hcell (k - 1) _ (ints_get l (k - 1) (by omega))
          obtain ⟨y, hyy⟩ : ∃ y, y = l[k - 1] := ⟨_, rfl⟩
          rw [← hyy] at hcy
          have HYY : Hid (l.getD (k - 1) 0 = y) := by
            show l.getD (k - 1) 0 = y
            rw [hyy]; simp [List.getD, show k - 1 < l.length by omega]
          have hk1 : (0 : Int) ≤ (k : Int) - 1 := by omega
          have hk1' : (1 : Int) ≤ (k : Int) := by omega
          have hk2 : (k : Int) - 1 < (n : Int) := by omega
          have hk3 : ((k : Int) - 1).toNat = k - 1 := by omega
          clear hyy hcell hk0
          by_cases h2 : x ≤ y
          · have hd : decide (x ≤ y) = true := by simpa using h2
            have HF := Lib.hid (someOk_no (l := l) (size := size) hkl (fun ho => by
              have e1 := HXX.out
              have e2 := HYY.out
              have := ho.2.2 (by omega)
              omega))
            go_wp2_with fail
            refine (l1In_any _ _ _ _).mono ?_
            rintro e w' ⟨rfl, rfl⟩
            rw [H1.out]
            go_wp2_with fail
            go_ret
            exact ⟨by rw [HF.out]; rfl, rfl⟩
          · have hd : decide (x ≤ y) = false := by simpa using h2
            have HK2 : Hid (∀ i, i < k + 1 → okAt l size i) := fun i hi => by
              by_cases e : i = k
              · subst e
                have e1 := HXX.out
                have e2 := HYY.out
                exact ⟨by omega, by omega, fun h => by omega⟩
              · exact HK.out i (by omega)
            go_wp2_with fail
            refine (l1In_any _ _ _ _).mono ?_
            rintro e w' ⟨rfl, rfl⟩
            rw [H1.out]
            go_wp2_with fail
            go_round
            case rel => exact ⟨k + 1, by omega, by go_num, HK2⟩
            case measure => simp [intOf]; omega
      · have H1 : Hid (inB x 0 ((size : Int) - 1) = false) := by show inB x 0 ((size : Int) - 1) = false; simpa using h1
        have hin : ¬ (0 ≤ x ∧ x ≤ (size : Int) - 1) := by unfold inB at h1; simpa using h1
        have HF := Lib.hid (someOk_no (l := l) (size := size) hkl (fun ho => by
          have e1 := HXX.out
          obtain ⟨o1, o2, _⟩ := ho
          omega))
        clear h1 hcell hin
        go_wp2_with fail
        refine (l1In_any _ _ _ _).mono ?_
        rintro e w' ⟨rfl, rfl⟩
        rw [H1.out]
        go_wp2_with fail
        go_ret
        exact ⟨by rw [HF.out]; rfl, rfl⟩
    · obtain rfl : k = n := by omega
      have hki : ¬ (k : Int) < (k : Int) := by omega
      have HF := Lib.hid ((someOk_iff l size).2 (fun i hi => HK.out i (by rw [← HN.out]; exact hi)))
      go_wp2_with fail
      go_ret
      exact ⟨by rw [HF.out]; rfl, rfl⟩

set_option maxRecDepth 100000 in
set_option maxHeartbeats 4000000 in
theorem l2Part_own (r c : Nat) (F : Ents) (l m : List Int) (v u x : Value) (w : World) (hs : SeenM w v (mkM r c F)) (hl : Seen w u (ints l)) (hm : Seen w x (ints m))
    (hlo : ∀ i, i < l.length → 0 ≤ l.getD i 0 ∧ l.getD i 0 < r) (hmo : ∀ i, i < m.length → 0 ≤ m.getD i 0 ∧ m.getD i 0 < c) (hn : l.length ≤ 1000) (hn2 : m.length ≤ 1000) :
    Calls Tryd.prog 109 #[.agg #[v], u, x] w (RetMat 5 42 w (mkM l.length m.length fun i j => F (l.getD i 0).toNat (m.getD j 0).toNat)) := by
  have k1 : TurnIn 0 0 w (w.alloc (.cells #[v] 60)) := turn_alloc _ _
  have k3 : TurnIn 0 0 w (((w.alloc (.cells #[v] 60)).alloc (.cells #[.slice none 0 0] 60)).alloc (.cells #[.slice none 0 0] 60)) := turn_trans (turn_trans k1 (turn_alloc _ _) (by omega)) (turn_alloc _ _) (by omega)
  have z3 : (((w.alloc (.cells #[v] 60)).alloc (.cells #[.slice none 0 0] 60)).alloc (.cells #[.slice none 0 0] 60)).heap.size = w.heap.size + 3 := by simp
  have q0 : (((w.alloc (.cells #[v] 60)).alloc (.cells #[.slice none 0 0] 60)).alloc (.cells #[.slice none 0 0] 60)).cell? ⟨w.heap.size, 0, none⟩ = some v := cell_turn (turn_trans (turn_alloc _ _) (turn_alloc _ _) (by omega)) (show (w.alloc (.cells #[v] 60)).cell? ⟨w.heap.size, 0, none⟩ = some v by simp) (by simp)
  have q1 : (((w.alloc (.cells #[v] 60)).alloc (.cells #[.slice none 0 0] 60)).alloc (.cells #[.slice none 0 0] 60)).cell? ⟨w.heap.size + 1, 0, none⟩ = some (.slice none 0 0) := alloc_mid_cell _ _ _ _ _
  have q1f : (((w.alloc (.cells #[v] 60)).alloc (.cells #[.slice none 0 0] 60)).alloc (.cells #[.slice none 0 0] 60)).frozen? ⟨w.heap.size + 1, 0, none⟩ = false := alloc_mid_frozen _ _ _ _ _
  have q2 : (((w.alloc (.cells #[v] 60)).alloc (.cells #[.slice none 0 0] 60)).alloc (.cells #[.slice none 0 0] 60)).cell? ⟨w.heap.size + 1 + 1, 0, none⟩ = some (.slice none 0 0) := alloc_last_cell _ _ _ _ _
  have q2f : (((w.alloc (.cells #[v] 60)).alloc (.cells #[.slice none 0 0] 60)).alloc (.cells #[.slice none 0 0] 60)).frozen? ⟨w.heap.size + 1 + 1, 0, none⟩ = false := alloc_last_frozen _ _ _ _ _
  have hM0 : OwnM 5 42 (((w.alloc (.cells #[v] 60)).alloc (.cells #[.slice none 0 0] 60)).alloc (.cells #[.slice none 0 0] 60)) (w.heap.size + 3) (((w.alloc (.cells #[v] 60)).alloc (.cells #[.slice none 0 0] 60)).alloc (.cells #[.slice none 0 0] 60)).heap.size (.slice none 0 0) (mkM 0 m.length fun i j => F (l.getD i 0).toNat (m.getD j 0).toNat) [] := OwnM.nil _ _ _ _
  obtain ⟨A, cp, hvv, _, _⟩ := hs.len
  obtain ⟨A1, c1, hu⟩ := hl.len
  obtain ⟨A2, c2, hx⟩ := hm.len
  rw [ints_length] at hu hx
  rw [mkM_length] at hvv
  subst hu hx hvv
  have HS := Lib.hid hs
  have HL := Lib.hid hl
  have HM := Lib.hid hm
  have HLO := Lib.hid hlo
  have HMO := Lib.hid hmo
  have K3 := Lib.hid k3
  have HM0 := Lib.hid hM0
  clear hs hl hm hlo hmo k1 k3 hM0
  obtain ⟨n, hnn⟩ : ∃ n, n = l.length := ⟨_, rfl⟩
  obtain ⟨n2, hnn2⟩ : ∃ n, n = m.length := ⟨_, rfl⟩
  have HN := Lib.hid hnn
  have HN2 := Lib.hid hnn2
  rw [← hnn] at hn HL ⊢
  rw [← hnn2] at hn2 HM HM0 ⊢
  clear hnn hnn2
  go_enter Tryd.func109, Tryd.ntmps109
  go_wp2_with fail
  generalize (((w.alloc (.cells #[.slice A r cp] 60)).alloc (.cells #[.slice none 0 0] 60)).alloc (.cells #[.slice none 0 0] 60)) = w3 at *
  go_loopw [16] (fun i wr => ∃ (k : Nat) (o : Value) (vs : List Value), k ≤ n ∧ i = .int .i64 k ∧ Hid (OwnM 5 42 wr (w.heap.size + 3) wr.heap.size o (mkM k n2 fun i j => F (l.getD i 0).toNat (m.getD j 0).toNat) vs) ∧
      wr.cell? ⟨w.heap.size + 1 + 1, 0, none⟩ = some o ∧ wr.frozen? ⟨w.heap.size + 1 + 1, 0, none⟩ = false ∧ wr.cell? ⟨w.heap.size + 1, 0, none⟩ = some (.slice none 0 0) ∧ wr.frozen? ⟨w.heap.size + 1, 0, none⟩ = false ∧ wr.cell? ⟨w.heap.size, 0, none⟩ = some (.slice A r cp) ∧ Hid (Below w.heap.size w wr) ∧ w.heap.size + 3 ≤ wr.heap.size)
    (fun i _ => n - (intOf i).toNat)
  case atStart => exact ⟨0, .slice none 0 0, [], Nat.zero_le _, rfl, HM0, q2, q2f, q1, q1f, q0, Lib.hid K3.out.to_below, by omega⟩
  case round =>
    obtain ⟨k, o, vs, hk, rfl, HO, hc2, hf2, hc1, hf1, hc0, HB, hsz⟩ := hrel
    clear q0 q1 q1f q2 q2f z3
    by_cases hlt : k < n
    · have hki : (k : Int) < (n : Int) := by omega
      have hkl : k < l.length := by rw [← HN.out]; exact hlt
      obtain ⟨p, hp⟩ := Int.eq_ofNat_of_zero_le (HLO.out k hkl).1
      have hpr : p < r := by have := (HLO.out k hkl).2; omega
      have HP := Lib.hid hp
      obtain ⟨A3, c3, e3, hlc3, hcm3, hx3⟩ := HL.out.below HB.out
      rw [ints_length, ← HN.out] at e3 hlc3 hx3
      simp only [Value.slice.injEq] at e3
      obtain ⟨rfl, z9, rfl⟩ := e3
      clear z9
      obtain ⟨b3, o3, rfl, hb3, hc3⟩ := hx3 (by omega)
      have g3 := hc3 k _ (ints_get l k hkl)
      have e4 : l[k] = (p : Int) := by simp [List.getD, hkl] at hp; exact hp
      rw [e4] at g3
      unfold maxLen at hcm3
      clear hc3 hx3 e4 hp
      obtain ⟨B0, hB0⟩ : ∃ B0, B0 = wr.heap.size := ⟨_, rfl⟩
      have hB1 : B0 ≤ wr.heap.size := by omega
      have hB2 : wr.heap.size ≤ B0 := by omega
      clear hB0
      go_wp2_with fail
      go_loopw [10, 22] (fun y i wq => ∃ mm : Nat, mm ≤ n2 ∧ i = .int .i64 mm ∧ Hid (wq.ownsRow B0 5 1 y mm (bys (mkRow mm fun j => F p (m.getD j 0).toNat))) ∧ Hid (TurnIn 0 0 wr wq))
        (fun _ i _ => n2 - (intOf i).toNat)
      case atStart => exact ⟨0, Nat.zero_le _, rfl, Lib.hid (World.ownsRow_nil _ _ _ _), Lib.hid (TurnIn.refl _)⟩
      case round =>
        obtain ⟨mm, hmm, rfl, HOWN, HT⟩ := hrel
        have hst := HT.out.size
        have hBB := HT.out.base HB.out (by omega) (by omega)
        have HBB := Lib.hid hBB
        have hc0' := cell_turn HT.out hc0 (by omega)
        clear hBB
        by_cases hlm : mm < n2
        · have hmi : (mm : Int) < (n2 : Int) := by omega
          have hml : mm < m.length := by rw [← HN2.out]; exact hlm
          obtain ⟨q, hq⟩ := Int.eq_ofNat_of_zero_le (HMO.out mm hml).1
          have hqr : q < c := by have := (HMO.out mm hml).2; omega
          have HQ := Lib.hid hq
          obtain ⟨A4, c4, e5, hlc4, hcm4, hx4⟩ := HM.out.below HBB.out
          rw [ints_length, ← HN2.out] at e5 hlc4 hx4
          simp only [Value.slice.injEq] at e5
          obtain ⟨rfl, z9, rfl⟩ := e5
          clear z9
          obtain ⟨b4, o4, rfl, hb4, hc4⟩ := hx4 (by omega)
          have g4 := hc4 mm _ (ints_get m mm hml)
          have e4 : m[mm] = (q : Int) := by simp [List.getD, hml] at hq; exact hq
          rw [e4] at g4
          unfold maxLen at hcm4
          obtain ⟨bb, off, cp5, b', off', c', e6, hl5, h5, h6, h7, hl6, h8⟩ := (HS.out.below HBB.out).cellF p q hpr hqr
          simp only [Value.slice.injEq] at e6
          obtain ⟨rfl, z9, rfl⟩ := e6
          clear z9
          unfold maxLen at hl5 hl6
          have hown := HOWN.out
          have HF : Hid (F p (m.getD mm 0).toNat = F p q) := by show F p _ = F p q; rw [HQ.out]; rfl
          have hpi : (p : Int) < (r : Int) := by omega
          have hqi : (q : Int) < (c : Int) := by omega
          clear hc4 hx4 e4 hq
          go_wp2_with (at_builtin; refine wpList_append1 rfl _ _ _ rfl _ 5 _ _ Tryd.underlying42 infoByte rfl _ mm _ rfl (hown.alloc _) wr.heap.size (.int .u8 ((F p q).toNat : Int)) rfl ?c1 rfl ?c2 ?c3 ?c4 ?_)
          case c1 => simp
          case c2 => omega
          case c3 => omega
          case c4 => simp; omega
          intro v' w' hown' hg' _
          have hT2 := turn_trans (turn_trans HT.out (turn_alloc wr (.cells #[.int .u8 ((F p q).toNat : Int)] 5)) (by omega)) (TurnIn.of_grown hg' (fun g e => (hown.alloc (.cells #[.int .u8 ((F p q).toNat : Int)] 5)).lt g e)) (by omega)
          have hown2 : w'.ownsRow B0 5 1 v' (mm + 1) (bys (mkRow (mm + 1) fun j => F p (m.getD j 0).toNat)) := by
            have e : (mkRow (mm + 1) fun j => F p (m.getD j 0).toNat) = (mkRow mm fun j => F p (m.getD j 0).toNat) ++ [F p q] := by
              rw [← HF.out]; simp [mkRow, List.range_succ]
            rw [e, bys_append]; exact hown'
          have HT2 := Lib.hid hT2
          have HOWN2 := Lib.hid hown2
          clear hown' hg' hown2 hT2 hown
          go_wp2_with fail
          go_roundw
          case rel => exact ⟨mm + 1, by omega, by go_num, HOWN2, HT2⟩
          case measure => simp [intOf]; omega
        · obtain rfl : mm = n2 := by omega
          have hmi : ¬ (mm : Int) < (mm : Int) := by omega
          obtain ⟨A5, n5, c5, rfl⟩ := own_isSlice HOWN.out
          obtain ⟨A6, n6, c6, rfl⟩ := HO.out.isSlice
          have hrow : wr.ownsRow (w.heap.size + 3) 42 1 (.slice A6 n6 c6) k vs := by simpa using (HO.out.keep HT.out (by omega)).row
          have hob : ∀ g, (Value.slice A6 n6 c6).ownBlock = some g → w.heap.size + 3 ≤ g := fun g e => (hrow.lt g e).1
          have hne2 : (Value.slice A6 n6 c6).ownBlock ≠ some (w.heap.size + 1 + 1) := fun e => by have := hob _ e; omega
          have hne1 : (Value.slice A6 n6 c6).ownBlock ≠ some (w.heap.size + 1) := fun e => by have := hob _ e; omega
          have hne0 : (Value.slice A6 n6 c6).ownBlock ≠ some w.heap.size := fun e => by have := hob _ e; omega
          have kW := turn_trans HT.out (turn_alloc wr (.cells #[.slice A5 n5 c5] 42)) (by omega)
          have hR : OwnBytes 5 (wr.alloc (.cells #[.slice A5 n5 c5] 42)) B0 wr.heap.size (.slice A5 n5 c5) (mkRow mm fun j => F p (m.getD j 0).toNat) := ⟨by simpa using HOWN.out.alloc _, by simp, fun g e => (HOWN.out.lt g e).2⟩
          have hc2' := cell_turn HT.out hc2 (by omega)
          go_wp2_with (at_builtin; refine wpList_append1 rfl _ _ _ rfl (w.heap.size + 3) 42 _ _ Tryd.underlying58 infoRowB rfl _ k vs rfl (hrow.alloc _) wr.heap.size (.slice A5 n5 c5) rfl ?d1 rfl ?d2 ?d3 ?d4 ?_)
          case d2 => omega
          case d4 => omega
          intro v' w' hown' hg' hv'
          obtain ⟨A7, n7, c7, rfl⟩ := own_isSlice hown'
          have g2 := (cell_past kW hg' hne2 (by omega) 0).trans hc2
          have g2f := (frozen_past kW hg' hne2 (by omega) 0).trans hf2
          have g1 := (cell_past kW hg' hne1 (by omega) 0).trans hc1
          have g1f := (frozen_past kW hg' hne1 (by omega) 0).trans hf1
          have g0 := (cell_past kW hg' hne0 (by omega) 0).trans hc0
          have hM5 := (((HO.out.push kW hR hB2 (by omega) (by simpa using hown') hg' (by rw [World.size_alloc]; exact hv')).keep (turn_setCell w' (w.heap.size + 1 + 1) 0 (.slice A7 n7 c7)) (by omega)).congr (L' := mkM (k + 1) mm fun i j => F (l.getD i 0).toNat (m.getD j 0).toNat) (by rw [mkM_succ, HP.out]; rfl))
          have HM5 := Lib.hid hM5
          have hsw : wr.heap.size ≤ w'.heap.size := by have := hg'.size; have e : (wr.alloc (.cells #[.slice A5 n5 c5] 42)).heap.size = wr.heap.size + 1 := by simp
                                                       omega
          have hb5 : Below w.heap.size w (w'.setCell ⟨w.heap.size + 1 + 1, 0, none⟩ (.slice A7 n7 c7)) := Below.setCell (TurnIn.base (TurnIn.of_grown hg' (fun g e => (hrow.alloc (.cells #[.slice A5 n5 c5] 42)).lt g e)) (kW.base HB.out (by omega) (by omega)) (by have := kW.size; omega) (by omega)) (show w.heap.size ≤ w.heap.size + 1 + 1 by omega) _
          have HB5 := Lib.hid hb5
          clear hM5 hb5 hown' hg' hv' hR kW hrow hob hc0 hc1 hf1 hc2 hf2
          go_wp2_with fail
          go_roundw
          case rel => exact ⟨k + 1, .slice A7 n7 c7, _, by omega, by go_num, Lib.hid (HM5.out.wider (Nat.le_refl _) (by simp) (Nat.le_refl _)), World.cell?_setCell_same _ _ _ g2, by simp [g2f], (cell_set_other w' _ _ _ (by omega)).trans g1, (frozen_set_other w' _ _ _ (by omega)).trans g1f, (cell_set_other w' _ _ _ (by omega)).trans g0, HB5, by simp; omega⟩
          case measure => simp [intOf]; omega
    · obtain rfl : k = n := by omega
      have hki : ¬ (k : Int) < (k : Int) := by omega
      obtain ⟨A9, n9, c9, rfl⟩ := HO.out.isSlice
      go_wp2_with fail
      refine bodyPost_ret (v := .agg #[.slice A9 n9 c9]) (by simp [results, Tryd.results109, go_sem, hc1]) rfl ?_
      have kk := turn_setCell wr (w.heap.size + 1) 0 (.slice A9 n9 c9)
      exact ⟨_, vs, rfl, (HO.out.keep kk (by omega)).wider (by omega) (by simp) (by simp), TurnIn.of_below (HB.out.setCell (Nat.le_succ _) _)⟩

end Go.Proofs.YtipmfebnjmobfaaDoor

/- CodeMatrix: the program's and the model's. -/
namespace G294
open Go Go.RowKit
/-- append(s, x...) of a row of one-cell elements, onto a row of the call's own -/
theorem wpList_appendN {P : Program} {w : World} {ops : Array Oper} {rest : List Oper} {o : Oper} {a : Act} {Q : Exit → Act → World → Prop} (hgd : o.guard = none) (s x : Operand) (t : TypeId)
    (ho : o.op = .call { callee := .builtin .append, args := #[s, x], argTypes := #[t, t] })
    (base : Nat) (e : TypeId) (z : Value) (bytes : Nat) (ht : P.underlying t = some (.slice e)) (hinfo : (P.info? e).map (fun i => (i.zero, i.size, i.bytes)) = some (some z, 1, bytes)) (hzs : z.cells.size = 1)
    (v : Value) (n : Nat) (xs : List Value) (hs : a.eval s = v) (hown : w.ownsRow base e 1 v n xs)
    (A : Addr) (m c : Nat) (ys : List Value) (hx : a.eval x = .slice (some A) m c) (hl : ys.length = m) (hc : ∀ j y, ys[j]? = some y → w.cell? (A.add j) = some y) (h1 : ∀ y, y ∈ ys → y.oneCell' = true)
    (hn : n + m ≤ 1000000000) (hby : bytes ≤ 1000) (hbase : base ≤ w.heap.size)
    (h : ∀ v' w', w'.ownsRow base e 1 v' (n + m) (xs ++ ys) → w.grownBy w' v.ownBlock → (v'.ownBlock = v.ownBlock ∨ v'.ownBlock = some w.heap.size) → wpList P ops Q rest (a.put o.dst v') w') :
    wpList P ops Q (o :: rest) a w := by
  obtain ⟨i, hi, hz, hsz, hbs⟩ := info_parts hinfo
  refine wpList_append_own_at w hgd s x t ho base e i z 1 bytes ht hi hz hsz hbs hzs (by omega) v n xs hs hown A m c ys hx (by omega) hc h1 (by unfold maxLen; omega) ?_ hbase (fun v' w' h2 h3 _ h5 => h v' w' h2 h3 h5)
  have : (n + m) * bytes ≤ 1000000000 * 1000 := Nat.mul_le_mul (by omega) hby
  omega
/-- the rows of two matrices of the call's own, one behind the other -/
theorem OwnM.join {E EE : TypeId} {w w1 : World} {lo hi a b : Nat} {v v' u : Value} {L M : Mat} {vs us : List Value} (h : OwnM E EE w lo hi v L vs) (hu : OwnM E EE w a b u M us) (h1 : hi ≤ a) (h2 : lo ≤ a)
    (ho : w1.ownsRow lo EE 1 v' (L.length + M.length) (vs ++ us)) (hg : w.grownBy w1 v.ownBlock) (hv : v'.ownBlock = v.ownBlock ∨ v'.ownBlock = some w.heap.size) : OwnM E EE w1 lo w1.heap.size v' (L ++ M) (vs ++ us) := by
  have hvl := h.vlen
  have hul := hu.vlen
  have hs := hg.size
  have hob : ∀ g, v.ownBlock = some g → g < hi := h.out
  have ht := h.top
  have key : ∀ (i : Nat) (x : Value), (vs ++ us)[i]? = some x → (i < L.length ∧ vs[i]? = some x) ∨ (L.length ≤ i ∧ us[i - L.length]? = some x) := by
    intro i x hi'
    rcases Nat.lt_or_ge i vs.length with hlt | hge
    · rw [List.getElem?_append_left hlt] at hi'; exact .inl ⟨by omega, hi'⟩
    · rw [List.getElem?_append_right hge, hvl] at hi'
      exact .inr ⟨by omega, hi'⟩
  have low : ∀ (i : Nat) (x : Value) (g : Nat), vs[i]? = some x → x.ownBlock = some g → g < hi := fun i x g e1 e2 => (h.rows i x e1).2.2 g e2
  have high : ∀ (i : Nat) (x : Value) (g : Nat), us[i]? = some x → x.ownBlock = some g → a ≤ g := fun i x g e1 e2 => ((hu.rows i x e1).1.lt g e2).1
  refine ⟨by simpa using ho, Nat.le_refl _, fun g e => (ho.lt g e).2, ?_, ?_⟩
  · intro i x hi'
    rcases key i x hi' with ⟨h3, h4⟩ | ⟨h3, h4⟩
    · have e : (L ++ M).getD i [] = L.getD i [] := by simp [List.getD, List.getElem?_append_left h3]
      rw [e]
      exact ((h.rows i x h4).other hg (fun g e1 e2 => (h.apart i x g h4 e1).1 e2)).wider (Nat.le_refl _) (by omega) (Nat.le_refl _)
    · have e : (L ++ M).getD i [] = M.getD (i - L.length) [] := by simp [List.getD, List.getElem?_append_right h3]
      rw [e]
      exact ((hu.rows _ x h4).other hg (fun g e1 e2 => by have := high _ x g h4 e1; have := hob g e2; omega)).wider h2 (by have := hu.top; omega) (Nat.le_refl _)
  · intro i x g hi' hgx
    have hlt : g < w.heap.size := by
      rcases key i x hi' with ⟨_, h4⟩ | ⟨_, h4⟩
      · exact ((h.rows i x h4).1.lt g hgx).2
      · exact ((hu.rows _ x h4).1.lt g hgx).2
    refine ⟨fun e => ?_, fun j y hj hgy => ?_⟩
    · rcases hv with e2 | e2
      · rw [e2] at e
        rcases key i x hi' with ⟨_, h4⟩ | ⟨_, h4⟩
        · exact (h.apart i x g h4 hgx).1 e
        · have := high _ x g h4 hgx; have := hob g e; omega
      · rw [e2] at e; simp at e; omega
    · rcases key i x hi' with ⟨h3, h4⟩ | ⟨h3, h4⟩ <;> rcases key j y hj with ⟨h5, h6⟩ | ⟨h5, h6⟩
      · exact (h.apart i x g h4 hgx).2 j y h6 hgy
      · have := low i x g h4 hgx; have := high _ y g h6 hgy; omega
      · have := low j y g h6 hgy; have := high _ x g h4 hgx; omega
      · have := (hu.apart _ x g h4 hgx).2 _ y h6 hgy; omega
/-- a store into a block that is none of its own -/
theorem OwnM.other {E EE : TypeId} {w w' : World} {lo hi B : Nat} {v : Value} {L : Mat} {vs : List Value} (h : OwnM E EE w lo hi v L vs) (hg : w.grownBy w' (some B)) (hv : v.ownBlock ≠ some B) (hr : ∀ u ∈ vs, u.ownBlock ≠ some B) : OwnM E EE w' lo hi v L vs :=
  ⟨own_other h.row hg (fun g e e2 => by cases e2; exact hv e), Nat.le_trans h.top hg.size, h.out, fun i u hu => (h.rows i u hu).other hg (fun g e e2 => by cases e2; exact hr u (List.mem_of_getElem? hu) e), h.apart⟩
theorem OwnM.rowBlock {E EE : TypeId} {w : World} {lo hi : Nat} {v : Value} {L : Mat} {vs : List Value} (h : OwnM E EE w lo hi v L vs) : ∀ u ∈ vs, ∀ g, u.ownBlock = some g → lo ≤ g ∧ g < hi := fun u hu g e => by
  obtain ⟨i, hi, rfl⟩ := List.getElem_of_mem hu
  have := h.rows i _ (List.getElem?_eq_getElem hi)
  exact ⟨(this.1.lt g e).1, this.2.2 g e⟩
theorem grown_set {w : World} (B o : Nat) (x : Value) : w.grownBy (w.setCell ⟨B, o, none⟩ x) (some B) := by
  have t := turn_setCell w B o x
  exact ⟨t.os, t.tape, t.output, t.size, fun k hk hne => t.block k hk (by have : k ≠ B := fun e => hne (by rw [e]); omega)⟩
theorem rows_oneC {E EE : TypeId} {w : World} {lo hi : Nat} {v : Value} {L : Mat} {vs : List Value} (h : OwnM E EE w lo hi v L vs) : ∀ y, y ∈ vs → y.oneCell' = true := fun y hy => by
  obtain ⟨i, hi, rfl⟩ := List.getElem_of_mem hy
  obtain ⟨A, n, c, e⟩ := own_isSlice (h.rows i _ (List.getElem?_eq_getElem hi)).1
  rw [e]; rfl
/-- the matrix of a code -/
def codF (k : Nat) : Ents := fun i j => if i < k then idF i j else cauF k (i - k) j
def codM (k m : Nat) : Mat := mkM (k + m) k (codF k)
theorem codM_eq (k m : Nat) : mkM k k idF ++ mkM m k (cauF k) = codM k m := by
  apply List.ext_getElem
  · simp [codM]
  · intro i h1 h2
    rcases Nat.lt_or_ge i k with h | h
    · rw [List.getElem_append_left (by simpa using h)]
      simp only [codM, mkM, List.getElem_map, List.getElem_range]
      exact mkRow_congr fun j _ => by simp [codF, h]
    · rw [List.getElem_append_right (by simpa using h)]
      simp only [codM, mkM, List.getElem_map, List.getElem_range, List.length_map, List.length_range]
      exact mkRow_congr fun j _ => by simp [codF, Nat.not_lt.2 h]
def codR (k m : Int) : Mat := if shapeOk k m then codM k.toNat m.toNat else []
theorem codR_yes {k m : Nat} (h : shapeOk k m = true) : codR k m = codM k m := by unfold codR; rw [if_pos h]; simp
theorem codR_no {k m : Int} (h : shapeOk k m = false) : codR k m = [] := by unfold codR; rw [if_neg (by rw [h]; simp)]
theorem codR_siz (k m : Int) : sizM (codR k m) ≤ 256 := by
  unfold codR; split
  · rename_i h
    have := shapeOk_b h
    exact sizM_side _ (by omega) (by omega)
  · simp [sizM]
end G294
namespace Go.Proofs.YtipmfebnjmobfaaDoor
open Go.RowKit G294

set_option maxRecDepth 100000 in
set_option maxHeartbeats 2000000 in
theorem codeMatrix_own (k m : Int) (w : World) (ht : Tab w) (h0 : 1 < w.heap.size) :
    Calls Tryd.prog 38 #[.int .i64 k, .int .i64 m] w (RetMatOk 5 42 w (codR k m) (shapeOk k m)) := by
  have hb0 : Below w.heap.size w (w.alloc (.cells #[.slice none 0 0] 60)) := (Below.refl _ _).alloc (Nat.le_refl _) _
  have hz0 := World.size_alloc w (.cells #[.slice none 0 0] 60)
  by_cases h : shapeOk k m = true
  · have HO := Lib.hid h
    have hb := shapeOk_b h
    clear h
    obtain ⟨p, rfl⟩ := Int.eq_ofNat_of_zero_le (show 0 ≤ k by omega)
    obtain ⟨q, rfl⟩ := Int.eq_ofNat_of_zero_le (show 0 ≤ m by omega)
    have HR := Lib.hid (codR_yes HO.out)
    have HG1 : Hid (goodI p = true) := by show goodI p = true; simp [goodI]; omega
    have HS : Hid (sidesOk q p = true) := by show sidesOk q p = true; simp [sidesOk, goodI]; omega
    have HR1 : Hid (idR p = mkM p p idF) := by show idR p = _; unfold idR; rw [if_pos HG1.out]; simp
    have HR2 : Hid (cauR q p = mkM q p (cauF p)) := by show cauR q p = _; unfold cauR; rw [if_pos HS.out]; simp
    have c0 := alloc_cell w (.slice none 0 0) 60
    have l0 := alloc_lt w (.cells #[.slice none 0 0] 60)
    have f0 : (w.alloc (.cells #[.slice none 0 0] 60)).frozen? ⟨w.heap.size, 0, none⟩ = false := by simp
    go_enter Tryd.func38, Tryd.ntmps38
    go_wp2_with fail
    refine (goodShape_any _ _ _).mono ?_
    rintro e w' ⟨rfl, rfl⟩
    rw [HO.out]
    go_wp2_with fail
    refine (identity_own p _).mono ?_
    rintro e w1 ⟨v1, vs1, rfl, hM1, k1⟩
    rw [HR1.out] at hM1
    obtain ⟨g1, cp1, rfl, hg1, hg1', hcp1, hcp1'⟩ := hM1.sliceF (by omega)
    have hs1 := k1.size
    have hb1 := k1.base hb0 (by omega) (by omega)
    have a1 := turn_alloc w1 (.cells #[.slice (some ⟨g1, 0, none⟩) p cp1] 60)
    have z1 := World.size_alloc w1 (.cells #[.slice (some ⟨g1, 0, none⟩) p cp1] 60)
    replace hb1 := a1.base hb1 (by omega) (by omega)
    replace hM1 := hM1.keep a1 (by omega)
    have c1 := alloc_cell w1 (.slice (some ⟨g1, 0, none⟩) p cp1) 60
    have l1 := alloc_lt w1 (.cells #[.slice (some ⟨g1, 0, none⟩) p cp1] 60)
    replace c0 := cell_turn a1 (cell_turn k1 c0 l0) (by omega)
    replace f0 := frozen_turn a1 (frozen_turn k1 f0 l0) (by omega)
    go_wp2_with fail
    refine (cauchy_own q p _ (ht.below hb1 h0) (by omega)).mono ?_
    rintro e w2 ⟨v2, vs2, rfl, hM2, k2⟩
    rw [HR2.out] at hM2
    obtain ⟨g2, cp2, rfl, hg2, hg2', hcp2, hcp2'⟩ := hM2.sliceF (by omega)
    have hs2 := k2.size
    have hb2 := k2.base hb1 (by omega) (by omega)
    have a2 := turn_alloc w2 (.cells #[.slice (some ⟨g2, 0, none⟩) q cp2] 60)
    have z2 := World.size_alloc w2 (.cells #[.slice (some ⟨g2, 0, none⟩) q cp2] 60)
    replace hb2 := a2.base hb2 (by omega) (by omega)
    replace hM1 := (hM1.keep k2 (by omega)).keep a2 (by omega)
    replace hM2 := hM2.keep a2 (by omega)
    have c2 := alloc_cell w2 (.slice (some ⟨g2, 0, none⟩) q cp2) 60
    replace c1 := cell_turn a2 (cell_turn k2 c1 l1) (by omega)
    replace c0 := cell_turn a2 (cell_turn k2 c0 (by omega)) (by omega)
    replace f0 := frozen_turn a2 (frozen_turn k2 f0 (by omega)) (by omega)
    have hys : ∀ j y, vs2[j]? = some y → (w2.alloc (.cells #[.slice (some ⟨g2, 0, none⟩) q cp2] 60)).cell? ((⟨g2, 0, none⟩ : Addr).add j) = some y := fun j y hj => by
      rw [Addr.add_lit, Nat.zero_add]; exact hM2.cellAt hj
    have hyl : vs2.length = q := by have := hM2.vlen; simpa using this
    have hy1 : ∀ y, y ∈ vs2 → y.oneCell' = true := fun y hy => by
      obtain ⟨i, hi, rfl⟩ := List.getElem_of_mem hy
      obtain ⟨A, n, c, e⟩ := own_isSlice (hM2.rows i _ (List.getElem?_eq_getElem hi)).1
      rw [e]; rfl
    have hr1 : (w2.alloc (.cells #[.slice (some ⟨g2, 0, none⟩) q cp2] 60)).ownsRow (w.alloc (.cells #[.slice none 0 0] 60)).heap.size 42 1 (.slice (some ⟨g1, 0, none⟩) p cp1) p vs1 := by have := hM1.row; simpa using this
    have HYS := Lib.hid hys
    have HY1 := Lib.hid hy1
    have HM1 := Lib.hid hM1
    have HM2 := Lib.hid hM2
    have HR0 := Lib.hid hr1
    clear hys hy1 hM1 hM2 hr1
    go_wp2_with (at_builtin; refine wpList_appendN rfl _ _ _ rfl (w.alloc (.cells #[.slice none 0 0] 60)).heap.size 42 _ _ Tryd.underlying58 infoRowB rfl _ p vs1 rfl HR0.out ⟨g2, 0, none⟩ q cp2 vs2 rfl hyl HYS.out HY1.out ?c1 ?c2 ?c3 ?_)
    case c1 => omega
    case c2 => omega
    case c3 => omega
    intro v' w3 hown hg hv
    obtain ⟨A', n', cp', rfl⟩ := own_isSlice hown
    have hM3 := (HM1.out.join HM2.out (by omega) (by omega) (by simpa using hown) hg (by rw [z2]; exact hv)).congr (codM_eq p q)
    have k3 : TurnIn (w.heap.size + 1) w1.heap.size (w2.alloc (.cells #[.slice (some ⟨g2, 0, none⟩) q cp2] 60)) w3 := TurnIn.of_grown hg (fun g e => by simp [Value.ownBlock] at e; omega)
    have hs3 := k3.size
    have hb3 := k3.base hb2 (by omega) (by omega)
    have hq : w3.cell? ⟨w.heap.size, 0, none⟩ = some (.slice none 0 0) := box_keep c0 (by omega) k3 (by omega)
    have hqf : w3.frozen? ⟨w.heap.size, 0, none⟩ = false := by
      have e := k3.block w.heap.size (by omega) (by omega)
      unfold World.frozen? at f0 ⊢
      rw [e]; exact f0
    clear hown hg hv
    go_wp2_with fail
    refine bodyPost_ret (v := .tuple #[.agg #[.slice A' n' cp'], .bool true]) (by simp [results, Tryd.results38, go_sem, hq]) rfl ?_
    have kk := turn_setCell w3 w.heap.size 0 (.slice A' n' cp')
    refine ⟨.slice A' n' cp', vs1 ++ vs2, by rw [HO.out], ?_, TurnIn.of_below (hb3.setCell (Nat.le_refl _) _)⟩
    rw [HR.out]
    exact (hM3.keep kk (by omega)).wider (by omega) (by simp) (by simp)
  · have HO : Hid (shapeOk k m = false) := by show shapeOk k m = false; simpa using h
    have HR := Lib.hid (codR_no HO.out)
    clear h
    go_enter Tryd.func38, Tryd.ntmps38
    go_wp2_with fail
    refine (goodShape_any _ _ _).mono ?_
    rintro e w' ⟨rfl, rfl⟩
    rw [HO.out]
    go_wp2_with fail
    refine bodyPost_ret (v := .tuple #[.agg #[.slice none 0 0], .bool false]) (by simp [results, Tryd.results38, go_sem]) rfl ?_
    exact ⟨_, [], by rw [HO.out], by rw [HR.out]; exact OwnM.nil _ _ _ _, TurnIn.of_below hb0⟩

set_option maxRecDepth 100000 in
set_option maxHeartbeats 4000000 in
theorem l3Matrix_own (p q : Nat) (w : World) (h1 : 1 ≤ p) (h2 : p ≤ 8) (h3 : 1 ≤ q) (h4 : q ≤ 6) :
    Calls Tryd.prog 69 #[.int .i64 p, .int .i64 q] w (RetMat 5 42 w (codM p q)) := by
  have hb0 : Below w.heap.size w (w.alloc (.cells #[.slice none 0 0] 60)) := (Below.refl _ _).alloc (Nat.le_refl _) _
  have hz0 := World.size_alloc w (.cells #[.slice none 0 0] 60)
  have c0 := alloc_cell w (.slice none 0 0) 60
  have l0 := alloc_lt w (.cells #[.slice none 0 0] 60)
  have f0 : (w.alloc (.cells #[.slice none 0 0] 60)).frozen? ⟨w.heap.size, 0, none⟩ = false := by simp
  go_enter Tryd.func69, Tryd.ntmps69
  go_wp2_with fail
  refine (l2Identity_own p _ h1 (by omega)).mono ?_
  rintro e w1 ⟨v1, vs1, rfl, hM1, k1⟩
  obtain ⟨g1, cp1, rfl, hg1, hg1', hcp1, hcp1'⟩ := hM1.sliceF (by omega)
  have hs1 := k1.size
  have hb1 := k1.base hb0 (by omega) (by omega)
  have a1 := turn_alloc w1 (.cells #[.slice (some ⟨g1, 0, none⟩) p cp1] 60)
  have z1 := World.size_alloc w1 (.cells #[.slice (some ⟨g1, 0, none⟩) p cp1] 60)
  replace hb1 := a1.base hb1 (by omega) (by omega)
  replace hM1 := hM1.keep a1 (by omega)
  have c1 := alloc_cell w1 (.slice (some ⟨g1, 0, none⟩) p cp1) 60
  have l1 := alloc_lt w1 (.cells #[.slice (some ⟨g1, 0, none⟩) p cp1] 60)
  have f1 : (w1.alloc (.cells #[.slice (some ⟨g1, 0, none⟩) p cp1] 60)).frozen? ⟨w1.heap.size, 0, none⟩ = false := by simp
  replace c0 := cell_turn a1 (cell_turn k1 c0 l0) (by omega)
  replace f0 := frozen_turn a1 (frozen_turn k1 f0 l0) (by omega)
  obtain ⟨W1, hW1⟩ : ∃ W1, W1 = w1.alloc (.cells #[.slice (some ⟨g1, 0, none⟩) p cp1] 60) := ⟨_, rfl⟩
  have HM1 := Lib.hid hM1
  clear hM1
  have hne1 : (Value.slice (some ⟨g1, 0, none⟩) p cp1).ownBlock ≠ some w1.heap.size := by simp [Value.ownBlock]; omega
  have hne0 : (Value.slice (some ⟨g1, 0, none⟩) p cp1).ownBlock ≠ some w.heap.size := by simp [Value.ownBlock]; omega
  have hfd : ∀ (W : World) (x : Value), (Instr.field 60 (.agg #[x]) 0).run Tryd.prog W = .ok x W := fun W x => by simp [go_sem, Instr.field, asAgg, run_underlying Tryd.underlying60]
  go_wp2_with fail
  go_region_law (first
    | (go_simp; go_at_call 120; go_must (refine (l2Cauchy_own q p _ h3 h1 (by omega) (by omega)).mono ?_; rintro e w2 ⟨v2, vs2, rfl, hM2, k2⟩; obtain ⟨g2, cp2, rfl, hg2, hg2', hcp2, hcp2'⟩ := hM2.sliceF (by omega); replace k2 := undrew k2; have d1 := cell_turn k2 c1 l1; have hs2 := k2.size; have hM1' := HM1.out.keep k2 (by omega); have hr1 : w2.ownsRow (w.alloc (.cells #[.slice none 0 0] 60)).heap.size 42 1 (.slice (some ⟨g1, 0, none⟩) p cp1) p vs1 := (by have := hM1'.row; simpa using this); have hyl : vs2.length = q := (by have := hM2.vlen; simpa using this)))
    | (refine step_appendN (by rfl) _ _ _ (by rfl) (w.alloc (.cells #[.slice none 0 0] 60)).heap.size 42 _ _ Tryd.underlying58 infoRowB rfl _ p vs1 (by rfl) hr1 ⟨g2, 0, none⟩ q cp2 vs2 (by rfl) hyl (fun j y hj => by rw [Addr.add_lit, Nat.zero_add]; exact hM2.cellAt hj) (rows_oneC hM2) (by omega) (by omega) (by omega) ?_; intro v' w3 hown hg hv; obtain ⟨A', n', cp', rfl⟩ := own_isSlice hown; have e1 := (cell_past k2 hg hne1 l1 0).trans c1; have e1f := (frozen_past k2 hg hne1 l1 0).trans f1; have e0 := (cell_past k2 hg hne0 (by omega) 0).trans c0; have e0f := (frozen_past k2 hg hne0 (by omega) 0).trans f0))
  all_goals
    have hM3 := (hM1'.join hM2 (by have : (w1.alloc (.cells #[.slice (some ⟨g1, 0, none⟩) p cp1] 60)).drew.heap.size = w1.heap.size + 1 := z1; omega) (by have : (w1.alloc (.cells #[.slice (some ⟨g1, 0, none⟩) p cp1] 60)).drew.heap.size = w1.heap.size + 1 := z1; omega) (by simpa using hown) hg hv).congr (codM_eq p q)
    have k3 : TurnIn (w.heap.size + 1) w1.heap.size w2 w3 := TurnIn.of_grown hg (fun g e => by simp [Value.ownBlock] at e; omega)
    have hs3 := k3.size
    have hb3 := k3.base (k2.base hb1 (by omega) (by omega)) (by omega) (by omega)
    have kk1 := turn_setCell w3 w1.heap.size 0 (.slice A' n' cp')
    have kk0 := turn_setCell (w3.setCell ⟨w1.heap.size, 0, none⟩ (.slice A' n' cp')) w.heap.size 0 (.slice A' n' cp')
    have hb5 := (hb3.setCell (p := ⟨w1.heap.size, 0, none⟩) (by show w.heap.size ≤ w1.heap.size; omega) (.slice A' n' cp')).setCell (p := ⟨w.heap.size, 0, none⟩) (Nat.le_refl _) (.slice A' n' cp')
    have e3 : (w3.setCell ⟨w1.heap.size, 0, none⟩ (.slice A' n' cp')).cell? ⟨w1.heap.size, 0, none⟩ = some (.slice A' n' cp') := World.cell?_setCell_same _ _ _ e1
    have e4 : (w3.setCell ⟨w1.heap.size, 0, none⟩ (.slice A' n' cp')).cell? ⟨w.heap.size, 0, none⟩ = some (.slice none 0 0) := (cell_set_other w3 0 0 _ (by omega)).trans e0
    have e5 : (w3.setCell ⟨w1.heap.size, 0, none⟩ (.slice A' n' cp')).frozen? ⟨w.heap.size, 0, none⟩ = false := (frozen_set_other w3 0 0 _ (by omega)).trans e0f
    have hM4 := hM3.other (grown_set w1.heap.size 0 (.slice A' n' cp')) (by rcases hv with e | e <;> rw [e] <;> simp [Value.ownBlock] <;> omega) (fun u hu e => by
      rcases List.mem_append.1 hu with h | h
      · have := hM1'.rowBlock u h _ e; omega
      · have h5 := hM2.rowBlock u h _ e
        have h6 : (w1.alloc (.cells #[.slice (some ⟨g1, 0, none⟩) p cp1] 60)).drew.heap.size = w1.heap.size + 1 := z1
        omega)
    have HM3 := Lib.hid hM4
    clear hM4
    clear hM3 hM1' hM2 hown hg hv hr1 hyl e1 e1f e0 e0f d1 hfd
    go_wp2_with fail
    refine bodyPost_ret (v := .agg #[.slice A' n' cp']) (by simp [results, Tryd.results69, go_sem, e4]) rfl ?_
    refine ⟨.slice A' n' cp', vs1 ++ vs2, rfl, (HM3.out.keep kk0 (by omega)).wider (by omega) (by simp) (by simp), TurnIn.of_below hb5⟩

set_option maxRecDepth 100000 in
set_option maxHeartbeats 1000000 in
theorem sCodeMatrix_own (k m : Int) (w : World) : Calls Tryd.prog 39 #[.int .i64 k, .int .i64 m] w (RetMatOk 5 42 w (codR k m) (shapeOk k m)) := by
  have hb0 : Below w.heap.size w (w.alloc (.cells #[.slice none 0 0] 60)) := (Below.refl _ _).alloc (Nat.le_refl _) _
  by_cases h : shapeOk k m = true
  · have HO := Lib.hid h
    have hb := shapeOk_b h
    clear h
    obtain ⟨p, rfl⟩ := Int.eq_ofNat_of_zero_le (show 0 ≤ k by omega)
    obtain ⟨q, rfl⟩ := Int.eq_ofNat_of_zero_le (show 0 ≤ m by omega)
    have HR := Lib.hid (codR_yes HO.out)
    go_enter Tryd.func39, Tryd.ntmps39
    go_wp2_with fail
    refine (sGoodShape_any _ _ _).mono ?_
    rintro e w' ⟨rfl, rfl⟩
    rw [HO.out]
    go_wp2_with fail
    refine (l3Matrix_own p q _ (by omega) (by omega) (by omega) (by omega)).mono ?_
    rintro e w' ⟨v', vs', rfl, hM, ht⟩
    obtain ⟨A', n', c', rfl⟩ := hM.isSlice
    have hq := cell_turn ht (B := w.heap.size) (o := 0) (x := .slice none 0 0) (by simp) (by simp)
    have hqf := frozen_turn ht (B := w.heap.size) (o := 0) (x := false) (by simp) (by simp)
    have HF := Lib.hid (ret_store hb0 hM ht w.heap.size 0 (Nat.le_refl _) (by simp) (.slice A' n' c'))
    clear hM ht hb0
    go_wp2_with fail
    refine bodyPost_ret (v := .tuple #[.agg #[.slice A' n' c'], .bool true]) (by simp [results, Tryd.results39, go_sem, hq]) rfl ?_
    exact ⟨.slice A' n' c', vs', by rw [HO.out], by rw [HR.out]; exact HF.out.1, HF.out.2⟩
  · have HO : Hid (shapeOk k m = false) := by show shapeOk k m = false; simpa using h
    have HR := Lib.hid (codR_no HO.out)
    clear h
    go_enter Tryd.func39, Tryd.ntmps39
    go_wp2_with fail
    refine (sGoodShape_any _ _ _).mono ?_
    rintro e w' ⟨rfl, rfl⟩
    rw [HO.out]
    go_wp2_with fail
    refine bodyPost_ret (v := .tuple #[.agg #[.slice none 0 0], .bool false]) (by simp [results, Tryd.results39, go_sem]) rfl ?_
    exact ⟨_, [], by rw [HO.out], by rw [HR.out]; exact OwnM.nil _ _ _ _, TurnIn.of_below hb0⟩

end Go.Proofs.YtipmfebnjmobfaaDoor

/- A row of a matrix by texts: the program's combined. -/
namespace G294
open Go Go.RowKit
/-- the product of a row and the bytes of texts -/
def combF (c : Nat) (f : Nat → UInt8) (T : List (List UInt8)) (p : Nat) : UInt8 := sumK c fun j => gmul (f j) (ent T j p)
def comb (c n : Nat) (f : Nat → UInt8) (T : List (List UInt8)) : List UInt8 := mkRow n (combF c f T)
theorem combF_succ (c : Nat) (f : Nat → UInt8) (T : List (List UInt8)) (p : Nat) : combF (c + 1) f T p = combF c f T p ^^^ gmul (f c) (ent T c p) := rfl
theorem str_get (t : List UInt8) (q : Nat) (h : q < (str t).size) : (str t)[q] = t.getD q 0 := by
  have h' : q < t.length := by rwa [str_size] at h
  show t.toArray[q]'(by simpa using h') = _
  simp [List.getD, h']
/-- one byte of a row of the call's own is stored -/
theorem OwnBytes.store {E : TypeId} {w : World} {lo hi g n cap q : Nat} {l l' : List UInt8} {x : UInt8} (h : OwnBytes E w lo hi (.slice (some ⟨g, 0, none⟩) n cap) l) (hn : l.length = n) (e : l.set q x = l') :
    OwnBytes E (w.setCell ⟨g, q, none⟩ (.int .u8 (x.toNat : Int))) lo hi (.slice (some ⟨g, 0, none⟩) n cap) l' := by
  have h1 := h.1
  rw [hn] at h1
  have hst := h1.stored q (.int .u8 (x.toNat : Int))
  refine ⟨?_, by simpa using h.2.1, h.2.2⟩
  have e2 : bys l' = (bys l).set q (.int .u8 (x.toNat : Int)) := by rw [← e]; simp [bys, List.map_set]
  have e3 : l'.length = n := by rw [← e]; simpa using hn
  rw [e2, e3]
  exact hst.1
theorem comb_step (n j q : Nat) (f : Nat → UInt8) (T : List (List UInt8)) : (mkRow n fun p => if p < q then combF (j + 1) f T p else combF j f T p).set q (combF (j + 1) f T q) = mkRow n fun p => if p < q + 1 then combF (j + 1) f T p else combF j f T p := by
  rw [mkRow_set]
  apply mkRow_congr
  intro p hp
  by_cases e : p = q
  · subst e; simp
  · rw [if_neg e]
    by_cases h2 : p < q
    · rw [if_pos h2, if_pos (by omega)]
    · rw [if_neg h2, if_neg (by omega)]
end G294
namespace Go.Proofs.YtipmfebnjmobfaaDoor
open Go.RowKit G294

set_option maxRecDepth 100000 in
set_option maxHeartbeats 4000000 in
theorem combined_own (c n : Nat) (f : Nat → UInt8) (T : List (List UInt8)) (vr vt : Value) (w : World) (hr : Seen w vr (bys (mkRow c f))) (htx : Seen w vt (strs T)) (hc : T.length = c) (hc1 : 1 ≤ c) (hcc : c ≤ 1000)
    (hn : ∀ j, j < c → (T.getD j []).length = n) (hn2 : n ≤ 1000) (ht : Tab w) (h0 : 1 < w.heap.size) : Calls Tryd.prog 105 #[vr, vt] w (RetStr w (comb c n f T)) := by
  obtain ⟨i0, hi0, hz0, hz1, hz2⟩ := info_parts infoByte
  obtain ⟨A, cp, rfl, hlc, hcm, hx⟩ := hr
  obtain ⟨A', cp', rfl, hlc', hcm', hx'⟩ := htx
  simp only [bys_length, mkRow_length] at hlc hx ⊢
  rw [strs_length, hc] at hlc' hx'
  simp only [strs_length, hc]
  unfold maxLen at hcm hcm'
  obtain ⟨b, off, rfl, hbl, hcell⟩ := hx (by omega)
  obtain ⟨b', off', rfl, hbl', hcell'⟩ := hx' (by omega)
  have hrow : ∀ j, j < c → w.cell? ⟨b, off + j, none⟩ = some (.int .u8 ((f j).toNat : Int)) := fun j hj => by
    have := hcell j _ (bys_get _ j (by simpa using hj))
    rwa [mkRow_get] at this
  have htxt : ∀ j, j < c → w.cell? ⟨b', off' + j, none⟩ = some (.string (str (T.getD j []))) := fun j hj => by
    have := hcell' j _ (strs_get T j (by omega))
    rw [this]; simp [List.getD, show j < T.length by omega]
  have hc0 := htxt 0 (by omega)
  rw [Nat.add_zero] at hc0
  have hs0 : (str (T.getD 0 [])).size = n := by rw [str_size]; exact hn 0 (by omega)
  generalize T.getD 0 [] = t0 at hc0 hs0
  have HROW := Lib.hid hrow
  have HTXT := Lib.hid htxt
  have HNN := Lib.hid hn
  have HT := Lib.hid ht
  clear hcell hcell' hx hx' hrow htxt hn ht hc
  go_enter Tryd.func105, Tryd.ntmps105
  go_wp2_with (at_make; refine wpList_make_full _ rfl _ _ _ rfl w.heap.size _ i0 _ 1 Tryd.underlying42 hi0 hz0 hz1 _ _ _ _ n rfl rfl rfl rfl ?b2 ?b3 ?b4 ?_)
  case b2 => rw [hz2]; omega
  case b3 => unfold maxLen; omega
  case b4 => exact Nat.le_refl _
  intro w1 hown1 hg1
  have hb1 : Below w.heap.size w w1 := below_of_grown hg1 (Nat.le_refl _) (by simp)
  rw [toList_madeCells_one] at hown1
  have hO : OwnBytes 5 w1 w.heap.size w1.heap.size (.slice (some ⟨w.heap.size, 0, none⟩) n n) (mkRow n (combF 0 f T)) := by
    refine OwnBytes.of_made ?_
    rw [mkRow_length, bys_zero n (combF 0 f T) (fun _ _ => rfl)]; exact hown1
  clear hg1 hown1
  go_wp2_with fail
  go_loopw [16] (fun i wr => ∃ j : Nat, j ≤ c ∧ i = .int .i64 j ∧ OwnBytes 5 wr w.heap.size wr.heap.size (.slice (some ⟨w.heap.size, 0, none⟩) n n) (mkRow n (combF j f T)) ∧ Below w.heap.size w wr)
    (fun i _ => c - (intOf i).toNat)
  case atStart => exact ⟨0, Nat.zero_le _, rfl, hO, hb1⟩
  case round =>
    obtain ⟨j, hj, rfl, hO, hb⟩ := hrel
    clear hb1 hc0 hs0
    by_cases hlt : j < c
    · have hji : (j : Int) < (c : Int) := by omega
      have hct : wr.cell? ⟨b', off' + j, none⟩ = some (.string (str (T.getD j []))) := (hb.cell (p := ⟨b', off' + j, none⟩) hbl').trans (HTXT.out j hlt)
      have hst : (str (T.getD j [])).size = n := by rw [str_size]; exact HNN.out j hlt
      have HE : Hid (∀ p, ent T j p = (T.getD j []).getD p 0) := fun p => rfl
      generalize T.getD j [] = tj at hct hst HE
      have hO2 : OwnBytes 5 wr w.heap.size wr.heap.size (.slice (some ⟨w.heap.size, 0, none⟩) n n) (mkRow n fun p => if p < 0 then combF (j + 1) f T p else combF j f T p) := by simpa using hO
      clear hO
      go_wp2_with fail
      go_loopw [23] (fun i wq => ∃ q : Nat, q ≤ n ∧ i = .int .i64 q ∧ OwnBytes 5 wq w.heap.size wq.heap.size (.slice (some ⟨w.heap.size, 0, none⟩) n n) (mkRow n fun p => if p < q then combF (j + 1) f T p else combF j f T p) ∧ Below w.heap.size w wq)
        (fun i _ => n - (intOf i).toNat)
      case atStart => exact ⟨0, Nat.zero_le _, rfl, hO2, hb⟩
      case round =>
        obtain ⟨q, hq, rfl, hO, hbq⟩ := hrel
        clear hO2 hct hb
        by_cases hlq : q < n
        · have hqi : (q : Int) < (n : Int) := by omega
          have hcs := hO.cellAt (k := q) (by simpa using hlq)
          have hfr := hO.frozenAt q
          rw [mkRow_getD _ _ _ hlq, if_neg (by omega)] at hcs
          have hcr : wr.cell? ⟨b, off + j, none⟩ = some (.int .u8 ((f j).toNat : Int)) := (hbq.cell (p := ⟨b, off + j, none⟩) hbl).trans (HROW.out j hlt)
          obtain ⟨y, hy⟩ : ∃ y, y = tj.getD q 0 := ⟨_, rfl⟩
          have hsg := str_get tj q (by omega)
          rw [← hy] at hsg
          have HY : Hid (ent T j q = y) := (HE.out q).trans hy.symm
          clear hy
          have htq : Tab wr := HT.out.below hbq h0
          have HC := Lib.hid (stilly (times_u8 (f j) y wr.drew (show Tab wr.drew from htq)))
          have hxor : bits BinOp.xor IntKind.u8 ((combF j f T q).toNat : Int) ((gmul (f j) y).toNat : Int) = ((combF (j + 1) f T q).toNat : Int) := by
            rw [xor_u8, combF_succ, HY.out]
          have hO3 := (hO.store (q := q) (x := combF (j + 1) f T q) (by simp) (comb_step n j q f T))
          have hb3 : Below w.heap.size w (wr.setCell ⟨w.heap.size, q, none⟩ (.int .u8 ((combF (j + 1) f T q).toNat : Int))) := hbq.setCell (Nat.le_refl _) _
          have HO3 := Lib.hid hO3
          have hzz : (wr.setCell ⟨w.heap.size, q, none⟩ (.int .u8 ((combF (j + 1) f T q).toNat : Int))).heap.size = wr.heap.size := by simp
          clear htq hO3
          go_wp2_with fail
          refine wp_region_still_tail 14 (by kernel_rfl) (by kernel_rfl) ?_
          simp only [List.take_succ_cons, List.take_zero, List.drop_succ_cons, List.drop_zero]
          repeat (first | still_step | still_call (HC.out))
          refine wpStill_nil ?_
          go_wp2_with fail
          go_roundw
          case rel => exact ⟨q + 1, by omega, by go_num, by
            have h := HO3.out
            refine ⟨h.1, Nat.le_refl _, fun g e => ?_⟩
            have := h.2.2 g e
            show g < (wr.setCell ⟨w.heap.size, q, none⟩ (.int .u8 ((combF (j + 1) f T q).toNat : Int))).heap.size
            rw [hzz]; exact this, hb3.drew⟩
          case measure => simp [intOf]; omega
        · obtain rfl : q = n := by omega
          have hqi : ¬ (q : Int) < (q : Int) := by omega
          go_wp2_with fail
          go_roundw
          case rel => exact ⟨j + 1, by omega, by go_num, by
            have e : (mkRow q fun p => if p < q then combF (j + 1) f T p else combF j f T p) = mkRow q (combF (j + 1) f T) := mkRow_congr fun p hp => if_pos hp
            rw [e] at hO; exact hO, hbq⟩
          case measure => simp [intOf]; omega
    · obtain rfl : j = c := by omega
      have hji : ¬ (j : Int) < (j : Int) := by omega
      have hseen : Seen wr (.slice (some ⟨w.heap.size, 0, none⟩) n n) (bys (comb j n f T)) := hO.seen
      have hconv := run_string_seen (P := Tryd.prog) 42 5 9 Tryd.underlying42 Tryd.underlying5 Tryd.underlying9 hseen
      clear hO hseen
      go_wp2_with fail
      go_ret
      exact ⟨rfl, TurnIn.of_below hb⟩

end Go.Proofs.YtipmfebnjmobfaaDoor

/- A matrix by texts: the model's l3Rows. -/
namespace G294
open Go Go.RowKit
/-- the texts that a matrix makes of texts -/
def rowsT (r c n : Nat) (F : Ents) (T : List (List UInt8)) : List (List UInt8) := mkM r n fun i => combF c (F i) T
@[simp] theorem rowsT_length (r c n : Nat) (F : Ents) (T : List (List UInt8)) : (rowsT r c n F T).length = r := by simp [rowsT]
theorem rowsT_succ (r c n : Nat) (F : Ents) (T : List (List UInt8)) : rowsT (r + 1) c n F T = rowsT r c n F T ++ [comb c n (F r) T] := by simp [rowsT, mkM, comb, List.range_succ]
end G294
namespace Go.Proofs.YtipmfebnjmobfaaDoor
open Go.RowKit G294

set_option maxRecDepth 100000 in
set_option maxHeartbeats 4000000 in
theorem l3Rows_own (r c n : Nat) (F : Ents) (T : List (List UInt8)) (vm vt : Value) (w : World) (hm : SeenM w vm (mkM r c F)) (htx : Seen w vt (strs T)) (hc : T.length = c) (hc1 : 1 ≤ c) (hcc : c ≤ 1000) (hrr : r ≤ 1000)
    (hn : ∀ j, j < c → (T.getD j []).length = n) (hn2 : n ≤ 1000) : Calls Tryd.prog 68 #[.agg #[vm], vt] w (RetStrs 9 w (rowsT r c n F T)) := by
  obtain ⟨i0, hi0, hz0, hz1, hz2⟩ := info_parts infoByte
  have hb0 : Below w.heap.size w (w.alloc (.cells #[vm] 60)) := (Below.refl _ _).alloc (Nat.le_refl _) _
  have HM := Lib.hid hm
  obtain ⟨A0, cp0, rfl, hl0, hm0⟩ := hm.len
  rw [mkM_length] at hl0 HM hb0 ⊢
  obtain ⟨A', cp', rfl, hlc', hcm', hx'⟩ := htx
  rw [strs_length, hc] at hlc' hx'
  simp only [strs_length, hc]
  unfold maxLen at hm0 hcm'
  obtain ⟨b', off', rfl, hbl', hcell'⟩ := hx' (by omega)
  have htxt : ∀ j, j < c → w.cell? ⟨b', off' + j, none⟩ = some (.string (str (T.getD j []))) := fun j hj => by
    have := hcell' j _ (strs_get T j (by omega))
    rw [this]; simp [List.getD, show j < T.length by omega]
  have hc0 : w.cell? ⟨b', off', none⟩ = some (.string (str (T.getD 0 []))) := by
    have := htxt 0 (by omega)
    rwa [Nat.add_zero] at this
  have hs0 : (str (T.getD 0 [])).size = n := by rw [str_size]; exact hn 0 (by omega)
  generalize T.getD 0 [] = t0 at hc0 hs0
  have HTXT := Lib.hid htxt
  have HNN := Lib.hid hn
  clear hcell' hx' htxt hn hc hm
  go_enter Tryd.func68, Tryd.ntmps68
  go_wp2_with fail
  go_loopw [5, 15] (fun o i wr => ∃ k : Nat, k ≤ r ∧ i = .int .i64 k ∧ wr.ownsRow w.heap.size 9 1 o k (strs (rowsT k c n F T)) ∧ Below w.heap.size w wr)
    (fun _ i _ => r - (intOf i).toNat)
  case atStart => exact ⟨0, Nat.zero_le _, rfl, World.ownsRow_nil _ _ _ _, hb0⟩
  case round =>
    obtain ⟨k, hk, rfl, hown, hb⟩ := hrel
    clear hb0
    by_cases hlt : k < r
    · have hki : (k : Int) < (r : Int) := by omega
      obtain ⟨bb, off, c9, A1, c1, hvv, _, hbb, hcx, hc9, hsr⟩ := (HM.out.below hb).rowF k hlt
      simp only [Value.slice.injEq] at hvv
      obtain ⟨rfl, z9, rfl⟩ := hvv
      obtain ⟨A2, c2, hA2, hcc2, hcm2, hx2⟩ := hsr
      simp only [bys_length, mkRow_length] at hA2 hcc2 hx2
      obtain ⟨b, off2, hA3, hb2, hrow⟩ := hx2 (by omega)
      simp only [Value.slice.injEq] at hA2
      obtain ⟨rfl, _, rfl⟩ := hA2
      subst hA3
      have hcw0 : wr.cell? ⟨b', off', none⟩ = some (.string (str t0)) := (hb.cell (p := ⟨b', off', none⟩) hbl').trans hc0
      have HROW : Hid (∀ j, j < c → wr.cell? ⟨b, off2 + j, none⟩ = some (.int .u8 ((F k j).toNat : Int))) := fun j hj => by
        have := hrow j _ (bys_get _ j (by simpa using hj))
        rwa [mkRow_get] at this
      have hbs := hb.size
      unfold maxLen at hc9
      clear hrow hx2 z9
      go_wp2_with (at_make; refine wpList_make_full _ rfl _ _ _ rfl wr.heap.size _ i0 _ 1 Tryd.underlying42 hi0 hz0 hz1 _ _ _ _ n rfl rfl rfl rfl ?b2 ?b3 ?b4 ?_)
      case b2 => rw [hz2]; omega
      case b3 => unfold maxLen; omega
      case b4 => exact Nat.le_refl _
      intro w1 hown1 hg1
      rw [toList_madeCells_one] at hown1
      have k1 : TurnIn 0 0 wr w1 := TurnIn.of_grown hg1 (by simp)
      have hs1 : wr.heap.size < w1.heap.size := (hown1.lt wr.heap.size rfl).2
      have hO : OwnBytes 5 w1 wr.heap.size (wr.heap.size + 1) (.slice (some ⟨wr.heap.size, 0, none⟩) n n) (mkRow n (combF 0 (F k) T)) := by
        refine ⟨?_, hs1, fun g e => by simp [Value.ownBlock] at e; omega⟩
        rw [mkRow_length, bys_zero n (combF 0 (F k) T) (fun _ _ => rfl)]; exact hown1
      obtain ⟨B, hB⟩ : ∃ B, B = wr.heap.size := ⟨_, rfl⟩
      have hown' := owns_turn0 hown k1
      have hlo : ∀ g, Value.ownBlock u5 = some g → g < B := fun g e => by rw [hB]; exact (hown.lt g e).2
      have hbw1 : Below w.heap.size w w1 := k1.base hb (by omega) (by omega)
      have hrb : ∀ j, j < c → w1.cell? ⟨b, off2 + j, none⟩ = some (.int .u8 ((F k j).toNat : Int)) := fun j hj => cell_turn k1 (HROW.out j hj) (by omega)
      have hbB : b < B := by omega
      have hwB : w.heap.size ≤ B := by omega
      rw [← hB] at hO hs1 ⊢
      have HRB := Lib.hid hrb
      have HOWN := Lib.hid hown'
      have HLO := Lib.hid hlo
      clear hg1 hown1 hown hown' hlo hrb hcx hB k1 HROW hb hcw0 hb2
      go_wp2_with fail
      go_loopw [26] (fun i wq => ∃ j : Nat, j ≤ c ∧ i = .int .i64 j ∧ OwnBytes 5 wq B (B + 1) (.slice (some ⟨B, 0, none⟩) n n) (mkRow n (combF j (F k) T)) ∧ TurnIn B (B + 1) w1 wq)
        (fun i _ => c - (intOf i).toNat)
      case atStart => exact ⟨0, Nat.zero_le _, rfl, hO, ⟨rfl, rfl, rfl, Nat.le_refl _, fun _ _ _ => rfl⟩⟩
      case round =>
        obtain ⟨j, hj, rfl, hOj, hk1⟩ := hrel
        clear hO
        by_cases hltj : j < c
        · have hji : (j : Int) < (c : Int) := by omega
          have hcr : wr.cell? ⟨b, off2 + j, none⟩ = some (.int .u8 ((F k j).toNat : Int)) := (World.cell?_of_block (hk1.block b (by omega) (by omega))).trans (HRB.out j hltj)
          have hO2 : OwnBytes 5 wr B (B + 1) (.slice (some ⟨B, 0, none⟩) n n) (mkRow n fun p => if p < 0 then combF (j + 1) (F k) T p else combF j (F k) T p) := by simpa using hOj
          have hst : (str (T.getD j [])).size = n := by rw [str_size]; exact HNN.out j hltj
          have HE : Hid (∀ p, ent T j p = (T.getD j []).getD p 0) := fun p => rfl
          have hct0 := HTXT.out j hltj
          generalize T.getD j [] = tj at hct0 hst HE
          have hs9 := hk1.size
          clear hOj
          go_wp2_with fail
          go_loopw [33] (fun i wq => ∃ q : Nat, q ≤ n ∧ i = .int .i64 q ∧ OwnBytes 5 wq B (B + 1) (.slice (some ⟨B, 0, none⟩) n n) (mkRow n fun p => if p < q then combF (j + 1) (F k) T p else combF j (F k) T p) ∧ TurnIn B (B + 1) w1 wq)
            (fun i _ => n - (intOf i).toNat)
          case atStart => exact ⟨0, Nat.zero_le _, rfl, hO2, hk1⟩
          case round =>
            obtain ⟨q, hq, rfl, hO, hkq⟩ := hrel
            clear hO2 hcr hk1
            by_cases hlq : q < n
            · have hqi : (q : Int) < (n : Int) := by omega
              have hcs := hO.cellAt (k := q) (by simpa using hlq)
              have hfr := hO.frozenAt q
              rw [mkRow_getD _ _ _ hlq, if_neg (by omega)] at hcs
              have hct : wr.cell? ⟨b', off' + j, none⟩ = some (.string (str tj)) := (World.cell?_of_block (hkq.block b' (by omega) (by omega))).trans ((hbw1.cell (p := ⟨b', off' + j, none⟩) hbl').trans hct0)
              obtain ⟨y, hy⟩ : ∃ y, y = tj.getD q 0 := ⟨_, rfl⟩
              have hsg := str_get tj q (by omega)
              rw [← hy] at hsg
              have HY : Hid (ent T j q = y) := (HE.out q).trans hy.symm
              have HC := Lib.hid (stilly (l1Times_u8 (F k j) y wr.drew))
              have hxor : bits BinOp.xor IntKind.u8 ((combF j (F k) T q).toNat : Int) ((gmul (F k j) y).toNat : Int) = ((combF (j + 1) (F k) T q).toNat : Int) := by
                rw [xor_u8, combF_succ, HY.out]
              have HO3 := Lib.hid (hO.store (q := q) (x := combF (j + 1) (F k) T q) (by simp) (comb_step n j q (F k) T))
              have hk3 : TurnIn B (B + 1) w1 (wr.setCell ⟨B, q, none⟩ (.int .u8 ((combF (j + 1) (F k) T q).toNat : Int))) := turn_trans hkq (turn_setCell wr B q _) (by omega)
              have HK3 : Hid (TurnIn B (B + 1) w1 (wr.setCell ⟨B, q, none⟩ (.int .u8 ((combF (j + 1) (F k) T q).toNat : Int))).drew) := ⟨hk3.os, hk3.tape, hk3.output, hk3.size, hk3.block⟩
              clear hy hk3
              go_wp2_with fail
              refine wp_region_still_tail 14 (by kernel_rfl) (by kernel_rfl) ?_
              simp only [List.take_succ_cons, List.take_zero, List.drop_succ_cons, List.drop_zero]
              repeat (first | still_step | still_call (HC.out))
              refine wpStill_nil ?_
              go_wp2_with fail
              go_roundw
              case rel => exact ⟨q + 1, by omega, by go_num, HO3.out, HK3.out⟩
              case measure => simp [intOf]; omega
            · obtain rfl : q = n := by omega
              have hqi : ¬ (q : Int) < (q : Int) := by omega
              go_wp2_with fail
              go_roundw
              case rel => exact ⟨j + 1, by omega, by go_num, by
                have e : (mkRow q fun p => if p < q then combF (j + 1) (F k) T p else combF j (F k) T p) = mkRow q (combF (j + 1) (F k) T) := mkRow_congr fun p hp => if_pos hp
                rw [e] at hO; exact hO, hkq⟩
              case measure => simp [intOf]; omega
        · obtain rfl : j = c := by omega
          have hji : ¬ (j : Int) < (j : Int) := by omega
          have hseen : Seen wr (.slice (some ⟨B, 0, none⟩) n n) (bys (comb j n (F k) T)) := hOj.seen
          have hconv := run_string_seen (P := Tryd.prog) 42 5 9 Tryd.underlying42 Tryd.underlying5 Tryd.underlying9 hseen
          have hs9 := hk1.size
          have hown2 := owns_turn (hi := B) HOWN.out HLO.out hk1 (by omega)
          have hb5 : Below w.heap.size w wr := hk1.base hbw1 (by omega) (by omega)
          clear hOj hseen
          go_wp2_with (at_builtin; refine wpList_append1 rfl _ _ _ rfl w.heap.size 9 _ _ Tryd.underlying24 infoStr rfl _ k _ rfl (hown2.alloc _) wr.heap.size (.string (str (comb j n (F k) T))) rfl ?c1 rfl ?c2 ?c3 ?c4 ?_)
          case c2 => omega
          case c4 => first | omega | (simp; omega)
          intro v' w' hown' hg' _
          have hb' : Below w.heap.size w w' := below_append (hb5.alloc (by omega) _) (hown2.alloc _) hg' (Nat.le_refl _) (by simp; omega)
          have hown3 : w'.ownsRow w.heap.size 9 1 v' (k + 1) (strs (rowsT (k + 1) j n F T)) := by
            rw [rowsT_succ, strs_append]; exact hown'
          clear hown' hg'
          go_wp2_with fail
          go_roundw
          case rel => exact ⟨k + 1, by omega, by go_num, hown3, hb'⟩
          case measure => simp [intOf]; omega
    · obtain rfl : k = r := by omega
      have hki : ¬ (k : Int) < (k : Int) := by omega
      go_wp2_with fail
      go_ret
      exact ⟨_, rfl, OwnStrs.of_made (by simpa using hown), TurnIn.of_below hb⟩

end Go.Proofs.YtipmfebnjmobfaaDoor

/- shardsBy: the iterator over the shards that a matrix makes of texts. -/
namespace G294
open Go Go.RowKit
/-- the shards that a matrix makes of texts -/
def shardsF (r c n : Nat) (F : Ents) (T : List (List UInt8)) : List Sh := (List.range r).map fun (i : Nat) => (((i : Nat) : Int), comb c n (F i) T)
@[simp] theorem shardsF_length (r c n : Nat) (F : Ents) (T : List (List UInt8)) : (shardsF r c n F T).length = r := by simp [shardsF]
theorem shardsF_take (r c n : Nat) (F : Ents) (T : List (List UInt8)) (k : Nat) (h : k < r) : (shardsF r c n F T).take (k + 1) = (shardsF r c n F T).take k ++ [((k : Int), comb c n (F k) T)] := by
  rw [List.take_succ_eq_append_getElem (by simpa using h)]; simp [shardsF]
/-- a shard as a value -/
def shV (x : Sh) : Value := .agg #[.int .i64 x.1, .string (str x.2)]
/-- what lies below n₀, but for one block, is as it was -/
structure KeepBut (n₀ Bs : Nat) (W W' : World) : Prop where
  os : W'.os = W.os
  tape : W'.tape = W.tape
  output : W'.output = W.output
  size : W.heap.size ≤ W'.heap.size
  block : ∀ k, k < n₀ → k ≠ Bs → W'.heap[k]? = W.heap[k]?
theorem KeepBut.trans {n₀ Bs : Nat} {A B C : World} (h : KeepBut n₀ Bs A B) (k : KeepBut n₀ Bs B C) : KeepBut n₀ Bs A C :=
  ⟨k.os.trans h.os, k.tape.trans h.tape, k.output.trans h.output, Nat.le_trans h.size k.size, fun i hi hne => (k.block i hi hne).trans (h.block i hi hne)⟩
theorem KeepBut.refl (n₀ Bs : Nat) (W : World) : KeepBut n₀ Bs W W := ⟨rfl, rfl, rfl, Nat.le_refl _, fun _ _ _ => rfl⟩
theorem KeepBut.of_below {n₀ Bs : Nat} {W W' : World} (h : Below n₀ W W') : KeepBut n₀ Bs W W' := ⟨h.os, h.tape, h.output, h.size, fun k hk _ => h.block k hk⟩
theorem KeepBut.putObj {n₀ Bs : Nat} {w : World} (hn : n₀ ≤ w.heap.size) (W : World) (l : Nat) (o o' : Obj) (hl : w.heap.size ≤ l) (h : W.heap[l]? = some o) (h1 : o.isCells = false) (h2 : o.isWalk = false) : KeepBut n₀ Bs W (W.putObj l o') :=
  KeepBut.of_below (belowK_b hn W l o o' hl h h1 h2)
theorem KeepBut.cell {n₀ Bs B o : Nat} {W W' : World} (h : KeepBut n₀ Bs W W') (hB : B < n₀) (hne : B ≠ Bs) : W'.cell? ⟨B, o, none⟩ = W.cell? ⟨B, o, none⟩ := World.cell?_of_block (h.block B hB hne)
theorem KeepBut.below {n₀ Bs e : Nat} {w W W' : World} (h : KeepBut n₀ Bs W W') (hb : Below e w W) (h1 : e ≤ Bs) (h2 : e ≤ n₀) : Below e w W' :=
  ⟨h.os.trans hb.os, h.tape.trans hb.tape, h.output.trans hb.output, Nat.le_trans hb.size h.size, fun k hk => (h.block k (by omega) (by omega)).trans (hb.block k hk)⟩
theorem owns_agree {w w' : World} {lo hi size n : Nat} {E : TypeId} {v : Value} {xs : List Value} (h : w.ownsRow lo E size v n xs) (h2 : ∀ g, v.ownBlock = some g → g < hi) (hb : ∀ k, lo ≤ k → k < hi → w'.heap[k]? = w.heap[k]?) : w'.ownsRow lo E size v n xs := by
  refine ⟨h.1, ?_⟩
  rcases h.2 with hn | ⟨g, cap, cur, rfl, hbg, hg, rest⟩
  · exact .inl hn
  · refine .inr ⟨g, cap, cur, rfl, hbg, ?_, rest⟩
    rw [hb g hbg (h2 g rfl)]
    exact hg
theorem OwnM.agree {E EE : TypeId} {w w' : World} {lo hi : Nat} {v : Value} {L : Mat} {vs : List Value} (h : OwnM E EE w lo hi v L vs) (hs : w.heap.size ≤ w'.heap.size) (hb : ∀ k, lo ≤ k → k < hi → w'.heap[k]? = w.heap[k]?) : OwnM E EE w' lo hi v L vs :=
  ⟨owns_agree h.row h.out hb, Nat.le_trans h.top hs, h.out, fun i u hu => ⟨owns_agree (h.rows i u hu).1 (h.rows i u hu).2.2 hb, Nat.le_trans h.top hs, (h.rows i u hu).2.2⟩, h.apart⟩
theorem OwnStrs.agree {E : TypeId} {w w' : World} {lo hi : Nat} {v : Value} {l : List (List UInt8)} (h : OwnStrs E w lo hi v l) (hs : w.heap.size ≤ w'.heap.size) (hb : ∀ k, lo ≤ k → k < hi → w'.heap[k]? = w.heap[k]?) : OwnStrs E w' lo hi v l :=
  ⟨owns_agree h.1 h.2.2 hb, Nat.le_trans h.2.1 hs, h.2.2⟩
/-- one more element in a boxed row that a loop collects -/
theorem collect_step {W w1 : World} {n₀ Bs e0 size : Nat} {t e : TypeId} {v v' : Value} {k mm : Nat} {xs ys : List Value} {tmp : Obj} (hv : Boxed W Bs t v) (hte : t ≠ e) (hrow : W.ownsRow n₀ e size v k xs)
    (hown' : w1.ownsRow n₀ e size v' mm ys) (hgrow : (W.alloc tmp).grownBy w1 v.ownBlock) (h1 : e0 ≤ Bs) (h2 : Bs < n₀) (h3 : n₀ ≤ W.heap.size) :
    Boxed w1 Bs t v ∧ Boxed (w1.setCell ⟨Bs, 0, none⟩ v') Bs t v' ∧ (w1.setCell ⟨Bs, 0, none⟩ v').ownsRow n₀ e size v' mm ys ∧ KeepsOthers W (w1.setCell ⟨Bs, 0, none⟩ v') ∧ KeepBut n₀ Bs W (w1.setCell ⟨Bs, 0, none⟩ v') ∧ n₀ ≤ (w1.setCell ⟨Bs, 0, none⟩ v').heap.size := by
  obtain ⟨hv1, hv2, hr2, hk2, hb2⟩ := hv.appended (n₀ := e0) hte (own_base hrow (by omega)) (by omega) h1 (own_base hown' (by omega)) hgrow
  have hs := hgrow.size
  have hsa := World.size_alloc W tmp
  refine ⟨hv1, hv2, hown'.kept (grownBy_setCell' w1 Bs v') (.inr (fun e' => by have := (hown'.lt Bs e').1; omega)), hk2, ⟨hb2.os, hb2.tape, hb2.output, hb2.size, fun j hj hne => ?_⟩, by simp; omega⟩
  have t1 := (grownBy_setCell' w1 Bs v').block j (by omega) (fun e' => hne (by cases e'; rfl))
  have t2 := hgrow.block j (by omega) (fun e' => by have := (hrow.lt j e'.symm).1; omega)
  have t3 := (turn_alloc W tmp).block j (by omega) (by omega)
  exact t1.trans (t2.trans t3)
end G294
namespace Go.Proofs.YtipmfebnjmobfaaDoor
open Go.RowKit Go.Shelf G294

attribute [local go_sem] Oper.semAt_some

set_option maxRecDepth 100000 in
set_option maxHeartbeats 1000000 in
/-- shardsBy boxes its arguments and hands back the function -/
theorem shardsBy_any (vm : Value) (At : Option Addr) (nt ct : Nat) (w : World) : Calls Tryd.prog 82 #[.agg #[vm], .slice At nt ct] w fun e w' => e = .returned (.func (.func 124) #[] #[.pointer (some ⟨w.heap.size, 0, none⟩), .pointer (some ⟨w.heap.size + 1, 0, none⟩)]) ∧
    w' = (w.alloc (.cells #[vm] 60)).alloc (.cells #[.slice At nt ct] 24) := by
  go_enter Tryd.func82, Tryd.ntmps82
  go_wp2_with fail
  go_ret
  exact ⟨rfl, rfl⟩

set_option maxRecDepth 100000 in
set_option maxHeartbeats 4000000 in
theorem shardsBy_stops (nF r c n Bm Bt : Nat) (F : Ents) (T : List (List UInt8)) (vm vt : Value) (w : World) (Kp : World → World → Prop) (Inv : World → Prop) (hc : T.length = c) (hc1 : 1 ≤ c) (hcc : c ≤ 1000) (hr : r ≤ 1000)
    (hn : ∀ j, j < c → (T.getD j []).length = n) (hn2 : n ≤ 1000)
    (hInv : ∀ W, Inv W → (W.cell? ⟨Bm, 0, none⟩ = some vm ∧ W.cell? ⟨Bt, 0, none⟩ = some vt) ∧ (SeenM W vm (mkM r c F) ∧ Seen W vt (strs T)) ∧ Tab W ∧ 1 < W.heap.size)
    (hKp : ∀ W W', Inv W → Kp W W' → Inv W') (hBel : ∀ W W', Inv W → Below W.heap.size W W' → Inv W') (hw : ∀ W, Below w.heap.size w W → Inv W) (hnF : 1 ≤ nF) :
    SeqStopsK Fence.wide nF Tryd.prog 124 #[.pointer (some ⟨Bm, 0, none⟩), .pointer (some ⟨Bt, 0, none⟩)] (fun x : Sh => #[shV x]) Kp (fun xs => xs = shardsF r c n F T) (fun pre => pre <+: shardsF r c n F T) r w := by
  intro l J Jx W hW hJ hJx hY h0
  have hiv := hw W hW
  obtain ⟨⟨cm, ct⟩, ⟨sm, st⟩, tb, hrm⟩ := hInv W hiv
  obtain ⟨A, cp, rfl, hlc, hcm⟩ := sm.len
  rw [mkM_length] at hlc
  unfold maxLen at hcm
  rw [mkM_length] at *
  have HINV := Lib.hid hInv
  have HKP := Lib.hid hKp
  have HBEL := Lib.hid hBel
  have HY := Lib.hid hY
  clear hInv hKp hBel hY st tb sm hw
  refine callsIn_of_wp Tryd.func124 rfl trivial ?_ rfl
  simp only [Tryd.ntmps124, List.size_toArray, List.length_cons, List.length_nil, Nat.reduceAdd, Nat.reduceSub, Array.replicate_succ, Array.replicate_zero, List.push_toArray, List.append_toArray, List.nil_append, List.cons_append]
  gi_wp2_with fail
  gi_loopw [9] (fun i wr => ∃ k : Nat, k ≤ r ∧ i = .int .i64 k ∧ Inv wr ∧ J ((shardsF r c n F T).take k) wr) (fun i _ => r - (intOf i).toNat)
  case atStart => exact ⟨0, Nat.zero_le _, rfl, hiv, h0⟩
  case round =>
    obtain ⟨k, hk, rfl, hi, hj⟩ := hrel
    clear hiv h0 cm ct hrm
    by_cases hlt : k < r
    · have hki : (k : Int) < (r : Int) := by omega
      obtain ⟨⟨cm, ct⟩, ⟨sm, st⟩, tb, hrm⟩ := HINV.out _ hi
      obtain ⟨bb, off, c9, A1, c1, hvv, _, hbb, hcx, hc9, hsr⟩ := sm.rowF k hlt
      simp only [Value.slice.injEq] at hvv
      obtain ⟨rfl, z9, rfl⟩ := hvv
      have HSR := Lib.hid hsr
      have HST := Lib.hid st
      have HTB := Lib.hid tb
      have HHN := Lib.hid hn
      clear z9 sm st tb hsr hn
      gi_wp2_with fail
      refine ⟨trivial, ?_⟩
      refine (callsIn_wide.2 (combined_own c n (F k) T _ _ _ HSR.out HST.out hc hc1 hcc HHN.out hn2 HTB.out hrm)).mono ?_
      rintro e w2 ⟨rfl, k2⟩
      have hi2 := HBEL.out _ _ hi k2.to_below
      have hj2 := hJ _ _ w2 none hj (grown_of_below k2.to_below) (fun r e => by cases e)
      have hs2 := k2.size
      obtain ⟨fn, tmps, assign, body, hy, hR⟩ := HY.out _ ((k : Int), comb c n (F k) T) w2 hj2 (by rw [List.length_take, shardsF_length]; omega)
      have HR := Lib.hid hR
      have hpre : (shardsF r c n F T).take k ++ [((k : Int), comb c n (F k) T)] = (shardsF r c n F T).take (k + 1) := (shardsF_take r c n F T k hlt).symm
      have HPRE := Lib.hid hpre
      simp only [shV] at hy
      clear hR hpre cm ct hcx k2
      gi_wp2_with fail
      refine HR.out.mono ?_
      rintro e W3 (⟨rfl, hJ3, hk3⟩ | ⟨rfl, hJx3⟩)
      · have hi3 := HKP.out _ _ hi2 hk3
        rw [HPRE.out] at hJ3
        gi_wp2_with fail
        go_roundw
        case rel => exact ⟨k + 1, by omega, by go_num, hi3, hJ3⟩
        case measure => simp [intOf]; omega
      · gi_wp2_with fail
        refine bodyPost_ret (results_none rfl _ _ _) rfl ?_
        exact ⟨⟨_, rfl⟩, .inr ⟨_, by rw [HPRE.out]; exact List.take_prefix _ _, hJx3⟩⟩
    · obtain rfl : k = r := by omega
      have hki : ¬ (k : Int) < (k : Int) := by omega
      gi_wp2_with fail
      go_end0
      exact ⟨⟨_, rfl⟩, .inl (by rw [List.take_of_length_le (by simp)] at hj; exact hj)⟩

end Go.Proofs.YtipmfebnjmobfaaDoor

/- The mathematics of EncodeShards. -/
namespace G294
open Go Go.RowKit
def encOk (T : List (List UInt8)) (m : Int) : Bool := shapeOk T.length m && textsOk T
def encL (k m : Nat) (T : List (List UInt8)) : List Sh := shardsF (k + m) k (T.getD 0 []).length (codF k) T
def encR (T : List (List UInt8)) (m : Int) : List Sh := if encOk T m then encL T.length m.toNat T else []
theorem encR_no {T : List (List UInt8)} {m : Int} (h : encOk T m = false) : encR T m = [] := by unfold encR; rw [if_neg (by rw [h]; simp)]
theorem encR_yes {T : List (List UInt8)} {m : Nat} (h : encOk T m = true) : encR T m = encL T.length m T := by unfold encR; rw [if_pos h]; simp
theorem textsOk_at {T : List (List UInt8)} (h : textsOk T = true) : ∀ j, j < T.length → (T.getD j []).length = (T.getD 0 []).length := fun j hj => by
  have := ((textsOk_iff T).1 h j hj).1
  rw [← this]; simp [List.getD, hj]
theorem encR_len (T : List (List UInt8)) (m : Int) : (encR T m).length ≤ 14 := by
  unfold encR; split
  · rename_i h
    simp only [encOk, Bool.and_eq_true] at h
    have := shapeOk_b h.1
    simp [encL]; omega
  · simp
end G294
