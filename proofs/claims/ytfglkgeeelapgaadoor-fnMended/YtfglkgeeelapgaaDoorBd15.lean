/- Joined texts: SpecPart, SpecRows, Iter, EncMath, SpecEncode, SpecDecode, SpecDecode2. -/
import Derived.Test.YtfglkgeeelapgaaDoorBd13
import Derived.Test.YtfglkgeeelapgaaDoorBd05
import Derived.Test.YtfglkgeeelapgaaDoorBd03
import Derived.Test.YtfglkgeeelapgaaDoorBd11
import Derived.Test.YtfglkgeeelapgaaDoorBd14
import Derived.Test.YtfglkgeeelapgaaDoorBd12
import Derived.Test.YtfglkgeeelapgaaDoorBd04
import Derived.RangeFuncNested
import Derived.RangeFuncBound
import Derived.RangeFuncCalls
import Derived.RangeFuncLeaves
import Derived.Shelf.Abstract
import Derived.Shelf.RegionOpen
import Derived.WalkKit
import Derived.OwnWalkIn
import Derived.TacticsInMore
import Derived.LoopNIn
import Derived.LoopIn
import Derived.Test.YtfglkgeeelapgaaDoorBd08
set_option linter.unusedSimpArgs false
set_option linter.unusedVariables false
/- The model's PartOf. -/
namespace Go.Proofs.YtfglkgeeelapgaaDoor
open Go.RowKit G294

set_option maxRecDepth 100000 in
set_option maxHeartbeats 1000000 in
theorem l1Some_any (v : Value) (l : List Int) (size : Nat) (w : World) (hv : Seen w v (ints l)) (hsz : size ≤ 1000) (hs1 : 1 ≤ size) :
    Calls Tryd.prog 79 #[v, .int .i64 size] w fun e w' => e = .returned (.bool (someOk l size)) ∧ w = w' := by
  obtain ⟨A, c, rfl, hlc, hcm, hx⟩ := hv
  rw [ints_length] at hlc hx
  simp only [ints_length]
  unfold maxLen at hcm
  generalize hnn : l.length = n at *
  have HN := Lib.hid hnn
  have HX := Lib.hid hx
  clear hnn hx
  go_enter Tryd.func79, Tryd.ntmps79
  go_wp2_with fail
  go_loop [9] (fun i => ∃ k : Nat, k ≤ n ∧ i = .int .i64 k ∧ Hid (∀ i, i < k → okAt l size i)) (fun i => n - (intOf i).toNat)
  case atStart => exact ⟨0, Nat.zero_le _, rfl, fun i h => by omega⟩
  case round =>
    obtain ⟨k, hk, rfl, HK⟩ := hrel
    by_cases hlt : k < n
    · have hki : (k : Int) < (n : Int) := by omega
      have hkl : k < l.length := by rw [HN.out]; exact hlt
      obtain ⟨b, off, rfl, hbl, hcell⟩ := HX.out (by omega)
      have hcx := hcell k _ (ints_get l k hkl)
      obtain ⟨x, hxx⟩ : ∃ x, x = l[k] := ⟨_, rfl⟩
      rw [← hxx] at hcx
      have HXX : Hid (l.getD k 0 = x) := by show l.getD k 0 = x; rw [hxx]; simp [List.getD, hkl]
      clear hxx
      by_cases h1 : inB x 0 ((size : Int) - 1) = true
      · have H1 := Lib.hid h1
        have hin : 0 ≤ x ∧ x ≤ (size : Int) - 1 := by unfold inB at h1; simpa using h1
        clear h1
        by_cases hk0 : k = 0
        · have hkz : ¬ (0 : Int) < (k : Int) := by omega
          have hkd : decide ((0 : Int) < (k : Int)) = false := by simp; omega
          have HK2 : Hid (∀ i, i < k + 1 → okAt l size i) := fun i hi => by
            obtain rfl : i = k := by omega
            have e := HXX.out
            exact ⟨by omega, by omega, fun h => by omega⟩
          clear hcell hk0
          go_wp2_with fail
          refine (l1In_any _ _ _ _).mono ?_
          rintro e w' ⟨rfl, rfl⟩
          rw [H1.out]
          go_wp2_with fail
          go_round
          case rel => exact ⟨k + 1, by omega, by go_num, HK2⟩
          case measure => simp [intOf]; omega
        · have hkz : (0 : Int) < (k : Int) := by omega
          have hkd : decide ((0 : Int) < (k : Int)) = true := by simp; omega
          have hcy := hcell (k - 1) _ (ints_get l (k - 1) (by omega))
          obtain ⟨y, hyy⟩ : ∃ y, y = l[k - 1] := ⟨_, rfl⟩
          rw [← hyy] at hcy
          have HYY : Hid (l.getD (k - 1) 0 = y) := by
            show l.getD (k - 1) 0 = y
            rw [hyy]; simp [List.getD, show k - 1 < l.length by omega]
          have hk1 : (0 : Int) ≤ (k : Int) - 1 := by omega
          have hk1' : (1 : Int) ≤ (k : Int) := by omega
          have hk2 : (k : Int) - 1 < (n : Int) := by omega
          have hk3 : ((k : Int) - 1).toNat = k - 1 := by omega
          clear hyy hcell hk0
          by_cases h2 : x ≤ y
          · have hd : decide (x ≤ y) = true := by simpa using h2
            have HF := Lib.hid (someOk_no (l := l) (size := size) hkl (fun ho => by
              have e1 := HXX.out
              have e2 := HYY.out
              have := ho.2.2 (by omega)
              omega))
            go_wp2_with fail
            refine (l1In_any _ _ _ _).mono ?_
            rintro e w' ⟨rfl, rfl⟩
            rw [H1.out]
            go_wp2_with fail
            go_ret
            exact ⟨by rw [HF.out]; rfl, rfl⟩
          · have hd : decide (x ≤ y) = false := by simpa using h2
            have HK2 : Hid (∀ i, i < k + 1 → okAt l size i) := fun i hi => by
              by_cases e : i = k
              · subst e
                have e1 := HXX.out
                have e2 := HYY.out
                exact ⟨by omega, by omega, fun h => by omega⟩
              · exact HK.out i (by omega)
            go_wp2_with fail
            refine (l1In_any _ _ _ _).mono ?_
            rintro e w' ⟨rfl, rfl⟩
            rw [H1.out]
            go_wp2_with fail
            go_round
            case rel => exact ⟨k + 1, by omega, by go_num, HK2⟩
            case measure => simp [intOf]; omega
      · have H1 : Hid (inB x 0 ((size : Int) - 1) = false) := by show inB x 0 ((size : Int) - 1) = false; simpa using h1
        have hin : ¬ (0 ≤ x ∧ x ≤ (size : Int) - 1) := by unfold inB at h1; simpa using h1
        have HF := Lib.hid (someOk_no (l := l) (size := size) hkl (fun ho => by
          have e1 := HXX.out
          obtain ⟨o1, o2, _⟩ := ho
          omega))
        clear h1 hcell hin
        go_wp2_with fail
        refine (l1In_any _ _ _ _).mono ?_
        rintro e w' ⟨rfl, rfl⟩
        rw [H1.out]
        go_wp2_with fail
        go_ret
        exact ⟨by rw [HF.out]; rfl, rfl⟩
    · obtain rfl : k = n := by omega
      have hki : ¬ (k : Int) < (k : Int) := by omega
      have HF := Lib.hid ((someOk_iff l size).2 (fun i hi => HK.out i (by rw [← HN.out]; exact hi)))
      go_wp2_with fail
      go_ret
      exact ⟨by rw [HF.out]; rfl, rfl⟩

set_option maxRecDepth 100000 in
set_option maxHeartbeats 4000000 in
theorem l2Part_own (r c : Nat) (F : Ents) (l m : List Int) (v u x : Value) (w : World) (hs : SeenM w v (mkM r c F)) (hl : Seen w u (ints l)) (hm : Seen w x (ints m))
    (hlo : ∀ i, i < l.length → 0 ≤ l.getD i 0 ∧ l.getD i 0 < r) (hmo : ∀ i, i < m.length → 0 ≤ m.getD i 0 ∧ m.getD i 0 < c) (hn : l.length ≤ 1000) (hn2 : m.length ≤ 1000) :
    Calls Tryd.prog 81 #[.agg #[v], u, x] w (RetMat 5 22 w (mkM l.length m.length fun i j => F (l.getD i 0).toNat (m.getD j 0).toNat)) := by
  have k1 : TurnIn 0 0 w (w.alloc (.cells #[v] 39)) := turn_alloc _ _
  have k3 : TurnIn 0 0 w (((w.alloc (.cells #[v] 39)).alloc (.cells #[.slice none 0 0] 39)).alloc (.cells #[.slice none 0 0] 39)) := turn_trans (turn_trans k1 (turn_alloc _ _) (by omega)) (turn_alloc _ _) (by omega)
  have z3 : (((w.alloc (.cells #[v] 39)).alloc (.cells #[.slice none 0 0] 39)).alloc (.cells #[.slice none 0 0] 39)).heap.size = w.heap.size + 3 := by simp
  have q0 : (((w.alloc (.cells #[v] 39)).alloc (.cells #[.slice none 0 0] 39)).alloc (.cells #[.slice none 0 0] 39)).cell? ⟨w.heap.size, 0, none⟩ = some v := cell_turn (turn_trans (turn_alloc _ _) (turn_alloc _ _) (by omega)) (show (w.alloc (.cells #[v] 39)).cell? ⟨w.heap.size, 0, none⟩ = some v by simp) (by simp)
  have q1 : (((w.alloc (.cells #[v] 39)).alloc (.cells #[.slice none 0 0] 39)).alloc (.cells #[.slice none 0 0] 39)).cell? ⟨w.heap.size + 1, 0, none⟩ = some (.slice none 0 0) := alloc_mid_cell _ _ _ _ _
  have q1f : (((w.alloc (.cells #[v] 39)).alloc (.cells #[.slice none 0 0] 39)).alloc (.cells #[.slice none 0 0] 39)).frozen? ⟨w.heap.size + 1, 0, none⟩ = false := alloc_mid_frozen _ _ _ _ _
  have q2 : (((w.alloc (.cells #[v] 39)).alloc (.cells #[.slice none 0 0] 39)).alloc (.cells #[.slice none 0 0] 39)).cell? ⟨w.heap.size + 1 + 1, 0, none⟩ = some (.slice none 0 0) := alloc_last_cell _ _ _ _ _
  have q2f : (((w.alloc (.cells #[v] 39)).alloc (.cells #[.slice none 0 0] 39)).alloc (.cells #[.slice none 0 0] 39)).frozen? ⟨w.heap.size + 1 + 1, 0, none⟩ = false := alloc_last_frozen _ _ _ _ _
  have hM0 : OwnM 5 22 (((w.alloc (.cells #[v] 39)).alloc (.cells #[.slice none 0 0] 39)).alloc (.cells #[.slice none 0 0] 39)) (w.heap.size + 3) (((w.alloc (.cells #[v] 39)).alloc (.cells #[.slice none 0 0] 39)).alloc (.cells #[.slice none 0 0] 39)).heap.size (.slice none 0 0) (mkM 0 m.length fun i j => F (l.getD i 0).toNat (m.getD j 0).toNat) [] := OwnM.nil _ _ _ _
  obtain ⟨A, cp, hvv, _, _⟩ := hs.len
  obtain ⟨A1, c1, hu⟩ := hl.len
  obtain ⟨A2, c2, hx⟩ := hm.len
  rw [ints_length] at hu hx
  rw [mkM_length] at hvv
  subst hu hx hvv
  have HS := Lib.hid hs
  have HL := Lib.hid hl
  have HM := Lib.hid hm
  have HLO := Lib.hid hlo
  have HMO := Lib.hid hmo
  have K3 := Lib.hid k3
  have HM0 := Lib.hid hM0
  clear hs hl hm hlo hmo k1 k3 hM0
  obtain ⟨n, hnn⟩ : ∃ n, n = l.length := ⟨_, rfl⟩
  obtain ⟨n2, hnn2⟩ : ∃ n, n = m.length := ⟨_, rfl⟩
  have HN := Lib.hid hnn
  have HN2 := Lib.hid hnn2
  rw [← hnn] at hn HL ⊢
  rw [← hnn2] at hn2 HM HM0 ⊢
  clear hnn hnn2
  go_enter Tryd.func81, Tryd.ntmps81
  go_wp2_with fail
  generalize (((w.alloc (.cells #[.slice A r cp] 39)).alloc (.cells #[.slice none 0 0] 39)).alloc (.cells #[.slice none 0 0] 39)) = w3 at *
  go_loopw [16] (fun i wr => ∃ (k : Nat) (o : Value) (vs : List Value), k ≤ n ∧ i = .int .i64 k ∧ Hid (OwnM 5 22 wr (w.heap.size + 3) wr.heap.size o (mkM k n2 fun i j => F (l.getD i 0).toNat (m.getD j 0).toNat) vs) ∧
      wr.cell? ⟨w.heap.size + 1 + 1, 0, none⟩ = some o ∧ wr.frozen? ⟨w.heap.size + 1 + 1, 0, none⟩ = false ∧ wr.cell? ⟨w.heap.size + 1, 0, none⟩ = some (.slice none 0 0) ∧ wr.frozen? ⟨w.heap.size + 1, 0, none⟩ = false ∧ wr.cell? ⟨w.heap.size, 0, none⟩ = some (.slice A r cp) ∧ Hid (Below w.heap.size w wr) ∧ w.heap.size + 3 ≤ wr.heap.size)
    (fun i _ => n - (intOf i).toNat)
  case atStart => exact ⟨0, .slice none 0 0, [], Nat.zero_le _, rfl, HM0, q2, q2f, q1, q1f, q0, Lib.hid K3.out.to_below, by omega⟩
  case round =>
    obtain ⟨k, o, vs, hk, rfl, HO, hc2, hf2, hc1, hf1, hc0, HB, hsz⟩ := hrel
    clear q0 q1 q1f q2 q2f z3
    by_cases hlt : k < n
    · have hki : (k : Int) < (n : Int) := by omega
      have hkl : k < l.length := by rw [← HN.out]; exact hlt
      obtain ⟨p, hp⟩ := Int.eq_ofNat_of_zero_le (HLO.out k hkl).1
      have hpr : p < r := by have := (HLO.out k hkl).2; omega
      have HP := Lib.hid hp
      obtain ⟨A3, c3, e3, hlc3, hcm3, hx3⟩ := HL.out.below HB.out
      rw [ints_length, ← HN.out] at e3 hlc3 hx3
      simp only [Value.slice.injEq] at e3
      obtain ⟨rfl, z9, rfl⟩ := e3
      clear z9
      obtain ⟨b3, o3, rfl, hb3, hc3⟩ := hx3 (by omega)
      have g3 := hc3 k _ (ints_get l k hkl)
      have e4 : l[k] = (p : Int) := by simp [List.getD, hkl] at hp; exact hp
      rw [e4] at g3
      unfold maxLen at hcm3
      clear hc3 hx3 e4 hp
      obtain ⟨B0, hB0⟩ : ∃ B0, B0 = wr.heap.size := ⟨_, rfl⟩
      have hB1 : B0 ≤ wr.heap.size := by omega
      have hB2 : wr.heap.size ≤ B0 := by omega
      clear hB0
      go_wp2_with fail
      go_loopw [10, 22] (fun y i wq => ∃ mm : Nat, mm ≤ n2 ∧ i = .int .i64 mm ∧ Hid (wq.ownsRow B0 5 1 y mm (bys (mkRow mm fun j => F p (m.getD j 0).toNat))) ∧ Hid (TurnIn 0 0 wr wq))
        (fun _ i _ => n2 - (intOf i).toNat)
      case atStart => exact ⟨0, Nat.zero_le _, rfl, Lib.hid (World.ownsRow_nil _ _ _ _), Lib.hid (TurnIn.refl _)⟩
      case round =>
        obtain ⟨mm, hmm, rfl, HOWN, HT⟩ := hrel
        have hst := HT.out.size
        have hBB := HT.out.base HB.out (by omega) (by omega)
        have HBB := Lib.hid hBB
        have hc0' := cell_turn HT.out hc0 (by omega)
        clear hBB
        by_cases hlm : mm < n2
        · have hmi : (mm : Int) < (n2 : Int) := by omega
          have hml : mm < m.length := by rw [← HN2.out]; exact hlm
          obtain ⟨q, hq⟩ := Int.eq_ofNat_of_zero_le (HMO.out mm hml).1
          have hqr : q < c := by have := (HMO.out mm hml).2; omega
          have HQ := Lib.hid hq
          obtain ⟨A4, c4, e5, hlc4, hcm4, hx4⟩ := HM.out.below HBB.out
          rw [ints_length, ← HN2.out] at e5 hlc4 hx4
          simp only [Value.slice.injEq] at e5
          obtain ⟨rfl, z9, rfl⟩ := e5
          clear z9
          obtain ⟨b4, o4, rfl, hb4, hc4⟩ := hx4 (by omega)
          have g4 := hc4 mm _ (ints_get m mm hml)
          have e4 : m[mm] = (q : Int) := by simp [List.getD, hml] at hq; exact hq
          rw [e4] at g4
          unfold maxLen at hcm4
          obtain ⟨bb, off, cp5, b', off', c', e6, hl5, h5, h6, h7, hl6, h8⟩ := (HS.out.below HBB.out).cellF p q hpr hqr
          simp only [Value.slice.injEq] at e6
          obtain ⟨rfl, z9, rfl⟩ := e6
          clear z9
          unfold maxLen at hl5 hl6
          have hown := HOWN.out
          have HF : Hid (F p (m.getD mm 0).toNat = F p q) := by show F p _ = F p q; rw [HQ.out]; rfl
          have hpi : (p : Int) < (r : Int) := by omega
          have hqi : (q : Int) < (c : Int) := by omega
          clear hc4 hx4 e4 hq
          go_wp2_with (at_builtin; refine wpList_append1 rfl _ _ _ rfl _ 5 _ _ Tryd.underlying22 infoByte rfl _ mm _ rfl (hown.alloc _) wr.heap.size (.int .u8 ((F p q).toNat : Int)) rfl ?c1 rfl ?c2 ?c3 ?c4 ?_)
          case c1 => simp
          case c2 => omega
          case c3 => omega
          case c4 => simp; omega
          intro v' w' hown' hg' _
          have hT2 := turn_trans (turn_trans HT.out (turn_alloc wr (.cells #[.int .u8 ((F p q).toNat : Int)] 5)) (by omega)) (TurnIn.of_grown hg' (fun g e => (hown.alloc (.cells #[.int .u8 ((F p q).toNat : Int)] 5)).lt g e)) (by omega)
          have hown2 : w'.ownsRow B0 5 1 v' (mm + 1) (bys (mkRow (mm + 1) fun j => F p (m.getD j 0).toNat)) := by
            have e : (mkRow (mm + 1) fun j => F p (m.getD j 0).toNat) = (mkRow mm fun j => F p (m.getD j 0).toNat) ++ [F p q] := by
              rw [← HF.out]; simp [mkRow, List.range_succ]
            rw [e, bys_append]; exact hown'
          have HT2 := Lib.hid hT2
          have HOWN2 := Lib.hid hown2
          clear hown' hg' hown2 hT2 hown
          go_wp2_with fail
          go_roundw
          case rel => exact ⟨mm + 1, by omega, by go_num, HOWN2, HT2⟩
          case measure => simp [intOf]; omega
        · obtain rfl : mm = n2 := by omega
          have hmi : ¬ (mm : Int) < (mm : Int) := by omega
          obtain ⟨A5, n5, c5, rfl⟩ := own_isSlice HOWN.out
          obtain ⟨A6, n6, c6, rfl⟩ := HO.out.isSlice
          have hrow : wr.ownsRow (w.heap.size + 3) 22 1 (.slice A6 n6 c6) k vs := by simpa using (HO.out.keep HT.out (by omega)).row
          have hob : ∀ g, (Value.slice A6 n6 c6).ownBlock = some g → w.heap.size + 3 ≤ g := fun g e => (hrow.lt g e).1
          have hne2 : (Value.slice A6 n6 c6).ownBlock ≠ some (w.heap.size + 1 + 1) := fun e => by have := hob _ e; omega
          have hne1 : (Value.slice A6 n6 c6).ownBlock ≠ some (w.heap.size + 1) := fun e => by have := hob _ e; omega
          have hne0 : (Value.slice A6 n6 c6).ownBlock ≠ some w.heap.size := fun e => by have := hob _ e; omega
          have kW := turn_trans HT.out (turn_alloc wr (.cells #[.slice A5 n5 c5] 22)) (by omega)
          have hR : OwnBytes 5 (wr.alloc (.cells #[.slice A5 n5 c5] 22)) B0 wr.heap.size (.slice A5 n5 c5) (mkRow mm fun j => F p (m.getD j 0).toNat) := ⟨by simpa using HOWN.out.alloc _, by simp, fun g e => (HOWN.out.lt g e).2⟩
          have hc2' := cell_turn HT.out hc2 (by omega)
          go_wp2_with (at_builtin; refine wpList_append1 rfl _ _ _ rfl (w.heap.size + 3) 22 _ _ Tryd.underlying37 infoRowB rfl _ k vs rfl (hrow.alloc _) wr.heap.size (.slice A5 n5 c5) rfl ?d1 rfl ?d2 ?d3 ?d4 ?_)
          case d2 => omega
          case d4 => omega
          intro v' w' hown' hg' hv'
          obtain ⟨A7, n7, c7, rfl⟩ := own_isSlice hown'
          have g2 := (cell_past kW hg' hne2 (by omega) 0).trans hc2
          have g2f := (frozen_past kW hg' hne2 (by omega) 0).trans hf2
          have g1 := (cell_past kW hg' hne1 (by omega) 0).trans hc1
          have g1f := (frozen_past kW hg' hne1 (by omega) 0).trans hf1
          have g0 := (cell_past kW hg' hne0 (by omega) 0).trans hc0
          have hM5 := (((HO.out.push kW hR hB2 (by omega) (by simpa using hown') hg' (by rw [World.size_alloc]; exact hv')).keep (turn_setCell w' (w.heap.size + 1 + 1) 0 (.slice A7 n7 c7)) (by omega)).congr (L' := mkM (k + 1) mm fun i j => F (l.getD i 0).toNat (m.getD j 0).toNat) (by rw [mkM_succ, HP.out]; rfl))
          have HM5 := Lib.hid hM5
          have hsw : wr.heap.size ≤ w'.heap.size := by have := hg'.size; have e : (wr.alloc (.cells #[.slice A5 n5 c5] 22)).heap.size = wr.heap.size + 1 := by simp
                                                       omega
          have hb5 : Below w.heap.size w (w'.setCell ⟨w.heap.size + 1 + 1, 0, none⟩ (.slice A7 n7 c7)) := Below.setCell (TurnIn.base (TurnIn.of_grown hg' (fun g e => (hrow.alloc (.cells #[.slice A5 n5 c5] 22)).lt g e)) (kW.base HB.out (by omega) (by omega)) (by have := kW.size; omega) (by omega)) (show w.heap.size ≤ w.heap.size + 1 + 1 by omega) _
          have HB5 := Lib.hid hb5
          clear hM5 hb5 hown' hg' hv' hR kW hrow hob hc0 hc1 hf1 hc2 hf2
          go_wp2_with fail
          go_roundw
          case rel => exact ⟨k + 1, .slice A7 n7 c7, _, by omega, by go_num, Lib.hid (HM5.out.wider (Nat.le_refl _) (by simp) (Nat.le_refl _)), World.cell?_setCell_same _ _ _ g2, by simp [g2f], (cell_set_other w' _ _ _ (by omega)).trans g1, (frozen_set_other w' _ _ _ (by omega)).trans g1f, (cell_set_other w' _ _ _ (by omega)).trans g0, HB5, by simp; omega⟩
          case measure => simp [intOf]; omega
    · obtain rfl : k = n := by omega
      have hki : ¬ (k : Int) < (k : Int) := by omega
      obtain ⟨A9, n9, c9, rfl⟩ := HO.out.isSlice
      go_wp2_with fail
      refine bodyPost_ret (v := .agg #[.slice A9 n9 c9]) (by simp [results, Tryd.results81, go_sem, hc1]) rfl ?_
      have kk := turn_setCell wr (w.heap.size + 1) 0 (.slice A9 n9 c9)
      exact ⟨_, vs, rfl, (HO.out.keep kk (by omega)).wider (by omega) (by simp) (by simp), TurnIn.of_below (HB.out.setCell (Nat.le_succ _) _)⟩

end Go.Proofs.YtfglkgeeelapgaaDoor

/- A matrix by texts: the model's l3Rows. -/
namespace G294
open Go Go.RowKit
/-- the texts that a matrix makes of texts -/
def rowsT (r c n : Nat) (F : Ents) (T : List (List UInt8)) : List (List UInt8) := mkM r n fun i => combF c (F i) T
@[simp] theorem rowsT_length (r c n : Nat) (F : Ents) (T : List (List UInt8)) : (rowsT r c n F T).length = r := by simp [rowsT]
theorem rowsT_succ (r c n : Nat) (F : Ents) (T : List (List UInt8)) : rowsT (r + 1) c n F T = rowsT r c n F T ++ [comb c n (F r) T] := by simp [rowsT, mkM, comb, List.range_succ]
end G294
namespace Go.Proofs.YtfglkgeeelapgaaDoor
open Go.RowKit G294

set_option maxRecDepth 100000 in
set_option maxHeartbeats 4000000 in
theorem l3Rows_own (r c n : Nat) (F : Ents) (T : List (List UInt8)) (vm vt : Value) (w : World) (hm : SeenM w vm (mkM r c F)) (htx : Seen w vt (strs T)) (hc : T.length = c) (hc1 : 1 ≤ c) (hcc : c ≤ 1000) (hrr : r ≤ 1000)
    (hn : ∀ j, j < c → (T.getD j []).length = n) (hn2 : n ≤ 1000) : Calls Tryd.prog 58 #[.agg #[vm], vt] w (RetStrs 9 w (rowsT r c n F T)) := by
  obtain ⟨i0, hi0, hz0, hz1, hz2⟩ := info_parts infoByte
  have hb0 : Below w.heap.size w (w.alloc (.cells #[vm] 39)) := (Below.refl _ _).alloc (Nat.le_refl _) _
  have HM := Lib.hid hm
  obtain ⟨A0, cp0, rfl, hl0, hm0⟩ := hm.len
  rw [mkM_length] at hl0 HM hb0 ⊢
  obtain ⟨A', cp', rfl, hlc', hcm', hx'⟩ := htx
  rw [strs_length, hc] at hlc' hx'
  simp only [strs_length, hc]
  unfold maxLen at hm0 hcm'
  obtain ⟨b', off', rfl, hbl', hcell'⟩ := hx' (by omega)
  have htxt : ∀ j, j < c → w.cell? ⟨b', off' + j, none⟩ = some (.string (str (T.getD j []))) := fun j hj => by
    have := hcell' j _ (strs_get T j (by omega))
    rw [this]; simp [List.getD, show j < T.length by omega]
  have hc0 : w.cell? ⟨b', off', none⟩ = some (.string (str (T.getD 0 []))) := by
    have := htxt 0 (by omega)
    rwa [Nat.add_zero] at this
  have hs0 : (str (T.getD 0 [])).size = n := by rw [str_size]; exact hn 0 (by omega)
  generalize T.getD 0 [] = t0 at hc0 hs0
  have HTXT := Lib.hid htxt
  have HNN := Lib.hid hn
  clear hcell' hx' htxt hn hc hm
  go_enter Tryd.func58, Tryd.ntmps58
  go_wp2_with fail
  go_loopw [5, 15] (fun o i wr => ∃ k : Nat, k ≤ r ∧ i = .int .i64 k ∧ wr.ownsRow w.heap.size 9 1 o k (strs (rowsT k c n F T)) ∧ Below w.heap.size w wr)
    (fun _ i _ => r - (intOf i).toNat)
  case atStart => exact ⟨0, Nat.zero_le _, rfl, World.ownsRow_nil _ _ _ _, hb0⟩
  case round =>
    obtain ⟨k, hk, rfl, hown, hb⟩ := hrel
    clear hb0
    by_cases hlt : k < r
    · have hki : (k : Int) < (r : Int) := by omega
      obtain ⟨bb, off, c9, A1, c1, hvv, _, hbb, hcx, hc9, hsr⟩ := (HM.out.below hb).rowF k hlt
      simp only [Value.slice.injEq] at hvv
      obtain ⟨rfl, z9, rfl⟩ := hvv
      obtain ⟨A2, c2, hA2, hcc2, hcm2, hx2⟩ := hsr
      simp only [bys_length, mkRow_length] at hA2 hcc2 hx2
      obtain ⟨b, off2, hA3, hb2, hrow⟩ := hx2 (by omega)
      simp only [Value.slice.injEq] at hA2
      obtain ⟨rfl, _, rfl⟩ := hA2
      subst hA3
      have hcw0 : wr.cell? ⟨b', off', none⟩ = some (.string (str t0)) := (hb.cell (p := ⟨b', off', none⟩) hbl').trans hc0
      have HROW : Hid (∀ j, j < c → wr.cell? ⟨b, off2 + j, none⟩ = some (.int .u8 ((F k j).toNat : Int))) := fun j hj => by
        have := hrow j _ (bys_get _ j (by simpa using hj))
        rwa [mkRow_get] at this
      have hbs := hb.size
      unfold maxLen at hc9
      clear hrow hx2 z9
      go_wp2_with (at_make; refine wpList_make_full _ rfl _ _ _ rfl wr.heap.size _ i0 _ 1 Tryd.underlying22 hi0 hz0 hz1 _ _ _ _ n rfl rfl rfl rfl ?b2 ?b3 ?b4 ?_)
      case b2 => rw [hz2]; omega
      case b3 => unfold maxLen; omega
      case b4 => exact Nat.le_refl _
      intro w1 hown1 hg1
      rw [toList_madeCells_one] at hown1
      have k1 : TurnIn 0 0 wr w1 := TurnIn.of_grown hg1 (by simp)
      have hs1 : wr.heap.size < w1.heap.size := (hown1.lt wr.heap.size rfl).2
      have hO : OwnBytes 5 w1 wr.heap.size (wr.heap.size + 1) (.slice (some ⟨wr.heap.size, 0, none⟩) n n) (mkRow n (combF 0 (F k) T)) := by
        refine ⟨?_, hs1, fun g e => by simp [Value.ownBlock] at e; omega⟩
        rw [mkRow_length, bys_zero n (combF 0 (F k) T) (fun _ _ => rfl)]; exact hown1
      obtain ⟨B, hB⟩ : ∃ B, B = wr.heap.size := ⟨_, rfl⟩
      have hown' := owns_turn0 hown k1
      have hlo : ∀ g, Value.ownBlock u5 = some g → g < B := fun g e => by rw [hB]; exact (hown.lt g e).2
      have hbw1 : Below w.heap.size w w1 := k1.base hb (by omega) (by omega)
      have hrb : ∀ j, j < c → w1.cell? ⟨b, off2 + j, none⟩ = some (.int .u8 ((F k j).toNat : Int)) := fun j hj => cell_turn k1 (HROW.out j hj) (by omega)
      have hbB : b < B := by omega
      have hwB : w.heap.size ≤ B := by omega
      rw [← hB] at hO hs1 ⊢
      have HRB := Lib.hid hrb
      have HOWN := Lib.hid hown'
      have HLO := Lib.hid hlo
      clear hg1 hown1 hown hown' hlo hrb hcx hB k1 HROW hb hcw0 hb2
      go_wp2_with fail
      go_loopw [26] (fun i wq => ∃ j : Nat, j ≤ c ∧ i = .int .i64 j ∧ OwnBytes 5 wq B (B + 1) (.slice (some ⟨B, 0, none⟩) n n) (mkRow n (combF j (F k) T)) ∧ TurnIn B (B + 1) w1 wq)
        (fun i _ => c - (intOf i).toNat)
      case atStart => exact ⟨0, Nat.zero_le _, rfl, hO, ⟨rfl, rfl, rfl, Nat.le_refl _, fun _ _ _ => rfl⟩⟩
      case round =>
        obtain ⟨j, hj, rfl, hOj, hk1⟩ := hrel
        clear hO
        by_cases hltj : j < c
        · have hji : (j : Int) < (c : Int) := by omega
          have hcr : wr.cell? ⟨b, off2 + j, none⟩ = some (.int .u8 ((F k j).toNat : Int)) := (World.cell?_of_block (hk1.block b (by omega) (by omega))).trans (HRB.out j hltj)
          have hO2 : OwnBytes 5 wr B (B + 1) (.slice (some ⟨B, 0, none⟩) n n) (mkRow n fun p => if p < 0 then combF (j + 1) (F k) T p else combF j (F k) T p) := by simpa using hOj
          have hst : (str (T.getD j [])).size = n := by rw [str_size]; exact HNN.out j hltj
          have HE : Hid (∀ p, ent T j p = (T.getD j []).getD p 0) := fun p => rfl
          have hct0 := HTXT.out j hltj
          generalize T.getD j [] = tj at hct0 hst HE
          have hs9 := hk1.size
          clear hOj
          go_wp2_with fail
          go_loopw [33] (fun i wq => ∃ q : Nat, q ≤ n ∧ i = .int .i64 q ∧ OwnBytes 5 wq B (B + 1) (.slice (some ⟨B, 0, none⟩) n n) (mkRow n fun p => if p < q then combF (j + 1) (F k) T p else combF j (F k) T p) ∧ TurnIn B (B + 1) w1 wq)
            (fun i _ => n - (intOf i).toNat)
          case atStart => exact ⟨0, Nat.zero_le _, rfl, hO2, hk1⟩
          case round =>
            obtain ⟨q, hq, rfl, hO, hkq⟩ := hrel
            clear hO2 hcr hk1
            by_cases hlq : q < n
            · have hqi : (q : Int) < (n : Int) := by omega
              have hcs := hO.cellAt (k := q) (by simpa using hlq)
              have hfr := hO.frozenAt q
              rw [mkRow_getD _ _ _ hlq, if_neg (by omega)] at hcs
              have hct : wr.cell? ⟨b', off' + j, none⟩ = some (.string (str tj)) := (World.cell?_of_block (hkq.block b' (by omega) (by omega))).trans ((hbw1.cell (p := ⟨b', off' + j, none⟩) hbl').trans hct0)
              obtain ⟨y, hy⟩ : ∃ y, y = tj.getD q 0 := ⟨_, rfl⟩
              have hsg := str_get tj q (by omega)
              rw [← hy] at hsg
              have HY : Hid (ent T j q = y) := (HE.out q).trans hy.symm
              have HC := Lib.hid (stilly (l1Times_u8 (F k j) y wr.drew))
              have hxor : bits BinOp.xor IntKind.u8 ((combF j (F k) T q).toNat : Int) ((gmul (F k j) y).toNat : Int) = ((combF (j + 1) (F k) T q).toNat : Int) := by
                rw [xor_u8, combF_succ, HY.out]
              have HO3 := Lib.hid (hO.store (q := q) (x := combF (j + 1) (F k) T q) (by simp) (comb_step n j q (F k) T))
              have hk3 : TurnIn B (B + 1) w1 (wr.setCell ⟨B, q, none⟩ (.int .u8 ((combF (j + 1) (F k) T q).toNat : Int))) := turn_trans hkq (turn_setCell wr B q _) (by omega)
              have HK3 : Hid (TurnIn B (B + 1) w1 (wr.setCell ⟨B, q, none⟩ (.int .u8 ((combF (j + 1) (F k) T q).toNat : Int))).drew) := ⟨hk3.os, hk3.tape, hk3.output, hk3.size, hk3.block⟩
              clear hy hk3
              go_wp2_with fail
              refine wp_region_still_tail 14 (by kernel_rfl) (by kernel_rfl) ?_
              simp only [List.take_succ_cons, List.take_zero, List.drop_succ_cons, List.drop_zero]
              repeat (first | still_step | still_call (HC.out))
              refine wpStill_nil ?_
              go_wp2_with fail
              go_roundw
              case rel => exact ⟨q + 1, by omega, by go_num, HO3.out, HK3.out⟩
              case measure => simp [intOf]; omega
            · obtain rfl : q = n := by omega
              have hqi : ¬ (q : Int) < (q : Int) := by omega
              go_wp2_with fail
              go_roundw
              case rel => exact ⟨j + 1, by omega, by go_num, by
                have e : (mkRow q fun p => if p < q then combF (j + 1) (F k) T p else combF j (F k) T p) = mkRow q (combF (j + 1) (F k) T) := mkRow_congr fun p hp => if_pos hp
                rw [e] at hO; exact hO, hkq⟩
              case measure => simp [intOf]; omega
        · obtain rfl : j = c := by omega
          have hji : ¬ (j : Int) < (j : Int) := by omega
          have hseen : Seen wr (.slice (some ⟨B, 0, none⟩) n n) (bys (comb j n (F k) T)) := hOj.seen
          have hconv := run_string_seen (P := Tryd.prog) 22 5 9 Tryd.underlying22 Tryd.underlying5 Tryd.underlying9 hseen
          have hs9 := hk1.size
          have hown2 := owns_turn (hi := B) HOWN.out HLO.out hk1 (by omega)
          have hb5 : Below w.heap.size w wr := hk1.base hbw1 (by omega) (by omega)
          clear hOj hseen
          go_wp2_with (at_builtin; refine wpList_append1 rfl _ _ _ rfl w.heap.size 9 _ _ Tryd.underlying23 infoStr rfl _ k _ rfl (hown2.alloc _) wr.heap.size (.string (str (comb j n (F k) T))) rfl ?c1 rfl ?c2 ?c3 ?c4 ?_)
          case c2 => omega
          case c4 => first | omega | (simp; omega)
          intro v' w' hown' hg' _
          have hb' : Below w.heap.size w w' := below_append (hb5.alloc (by omega) _) (hown2.alloc _) hg' (Nat.le_refl _) (by simp; omega)
          have hown3 : w'.ownsRow w.heap.size 9 1 v' (k + 1) (strs (rowsT (k + 1) j n F T)) := by
            rw [rowsT_succ, strs_append]; exact hown'
          clear hown' hg'
          go_wp2_with fail
          go_roundw
          case rel => exact ⟨k + 1, by omega, by go_num, hown3, hb'⟩
          case measure => simp [intOf]; omega
    · obtain rfl : k = r := by omega
      have hki : ¬ (k : Int) < (k : Int) := by omega
      go_wp2_with fail
      go_ret
      exact ⟨_, rfl, OwnStrs.of_made (by simpa using hown), TurnIn.of_below hb⟩

end Go.Proofs.YtfglkgeeelapgaaDoor

/- shardsBy: the iterator over the shards that a matrix makes of texts. -/
namespace G294
open Go Go.RowKit
/-- the shards that a matrix makes of texts -/
def shardsF (r c n : Nat) (F : Ents) (T : List (List UInt8)) : List Sh := (List.range r).map fun (i : Nat) => (((i : Nat) : Int), comb c n (F i) T)
@[simp] theorem shardsF_length (r c n : Nat) (F : Ents) (T : List (List UInt8)) : (shardsF r c n F T).length = r := by simp [shardsF]
theorem shardsF_take (r c n : Nat) (F : Ents) (T : List (List UInt8)) (k : Nat) (h : k < r) : (shardsF r c n F T).take (k + 1) = (shardsF r c n F T).take k ++ [((k : Int), comb c n (F k) T)] := by
  rw [List.take_succ_eq_append_getElem (by simpa using h)]; simp [shardsF]
/-- a shard as a value -/
def shV (x : Sh) : Value := .agg #[.int .i64 x.1, .string (str x.2)]
theorem OwnM.agree {E EE : TypeId} {w w' : World} {lo hi : Nat} {v : Value} {L : Mat} {vs : List Value} (h : OwnM E EE w lo hi v L vs) (hs : w.heap.size ≤ w'.heap.size) (hb : ∀ k, lo ≤ k → k < hi → w'.heap[k]? = w.heap[k]?) : OwnM E EE w' lo hi v L vs :=
  ⟨owns_agree h.row h.out hb, Nat.le_trans h.top hs, h.out, fun i u hu => ⟨owns_agree (h.rows i u hu).1 (h.rows i u hu).2.2 hb, Nat.le_trans h.top hs, (h.rows i u hu).2.2⟩, h.apart⟩
theorem OwnStrs.agree {E : TypeId} {w w' : World} {lo hi : Nat} {v : Value} {l : List (List UInt8)} (h : OwnStrs E w lo hi v l) (hs : w.heap.size ≤ w'.heap.size) (hb : ∀ k, lo ≤ k → k < hi → w'.heap[k]? = w.heap[k]?) : OwnStrs E w' lo hi v l :=
  ⟨owns_agree h.1 h.2.2 hb, Nat.le_trans h.2.1 hs, h.2.2⟩
end G294
namespace Go.Proofs.YtfglkgeeelapgaaDoor
open Go.RowKit Go.Shelf G294

attribute [local go_sem] Oper.semAt_some

end Go.Proofs.YtfglkgeeelapgaaDoor

/- The mathematics of EncodeShards. -/
namespace G294
open Go Go.RowKit
def encOk (T : List (List UInt8)) (m : Int) : Bool := shapeOk T.length m && textsOk T
def encL (k m : Nat) (T : List (List UInt8)) : List Sh := shardsF (k + m) k (T.getD 0 []).length (codF k) T
def encR (T : List (List UInt8)) (m : Int) : List Sh := if encOk T m then encL T.length m.toNat T else []
theorem encR_no {T : List (List UInt8)} {m : Int} (h : encOk T m = false) : encR T m = [] := by unfold encR; rw [if_neg (by rw [h]; simp)]
theorem encR_yes {T : List (List UInt8)} {m : Nat} (h : encOk T m = true) : encR T m = encL T.length m T := by unfold encR; rw [if_pos h]; simp
theorem textsOk_at {T : List (List UInt8)} (h : textsOk T = true) : ∀ j, j < T.length → (T.getD j []).length = (T.getD 0 []).length := fun j hj => by
  have := ((textsOk_iff T).1 h j hj).1
  rw [← this]; simp [List.getD, hj]
theorem encR_len (T : List (List UInt8)) (m : Int) : (encR T m).length ≤ 14 := by
  unfold encR; split
  · rename_i h
    simp only [encOk, Bool.and_eq_true] at h
    have := shapeOk_b h.1
    simp [encL]; omega
  · simp
end G294

/- EncodeShards: the model's. -/
namespace G294
open Go Go.RowKit
theorem shards_rows (r c n : Nat) (F : Ents) (T : List (List UInt8)) (k : Nat) (h : k < r) : (rowsT r c n F T)[k]? = some (comb c n (F k) T) := by
  simp [rowsT, mkM, h, comb]
/-- append(s, x) of one struct of two cells, onto a row of the call's own -/
theorem wpList_append2 {P : Program} {w : World} {ops : Array Oper} {rest : List Oper} {o : Oper} {a : Act} {Q : Exit → Act → World → Prop} (hgd : o.guard = none) (s x : Operand) (t : TypeId)
    (ho : o.op = .call { callee := .builtin .append, args := #[s, x], argTypes := #[t, t] })
    (base : Nat) (e : TypeId) (z : Value) (bytes : Nat) (ht : P.underlying t = some (.slice e)) (hinfo : (P.info? e).map (fun i => (i.zero, i.size, i.bytes)) = some (some z, 2, bytes)) (hzs : z.cells.size = 2)
    (v : Value) (n : Nat) (xs : List Value) (hs : a.eval s = v) (hown : w.ownsRow base e 2 v n xs)
    (g : Nat) (u u' : Value) (hx : a.eval x = .slice (some ⟨g, 0, none⟩) 1 1) (hc : w.cell? ⟨g, 0, none⟩ = some u) (hc' : w.cell? ⟨g, 1, none⟩ = some u') (h1 : u.oneCell' = true) (h2 : u'.oneCell' = true)
    (hn : n ≤ 1000000000) (hby : bytes ≤ 1000) (hbase : base ≤ w.heap.size)
    (h : ∀ v' w', w'.ownsRow base e 2 v' (n + 1) (xs ++ [u, u']) → w.grownBy w' v.ownBlock → (v'.ownBlock = v.ownBlock ∨ v'.ownBlock = some w.heap.size) → wpList P ops Q rest (a.put o.dst v') w') :
    wpList P ops Q (o :: rest) a w := by
  obtain ⟨i, hi, hz, hsz, hbs⟩ := info_parts hinfo
  refine wpList_append_own_at w hgd s x t ho base e i z 2 bytes ht hi hz hsz hbs hzs (by omega) v n xs hs hown ⟨g, 0, none⟩ 1 1 [u, u'] hx rfl ?_ ?_ ?_ ?_ hbase (fun v' w' h2 h3 _ h5 => h v' w' h2 h3 h5)
  · intro j y hj
    match j, hj with
    | 0, hj => simp at hj; subst hj; simpa [Addr.add] using hc
    | 1, hj => simp at hj; subst hj; simpa [Addr.add] using hc'
  · intro y hy
    simp only [List.mem_cons, List.not_mem_nil, or_false] at hy
    rcases hy with rfl | rfl
    · exact h1
    · exact h2
  · unfold maxLen; omega
  · have : (n + 1) * bytes ≤ 1000000001 * 1000 := Nat.mul_le_mul (by omega) hby
    omega
end G294
namespace Go.Proofs.YtfglkgeeelapgaaDoor
open Go.RowKit G294

end Go.Proofs.YtfglkgeeelapgaaDoor

/- Decoding shards: the model's. -/
namespace G294
open Go Go.RowKit
/-- the rows of the code that the first shards name -/
def usedG (k : Nat) (l : List Sh) : Ents := fun i j => codF k (l.getD i (0, [])).1.toNat j
def usedF (k : Nat) (l : List Sh) : Ents := ent (mkM k k (usedG k l))
theorem used_mk (k : Nat) (l : List Sh) : mkM k k (usedF k l) = mkM k k (usedG k l) := mkM_congr fun i j hi hj => ent_mkM _ _ _ _ _ hi hj
def nosK (k : Nat) (l : List Sh) : List Int := (l.take k).map (·.1)
def txtK (k : Nat) (l : List Sh) : List (List UInt8) := (l.take k).map (·.2)
def decX (k n : Nat) (l : List Sh) : List (List UInt8) := rowsT k k n (bst (usedF k l) idF k k) (txtK k l)
def usedOk (k : Nat) (l : List Sh) : Bool := decide ((est (usedF k l) k k).2 = k)
def decY (k n : Nat) (l : List Sh) : List (List UInt8) := if usedOk k l = true then decX k n l else []
theorem decY_yes {k n : Nat} {l : List Sh} (h : usedOk k l = true) : decY k n l = decX k n l := if_pos h
theorem decY_no {k n : Nat} {l : List Sh} (h : usedOk k l = false) : decY k n l = [] := if_neg (by rw [h]; simp)
theorem nosK_succ {l : List Sh} {k : Nat} {s : Sh} (h : l[k]? = some s) : nosK (k + 1) l = nosK k l ++ [s.1] := by simp [nosK, List.take_add_one, h]
theorem txtK_succ {l : List Sh} {k : Nat} {s : Sh} (h : l[k]? = some s) : txtK (k + 1) l = txtK k l ++ [s.2] := by simp [txtK, List.take_add_one, h]
theorem nosK_length {l : List Sh} {k : Nat} (h : k ≤ l.length) : (nosK k l).length = k := by simp [nosK]; omega
theorem txtK_length {l : List Sh} {k : Nat} (h : k ≤ l.length) : (txtK k l).length = k := by simp [txtK]; omega
theorem nosK_get {l : List Sh} {k i : Nat} (h : k ≤ l.length) (hi : i < k) : (nosK k l).getD i 0 = (l.getD i (0, [])).1 := by
  have : i < l.length := by omega
  simp [nosK, List.getD, List.getElem?_map, List.getElem?_take, hi, this]
theorem txtK_get {l : List Sh} {k i : Nat} (h : k ≤ l.length) (hi : i < k) : (txtK k l).getD i [] = (l.getD i (0, [])).2 := by
  have : i < l.length := by omega
  simp [txtK, List.getD, List.getElem?_map, List.getElem?_take, hi, this]
theorem range_get {k j : Nat} (h : j < k) : ((List.range k).map fun i : Nat => (i : Int)).getD j 0 = (j : Int) := by simp [List.getD, h]
theorem used_eq {l : List Sh} {k : Nat} (h : k ≤ l.length) : mkM (nosK k l).length ((List.range k).map fun i : Nat => (i : Int)).length (fun i j => codF k ((nosK k l).getD i 0).toNat (((List.range k).map fun i : Nat => (i : Int)).getD j 0).toNat) = mkM k k (usedF k l) := by
  rw [nosK_length h]
  simp only [List.length_map, List.length_range]
  rw [used_mk]
  unfold mkM mkRow
  refine List.map_congr_left fun i hi => List.map_congr_left fun j hj => ?_
  rw [List.mem_range] at hi hj
  show codF k ((nosK k l).getD i 0).toNat (((List.range k).map fun i : Nat => (i : Int)).getD j 0).toNat = usedG k l i j
  rw [nosK_get h hi, range_get hj]
  simp [usedG]
end G294
namespace Go.Proofs.YtfglkgeeelapgaaDoor
open Go.RowKit G294

end Go.Proofs.YtfglkgeeelapgaaDoor

/- DecodeShards: the model's, and its mathematics. -/
namespace G294
open Go Go.RowKit
def lenH (l : List Sh) : Nat := (l.getD 0 (0, [])).2.length
/-- what both check ahead of the inverse -/
def preOk (l : List Sh) (k m : Int) : Bool := shapeOk k m && shardsOk l (k + m) && decide (k ≤ l.length)
def decOk (l : List Sh) (k m : Int) : Bool := preOk l k m && usedOk k.toNat l
def decR (l : List Sh) (k m : Int) : List (List UInt8) := if preOk l k m = true then decY k.toNat (lenH l) l else []
theorem decR_no {l : List Sh} {k m : Int} (h : preOk l k m = false) : decR l k m = [] := if_neg (by rw [h]; simp)
theorem decR_yes {l : List Sh} {k : Nat} {m : Int} (h : preOk l k m = true) : decR l k m = decY k (lenH l) l := by unfold decR; rw [if_pos h]; simp
theorem decOk_no {l : List Sh} {k m : Int} (h : preOk l k m = false) : decOk l k m = false := by unfold decOk; rw [h]; rfl
theorem decOk_yes {l : List Sh} {k : Nat} {m : Int} (h : preOk l k m = true) : decOk l k m = usedOk k l := by unfold decOk; rw [h]; simp
theorem shards_ge {l : List Sh} {n : Int} (h : shardsOk l n = true) : ∀ (i : Nat) (s : Sh), l[i]? = some s → 0 ≤ s.1
  | 0, s, hs => by have := ((shardsOk_iff l n).1 h 0 s hs).1.1; simp [lastNo] at this; omega
  | i + 1, s, hs => by
    have h1 := ((shardsOk_iff l n).1 h (i + 1) s hs).1.1
    have hi : i < l.length := by have := (List.getElem?_eq_some_iff.1 hs).1; omega
    have h2 := shards_ge h i l[i] (List.getElem?_eq_getElem hi)
    rw [lastNo_succ (List.getElem?_eq_getElem hi)] at h1
    omega
theorem shards_no {l : List Sh} {k q : Nat} (h : shardsOk l ((k : Int) + q) = true) : ∀ (i : Nat) (s : Sh), l[i]? = some s → 0 ≤ s.1 ∧ s.1 < ((k + q : Nat) : Int) := fun i s hs => by
  have h1 := ((shardsOk_iff _ _).1 h i s hs).1.2
  have h2 := shards_ge h i s hs
  omega
theorem shards_len {l : List Sh} {n : Int} (h : shardsOk l n = true) : ∀ (i : Nat) (s : Sh), l[i]? = some s → s.2.length = lenH l := fun i s hs => ((shardsOk_iff l n).1 h i s hs).2.1
theorem shards_40 {l : List Sh} {n : Int} (h : shardsOk l n = true) : lenH l ≤ 40 := by
  cases l with
  | nil => simp [lenH]
  | cons a t => exact ((shardsOk_iff _ n).1 h 0 a rfl).2.2
end G294
namespace Go.Proofs.YtfglkgeeelapgaaDoor
open Go.RowKit G294

end Go.Proofs.YtfglkgeeelapgaaDoor
