/- Joined texts: Indep, DrpI, DrpRows, BolWalks, DrpS, DrpOk, SolDrp. -/
import Derived.Test.YtbfchebnooanjaaDoorBd11
import Derived.Test.YtbfchebnooanjaaDoorBd15
import Derived.Test.YtbfchebnooanjaaDoorBd12
import Derived.Test.YtbfchebnooanjaaDoorBd10
import Derived.Test.YtbfchebnooanjaaDoorBd06
import Derived.WalkSmall
import Derived.Deep.CutRange
import Derived.Deep.RegionHeld3
import Derived.Test.YtbfchebnooanjaaDoorBd09
import Derived.Test.YtbfchebnooanjaaDoorBd00
import Derived.Test.YtbfchebnooanjaaDoorBd07
import Derived.Test.YtbfchebnooanjaaDoorBd02
import Derived.Test.YtbfchebnooanjaaDoorBd05
import Derived.Test.YtbfchebnooanjaaDoorBd03
set_option linter.unusedSimpArgs false
set_option linter.unusedVariables false
/- independent, the program's: the shards whose rows are no combinations of those before them. -/
namespace G294
open Go Go.RowKit
theorem own_sliceN {w : World} {lo size n : Nat} {E : TypeId} {v : Value} {xs : List Value} (h : w.ownsRow lo E size v n xs) : ∃ A c, v = .slice A n c := by
  rcases h.2 with ⟨rfl, rfl⟩ | ⟨g, c, cur, rfl, _⟩
  · exact ⟨none, 0, rfl⟩
  · exact ⟨_, _, rfl⟩
def indS (L : Mat) (U : List Sh) (x : Sh) : List Sh := if rankR (usedM L (U ++ [x])) = U.length + 1 then U ++ [x] else U
def indK (L : Mat) (l : List Sh) : Nat → List Sh
  | 0 => []
  | k + 1 => indS L (indK L l k) (l.getD k (0, []))
theorem indK_len (L : Mat) (l : List Sh) : ∀ k, (indK L l k).length ≤ k
  | 0 => Nat.le_refl _
  | k + 1 => by
    have := indK_len L l k
    rw [indK, indS]
    split
    · simp; omega
    · omega
theorem indK_mem {L : Mat} {l : List Sh} {P : Sh → Prop} (h : ∀ d ∈ l, P d) : ∀ k, k ≤ l.length → ∀ d ∈ indK L l k, P d
  | 0, _, d, hd => by simp [indK] at hd
  | k + 1, hk, d, hd => by
    have ih := indK_mem (L := L) h k (by omega)
    rw [indK, indS] at hd
    split at hd
    · rcases List.mem_append.1 hd with hd | hd
      · exact ih d hd
      · rw [List.mem_singleton] at hd
        rw [hd]
        have e : l.getD k (0, []) = l[k] := by simp [List.getD, show k < l.length by omega]
        rw [e]; exact h _ (List.getElem_mem _)
    · exact ih d hd
end G294
namespace Go.Proofs.YtbfchebnooanjaaDoor
open Go.RowKit G294

set_option maxRecDepth 100000 in
set_option maxHeartbeats 4000000 in
theorem independent_own (v : Value) (L : Mat) (u : Value) (l : List Sh) (w : World) (hm : SeenM w v L) (hu : SeenH w u l) (hln : l.length ≤ 1000) (hno : ∀ d ∈ l, 0 ≤ d.1 ∧ d.1 < (L.length : Int)) (ht : Tab w) (h0 : 0 < w.heap.size) :
    Calls Tryd.prog 77 #[.agg #[v], u] w (RetShs 27 w (indK L l l.length)) := by
  have HM0 := Lib.hid hm
  have HT0 := Lib.hid ht
  have HLE := Lib.hid (indK_len L l)
  have HME : Hid (∀ k, k ≤ l.length → ∀ d ∈ indK L l k, 0 ≤ d.1 ∧ d.1 < (L.length : Int)) := fun k hk => indK_mem hno k hk
  have HNO := Lib.hid hno
  have HIS : Hid (∀ k x, l[k]? = some x → indK L l (k + 1) = indS L (indK L l k) x) := fun k x hx => by
    rw [indK]; simp [List.getD, hx]
  obtain ⟨A, cp, rfl, hlc, hcm⟩ := hm.len
  obtain ⟨Au, cu, rfl, hluc, hucm, hx⟩ := hu
  unfold maxLen at hcm hucm
  generalize hnn : l.length = n at *
  have HN := Lib.hid hnn
  have k1 := turn_alloc w (.cells #[.slice A L.length cp] 67)
  have z1 := World.size_alloc w (.cells #[.slice A L.length cp] 67)
  have c1 := alloc_cell w (.slice A L.length cp) 67
  have HX := Lib.hid hx
  clear hm hno ht hnn hx
  go_enter Tryd.func77, Tryd.ntmps77
  go_wp2_with fail
  generalize (w.alloc (.cells #[.slice A L.length cp] 67)) = w2 at *
  have hz1 : w.heap.size < w2.heap.size := by omega
  have HM : Hid (∀ W, TurnIn 0 0 w2 W → SeenM W (.slice A L.length cp) L) := fun W h => (HM0.out.touch k1).touch h
  have HT : Hid (∀ W, TurnIn 0 0 w2 W → Tab W ∧ 0 < W.heap.size) := fun W h => ⟨(HT0.out.below k1.to_below h0).below h.to_below (by omega), by have := h.size; omega⟩
  have KW := Lib.hid k1
  have HC1 := Lib.hid c1
  clear k1 z1 c1
  go_loopw [5, 13] (fun o i wr => ∃ k : Nat, k ≤ n ∧ i = .int .i64 k ∧ Hid (wr.ownsRow w2.heap.size 27 2 o (indK L l k).length (shs (indK L l k))) ∧ Hid (Below w2.heap.size w2 wr)) (fun _ i _ => n - (intOf i).toNat)
  case atStart => exact ⟨0, Nat.zero_le _, rfl, Lib.hid (World.ownsRow_nil _ _ _ _), Lib.hid (Below.refl _ _)⟩
  case round =>
    obtain ⟨k, hk, rfl, HOW, HBr⟩ := hrel
    have sr := HBr.out.size
    by_cases hlt : k < n
    · have hki : (k : Int) < (n : Int) := by omega
      obtain ⟨b, off, rfl, hbl, hcell⟩ := HX.out (by omega)
      obtain ⟨⟨no, s⟩, hks⟩ := at_lt HN.out hlt
      have kB := turn_trans KW.out (TurnIn.of_below HBr.out) (by omega)
      have hc1 := cell_turn kB (hcell k _ hks).1 hbl
      have hc2 := cell_turn kB (hcell k _ hks).2 hbl
      simp only at hc1 hc2
      have HIK := Lib.hid (HIS.out k _ hks)
      have hUl := HLE.out k
      have HUN : Hid (∀ d ∈ indK L l k ++ [(no, s)], 0 ≤ d.1 ∧ d.1 < (L.length : Int)) := fun d hd => by
        rcases List.mem_append.1 hd with hd | hd
        · exact HME.out k hk d hd
        · rw [List.mem_singleton] at hd
          rw [hd]; exact HNO.out _ (List.mem_of_getElem? hks)
      clear hcell hks kB
      generalize indK L l k = U at *
      obtain ⟨A5, c5, rfl⟩ := own_sliceN HOW.out
      generalize hzz : U.length = z at *
      have HZ := Lib.hid hzz
      clear hzz
      have d0 := alloc_duo0 wr (.int .i64 no) (.string (str s)) 27
      have d1 := alloc_duo1 wr (.int .i64 no) (.string (str s)) 27
      have hb2 : Below w2.heap.size w2 ((wr.alloc (.cells #[.int .i64 no, .string (str s)] 27)).alloc (.cells #[.int .i64 no, .string (str s)] 27)) := (HBr.out.alloc HBr.out.size _).alloc (by simp; omega) _
      have HB2 := Lib.hid hb2
      clear hb2
      go_wp2_with (at_builtin; refine wpList_appendKeep rfl _ _ _ rfl w2.heap.size 27 _ 2 _ Tryd.underlying23 infoShard rfl (by omega) _ z (shs U) rfl ((HOW.out.alloc _).alloc _) ⟨wr.heap.size + 1, 0, none⟩ 1 [.int .i64 no, .string (str s)] (by rfl) rfl (by have h := cell_two_new (wr.alloc (.cells #[.int .i64 no, .string (str s)] 27)) (.int .i64 no) (.string (str s)) 27; rwa [World.size_alloc] at h) (by intro y hy; simp at hy; rcases hy with rfl | rfl <;> rfl) ?c2 ?c3 ?c4 ?_)
      case c2 => omega
      case c3 => omega
      case c4 => simp; omega
      intro v' w' hmore hg' hv' hold
      have hb3 : Below w2.heap.size w2 w' := HB2.out.grown hg' HB2.out.size (fun g e => (HOW.out.lt g e).1)
      obtain ⟨A6, c6, rfl⟩ := own_sliceN hmore
      have hsp := hb3.size
      have hlen : (U ++ [(no, s)]).length = z + 1 := by rw [List.length_append, HZ.out]; rfl
      have hMO : OwnSh 27 w' w2.heap.size w'.heap.size (.slice A6 (z + 1) c6) (U ++ [(no, s)]) := ⟨by rw [hlen, shs_append]; exact hmore, Nat.le_refl _, fun g e => (hmore.lt g e).2⟩
      have HMS : Hid (∀ W, TurnIn 0 0 w' W → SeenH W (.slice A6 (z + 1) c6) (U ++ [(no, s)])) := fun W h => (hMO.keep h (by omega)).seen
      have HMO := Lib.hid hMO.1
      have HOL := Lib.hid hold
      have HB3 := Lib.hid hb3
      have HLN := Lib.hid hlen
      have HML : Hid (((U ++ [(no, s)]).map (·.1)).length ≤ 1048576) := by show _ ≤ _; rw [List.length_map, hlen]; omega
      have HNU : Hid (∀ i, i < ((U ++ [(no, s)]).map (·.1)).length → 0 ≤ ((U ++ [(no, s)]).map (·.1)).getD i 0 ∧ ((U ++ [(no, s)]).map (·.1)).getD i 0 < (L.length : Int)) := fun i hi => by
        have hi' : i < (U ++ [(no, s)]).length := by simpa using hi
        have e : ((U ++ [(no, s)]).map (·.1)).getD i 0 = ((U ++ [(no, s)])[i]).1 := by simp only [List.getD, List.getElem?_map, List.getElem?_eq_getElem hi']; rfl
        rw [e]; exact HUN.out _ (List.getElem_mem hi')
      have c1 := cell_turn (TurnIn.of_below hb3) HC1.out hz1
      have hl0 : w.heap.size < w'.heap.size := by omega
      have l0 : (⟨w.heap.size, 0, none⟩ : Addr).block < w'.heap.size := hl0
      have hS0 : Below w'.heap.size w' w'.drew ∧ w'.drew.cell? ⟨w.heap.size, 0, none⟩ = some (.slice A L.length cp) := ⟨(Below.refl _ _).drew, c1⟩
      have HW2 : Hid (∀ W, Below w'.heap.size w' W → TurnIn 0 0 w2 W) := fun W h => TurnIn.of_below (hb3.trans (h.mono hsp))
      clear hmore hg' hv' hold hMO hb3 hlen d0 d1 hc1 hc2
      go_wp2_with fail
      go_cut [9, 10] from 21 to 28 (fun s9 s10 wx => s9 = .int .i64 ((rankR (usedM L (U ++ [(no, s)])) : Nat) : Int) ∧ Below w'.heap.size w' wx)
      case first =>
        go_region_held3 (fun W => Below w'.heap.size w' W ∧ W.cell? ⟨w.heap.size, 0, none⟩ = some (.slice A L.length cp))
          (first | exact hS0 | exact hS5 | exact hS4 | exact hS3 | assumption)
          (first
            | (go_at_call 75; refine (numbersOf_own _ (U ++ [(no, s)]) _ (HMS.out _ (TurnIn.of_below (And.left (by assumption)))) (by rw [HLN.out]; omega)).mono ?_; rintro e w3 ⟨v3, rfl, o3, k3⟩; obtain ⟨A3, n3, c3, rfl⟩ := o3.isSlice; have hS3 := sTurn (by assumption) l0 k3)
            | (go_at_call 74; refine (rowsAt_seen _ L _ ((U ++ [(no, s)]).map (·.1)) _ (HM.out _ (HW2.out _ (And.left (by assumption)))) o3.seen HML.out HNU.out).mono ?_; rintro e w4 ⟨A4, n4, c4, rfl, s4, k4⟩; have hS4 := sTurn (by assumption) l0 k4)
            | (go_at_call 99; refine (rankOf_own _ (usedM L (U ++ [(no, s)])) _ s4 (HT.out _ (HW2.out _ (And.left (by assumption)))).1 (HT.out _ (HW2.out _ (And.left (by assumption)))).2).mono ?_; rintro e w5 ⟨rfl, k5⟩; have hS5 := sTurn (by assumption) l0 k5))
        all_goals (go_wp2_with fail; go_meet; exact ⟨rfl, hS5.1⟩)
      case rest =>
        obtain ⟨rfl, hBx⟩ := hcut
        have tx := TurnIn.of_below hBx
        have HOLx := Lib.hid (owns_turn0 HOL.out tx)
        have HMOx := Lib.hid (owns_turn0 HMO.out tx)
        have HBx := Lib.hid (HB3.out.trans (hBx.mono hsp))
        have HSI : Hid (indS L U (no, s) = if rankR (usedM L (U ++ [(no, s)])) = z + 1 then U ++ [(no, s)] else U) := by show _ = _; rw [indS, HZ.out]
        clear hBx tx c1 hS0
        generalize rankR (usedM L (U ++ [(no, s)])) = rk at *
        by_cases hr : rk = z + 1
        · have e1 : ((rk : Int) == (z : Int) + 1) = true := by simp; omega
          have HK1 : Hid (indK L l (k + 1) = U ++ [(no, s)]) := by show _ = _; rw [HIK.out, HSI.out, if_pos hr]
          have HO2 : Hid (wc.ownsRow w2.heap.size 27 2 (.slice A6 (z + 1) c6) (indK L l (k + 1)).length (shs (indK L l (k + 1)))) := by show World.ownsRow _ _ _ _ _ _ _; rw [HK1.out]; exact HMOx.out
          clear hr
          go_wp2_with fail
          go_roundw
          case rel => exact ⟨k + 1, by omega, by go_num, HO2, HBx⟩
          case measure => simp [intOf]; omega
        · have e1 : ((rk : Int) == (z : Int) + 1) = false := by simp; omega
          have HK1 : Hid (indK L l (k + 1) = U) := by show _ = _; rw [HIK.out, HSI.out, if_neg hr]
          have HO2 : Hid (wc.ownsRow w2.heap.size 27 2 (.slice A5 z c5) (indK L l (k + 1)).length (shs (indK L l (k + 1)))) := by show World.ownsRow _ _ _ _ _ _ _; rw [HK1.out, HZ.out]; exact HOLx.out
          clear hr
          go_wp2_with fail
          go_roundw
          case rel => exact ⟨k + 1, by omega, by go_num, HO2, HBx⟩
          case measure => simp [intOf]; omega
    · obtain rfl : k = n := by omega
      have hki : ¬ (k : Int) < (k : Int) := by omega
      have HE := Lib.hid (turn_trans KW.out (TurnIn.of_below HBr.out) (by omega))
      go_wp2_with fail
      go_ret
      exact ⟨_, rfl, ⟨own_base HOW.out (by omega), Nat.le_refl _, fun g e => (HOW.out.lt g e).2⟩, HE.out⟩

end Go.Proofs.YtbfchebnooanjaaDoor

/- Chapter 9: which blocks a seed chooses: the program's. -/
namespace G294
open Go Go.RowKit
theorem rem_nat (a b : Nat) : ((a : Nat) : Int).tmod ((b : Nat) : Int) = ((a % b : Nat) : Int) := by
  rw [Int.tmod_eq_emod_of_nonneg (by omega)]; exact (Int.natCast_emod a b).symm
theorem bitU_eq (x : Bool) : (((bitU x).toNat : Int) == 0) = !x := by cases x <;> rfl
theorem bitU_one (x : Bool) : (((bitU x).toNat : Int) == 1) = x := by cases x <;> rfl
end G294
namespace Go.Proofs.YtbfchebnooanjaaDoor
open Go.RowKit G294

set_option maxHeartbeats 400000 in
theorem goodSeed_any (n : Int) (w : World) : Calls Tryd.prog 70 #[.int .i64 n] w fun e w' => e = .returned (.bool (seedOk n)) ∧ w = w' := by
  by_cases h1 : 0 ≤ n
  · have hd : decide (0 ≤ n) = true := by simpa using h1
    by_cases h2 : n ≤ 100000
    · have HV : Hid (seedOk n = true) := by show seedOk n = true; simp [seedOk, h1, h2]
      go_enter Tryd.func70, Tryd.ntmps70
      go_wp2_with fail
      go_ret
      exact ⟨by rw [HV.out]; simp [h2], rfl⟩
    · have HV : Hid (seedOk n = false) := by show seedOk n = false; simp [seedOk, h2]
      go_enter Tryd.func70, Tryd.ntmps70
      go_wp2_with fail
      go_ret
      exact ⟨by rw [HV.out]; simp [h2], rfl⟩
  · have hd : decide (0 ≤ n) = false := by simpa using h1
    have HV : Hid (seedOk n = false) := by show seedOk n = false; simp [seedOk, h1]
    go_enter Tryd.func70, Tryd.ntmps70
    go_wp2_with fail
    go_ret
    exact ⟨by rw [HV.out]; rfl, rfl⟩

set_option maxHeartbeats 400000 in
theorem goodBlockCount_any (n : Int) (w : World) : Calls Tryd.prog 45 #[.int .i64 n] w fun e w' => e = .returned (.bool (bcOk n)) ∧ w = w' := by
  by_cases h1 : 1 ≤ n
  · have hd : decide (1 ≤ n) = true := by simpa using h1
    by_cases h2 : n ≤ 12
    · have HV : Hid (bcOk n = true) := by show bcOk n = true; simp [bcOk, h1, h2]
      go_enter Tryd.func45, Tryd.ntmps45
      go_wp2_with fail
      go_ret
      exact ⟨by rw [HV.out]; simp [h2], rfl⟩
    · have HV : Hid (bcOk n = false) := by show bcOk n = false; simp [bcOk, h2]
      go_enter Tryd.func45, Tryd.ntmps45
      go_wp2_with fail
      go_ret
      exact ⟨by rw [HV.out]; simp [h2], rfl⟩
  · have hd : decide (1 ≤ n) = false := by simpa using h1
    have HV : Hid (bcOk n = false) := by show bcOk n = false; simp [bcOk, h1]
    go_enter Tryd.func45, Tryd.ntmps45
    go_wp2_with fail
    go_ret
    exact ⟨by rw [HV.out]; rfl, rfl⟩

set_option maxHeartbeats 400000 in
theorem nextNumber_any (s : Nat) (w : World) (hs : s ≤ 100000) : Calls Tryd.prog 98 #[.int .i64 (s : Int)] w fun e w' => e = .returned (.int .i64 ((nxt s : Nat) : Int)) ∧ w = w' := by
  obtain ⟨z, hz⟩ : ∃ z, z = 75 * s := ⟨_, rfl⟩
  have hzb : z ≤ 7500000 := by omega
  have hm : (75 : Int) * (s : Int) = (z : Int) := by rw [hz]; simp
  have hr : ((z : Int) + 74).tmod 65537 = ((nxt s : Nat) : Int) := by
    have e := rem_nat (z + 74) 65537
    have e2 : nxt s = (z + 74) % 65537 := by rw [hz]; rfl
    rw [e2]; exact e
  have hn := nxt_lt s
  generalize nxt s = t at *
  clear hz
  go_enter Tryd.func98, Tryd.ntmps98
  go_wp2_with fail
  go_ret
  exact ⟨rfl, rfl⟩

set_option maxRecDepth 100000 in
set_option maxHeartbeats 2000000 in
theorem dropRow_own (s b : Nat) (w : World) (hs : s ≤ 100000) (hb1 : 1 ≤ b) (hb2 : b ≤ 12) : Calls Tryd.prog 76 #[.int .i64 (s : Int), .int .i64 (b : Int)] w (RetBytes 5 w (mkRow b (rowB (inF s b)))) := by
  obtain ⟨i0, hi0, hz0, hz1, hz2⟩ := info_parts infoByte
  have HN := fun t (ht : t ≤ 100000) W => nextNumber_any t W ht
  have HE := Lib.hid (fun n s' got F => @chAt_end s b n s' got F)
  have HSK := Lib.hid (fun n s' got F => @chAt_skip s b n s' got F)
  have HTK := Lib.hid (fun n s' got F => @chAt_take s b n s' got F)
  have HBD := Lib.hid (chAt_bounds s b)
  have H0 := Lib.hid (chAt_zero s b)
  have hn0 := nxt_lt s
  have hmb := manyB_le s b
  obtain ⟨hmb4, hmbb⟩ := hmb
  have HM : Hid (manyB s b = min (nxt s % 4 + 1) b) := Lib.hid rfl
  have HMV : Hid (min (((nxt s : Nat) : Int) % 4 + 1) (b : Int) = ((manyB s b : Nat) : Int)) := by
    show _ = _
    unfold manyB; omega
  generalize manyB s b = mm at *
  clear HM
  go_enter Tryd.func76, Tryd.ntmps76
  go_wp2_with (at_make; refine wpList_make_full _ rfl _ _ _ rfl w.heap.size _ i0 _ 1 Tryd.underlying22 hi0 hz0 hz1 _ _ _ _ b rfl rfl rfl rfl ?b2 ?b3 ?b4 ?_)
  case b2 => rw [hz2]; omega
  case b3 => unfold maxLen; omega
  case b4 => exact Nat.le_refl _
  intro w1 hown1 hg1
  have hb1' : Below w.heap.size w w1 := below_of_grown hg1 (Nat.le_refl _) (by simp)
  rw [toList_madeCells_one] at hown1
  clear hg1
  have hO : OwnBytes 5 w1 w.heap.size w1.heap.size (.slice (some ⟨w.heap.size, 0, none⟩) b b) (mkRow b (rowB fun _ => false)) := by
    refine OwnBytes.of_made ?_
    rw [mkRow_length, bys_zero b (rowB fun _ => false) (fun _ _ => rfl)]; exact hown1
  clear hown1
  go_wp2_with fail
  refine (HN s hs _).mono ?_
  rintro e w' ⟨rfl, rfl⟩
  go_wp2_with fail
  simp only [HMV.out]
  have HC0 : Hid (chAt s b 0 = (nxt s, fun _ => false, 0)) := H0
  generalize nxt s = t0 at *
  clear HMV H0
  go_loopw [6, 7, 8] (fun num mis usd wr => ∃ (n s' got : Nat) (F : Nat → Bool), n ≤ 200 ∧ s' < 65537 ∧ got ≤ mm ∧ num = .int .i64 s' ∧ mis = .int .i64 ((mm - got : Nat) : Int) ∧ usd = .int .i64 n ∧ Hid (chAt s b n = (s', F, got)) ∧ OwnBytes 5 wr w.heap.size wr.heap.size (.slice (some ⟨w.heap.size, 0, none⟩) b b) (mkRow b (rowB F)) ∧ Below w.heap.size w wr)
    (fun _ _ usd _ => 200 - (intOf usd).toNat)
  case atStart => exact ⟨0, t0, 0, _, Nat.zero_le _, hn0, Nat.zero_le _, rfl, rfl, rfl, HC0, hO, hb1'⟩
  case round =>
    obtain ⟨n, s', got, F, hn, hs', hg, rfl, rfl, rfl, HC, hO, hb⟩ := hrel
    clear hb1' hn0
    by_cases hlt : n < 200
    · have hd1 : decide ((n : Int) < 200) = true := by simp; omega
      by_cases hgt : got < mm
      · have hd2 : decide ((0 : Int) < ((mm - got : Nat) : Int)) = true := by simp; omega
        have HN2 := Lib.hid (HN s' (by omega) wr)
        have hnl := nxt_lt s'
        have HSK2 := Lib.hid (fun h => HSK.out n s' got F HC.out hgt h)
        have HTK2 := Lib.hid (fun h => HTK.out n s' got F HC.out hgt h)
        generalize nxt s' = t at *
        have hrk := rem_nat t b
        have hkb := Nat.mod_lt t (show 0 < b by omega)
        generalize t % b = k at *
        have hcs := hO.cellAt (k := k) (by simpa using hkb)
        have hfr := hO.frozenAt k
        rw [mkRow_getD _ _ _ hkb] at hcs
        have hki : (k : Int) < (b : Int) := by omega
        have hb0 : ¬ (b : Int) = 0 := by omega
        have HO := Lib.hid hO
        clear hO
        cases hF : F k
        · have HF := Lib.hid (HTK2.out hF)
          have hz : ((rowB F k).toNat : Int) = 0 := by unfold rowB; rw [hF]; rfl
          rw [hz] at hcs
          have hst := HO.out.store (q := k) (x := 1) (by simp) (rowB_set b k F)
          have hb2 : Below w.heap.size w (wr.setCell ⟨w.heap.size, k, none⟩ (.int .u8 ((1 : UInt8).toNat : Int))) := hb.setCell (Nat.le_refl _) _
          have HST := Lib.hid hst
          have HB2 := Lib.hid hb2
          have hmg : ((mm - got : Nat) : Int) - 1 = ((mm - (got + 1) : Nat) : Int) := by omega
          clear hst hb2 hz HSK2 HTK2 hF
          go_wp2_with fail
          refine HN2.out.mono ?_
          rintro e w' ⟨rfl, rfl⟩
          go_wp2_with fail
          go_roundw
          case rel => exact ⟨n + 1, t, got + 1, setB F k, by omega, by omega, by omega, rfl, by rw [← hmg], by go_num, HF, by
            have h := HST.out
            exact ⟨h.1, Nat.le_refl _, fun g e => by have := h.2.2 g e; simpa using this⟩, HB2.out⟩
          case measure => simp [intOf]; omega
        · have HF := Lib.hid (HSK2.out hF)
          have hz : ((rowB F k).toNat : Int) = 1 := by unfold rowB; rw [hF]; rfl
          rw [hz] at hcs
          clear hz HSK2 HTK2 hF
          go_wp2_with fail
          refine HN2.out.mono ?_
          rintro e w' ⟨rfl, rfl⟩
          go_wp2_with fail
          go_roundw
          case rel => exact ⟨n + 1, t, got, F, by omega, by omega, by omega, rfl, rfl, by go_num, HF, HO.out, hb⟩
          case measure => simp [intOf]; omega
      · have hd2 : decide ((0 : Int) < ((mm - got : Nat) : Int)) = false := by simp; omega
        have HF := Lib.hid (HE.out n s' got F HC.out hn (.inr hgt))
        go_wp2_with fail
        go_ret
        exact ⟨_, rfl, by rw [HF.out]; exact hO, TurnIn.of_below hb⟩
    · have hd1 : decide ((n : Int) < 200) = false := by simp; omega
      have HF := Lib.hid (HE.out n s' got F HC.out hn (.inl (by omega)))
      clear hlt
      go_wp2_with fail
      go_ret
      exact ⟨_, rfl, by rw [HF.out]; exact hO, TurnIn.of_below hb⟩

end Go.Proofs.YtbfchebnooanjaaDoor

/- Chapter 9: the rows of drops: the program's. -/
namespace G294
open Go Go.RowKit
def drF (l : List Sh) (b : Nat) : Ents := fun i => rowB (inF (l.getD i (0, [])).1.toNat b)
end G294
namespace Go.Proofs.YtbfchebnooanjaaDoor
open Go.RowKit G294

set_option maxRecDepth 100000 in
set_option maxHeartbeats 2000000 in
theorem dropRows_own (v : Value) (l : List Sh) (b : Nat) (w : World) (hv : SeenH w v l) (hok : dropsOk l = true) (hb1 : 1 ≤ b) (hb2 : b ≤ 12) :
    Calls Tryd.prog 47 #[v, .int .i64 (b : Int)] w (RetMat 5 22 w (mkM l.length b (drF l b))) := by
  obtain ⟨i0, hi0, hz0, hz1, hz2⟩ := info_parts infoRowB
  obtain ⟨AL, cl, rfl, hlc, hlcm, hx⟩ := hv
  unfold maxLen at hlcm
  obtain ⟨h40, hall⟩ := dropsOk_len hok
  have HALL := Lib.hid hall
  have HDF : Hid (∀ k (d : Sh), l[k]? = some d → rowB (inF d.1.toNat b) = drF l b k) := Lib.hid (fun k d hd => by unfold drF; simp [List.getD, hd])
  generalize hF : drF l b = F at *
  generalize hnn : l.length = n at *
  have HN := Lib.hid hnn
  have a1 := turn_alloc w (.cells #[.slice none 0 0] 67)
  have z1 := World.size_alloc w (.cells #[.slice none 0 0] 67)
  have q0 : (w.alloc (.cells #[.slice none 0 0] 67)).cell? ⟨w.heap.size, 0, none⟩ = some (.slice none 0 0) := by simp
  have f0 : (w.alloc (.cells #[.slice none 0 0] 67)).frozen? ⟨w.heap.size, 0, none⟩ = false := by simp
  generalize hwa : (w.alloc (.cells #[.slice none 0 0] 67)) = wa at *
  have HWA := Lib.hid hwa
  have HKA := Lib.hid a1
  have hlt0 : w.heap.size < wa.heap.size := by omega
  clear hnn hall hok hwa hF a1 z1
  go_enter Tryd.func47, Tryd.ntmps47
  go_wp2_with (first | (simp only [HWA.out]) | (at_make; refine wpList_make_full _ rfl _ _ _ rfl wa.heap.size _ i0 _ 1 Tryd.underlying65 hi0 hz0 hz1 _ _ _ _ n rfl rfl rfl rfl ?b2 ?b3 ?b4 ?_))
  case b2 => rw [hz2]; omega
  case b3 => unfold maxLen; omega
  case b4 => exact Nat.le_refl _
  intro w1 hown1 hg1
  rw [show (Value.slice none 0 0).cells = #[.slice none 0 0] from rfl, Nat.mul_one, toList_madeCells_one] at hown1
  have hb1' : Below wa.heap.size wa w1 := below_of_grown hg1 (Nat.le_refl _) (by simp)
  have hM1 : OwnM 5 22 w1 wa.heap.size w1.heap.size (.slice (some ⟨wa.heap.size, 0, none⟩) n n) (mkM 0 b F ++ List.replicate (n - 0) []) (List.replicate n (.slice none 0 0)) := own_blank hown1
  clear hg1 hown1
  go_wp2_with fail
  go_loopw [13] (fun i wr => ∃ (k : Nat) (vs : List Value), k ≤ n ∧ i = .int .i64 k ∧ OwnM 5 22 wr wa.heap.size wr.heap.size (.slice (some ⟨wa.heap.size, 0, none⟩) n n) (mkM k b F ++ List.replicate (n - k) []) vs ∧ Below wa.heap.size wa wr)
    (fun i _ => n - (intOf i).toNat)
  case atStart => exact ⟨0, _, Nat.zero_le _, rfl, hM1, hb1'⟩
  case round =>
    obtain ⟨k, vs, hk, rfl, hM, hb⟩ := hrel
    clear hM1 hb1'
    have kr := TurnIn.of_below hb
    have sr := hb.size
    have kk := turn_trans HKA.out kr (by omega)
    by_cases hlt : k < n
    · have hki : (k : Int) < (n : Int) := by omega
      obtain ⟨bl, ol, rfl, hbl, hcl⟩ := hx (by omega)
      obtain ⟨⟨no, s⟩, hks⟩ := at_lt HN.out hlt
      have hc1 := cell_turn kk (hcl k _ hks).1 hbl
      have hc2 := cell_turn kk (hcl k _ hks).2 hbl
      simp only at hc1 hc2
      obtain ⟨hn0, hn1, _, _⟩ := HALL.out (no, s) (List.mem_of_getElem? hks)
      simp only at hn0 hn1
      obtain ⟨no, rfl⟩ := Int.eq_ofNat_of_zero_le hn0
      have hno : no ≤ 100000 := Int.ofNat_le.1 hn1
      have HDR := Lib.hid (fun W => dropRow_own no b W hno hb1 hb2)
      clear hn0 hn1
      have hR0 := HDF.out k _ hks
      rw [Int.toNat_natCast] at hR0
      have HR := Lib.hid hR0
      clear hR0
      have k7 := turn_alloc wr (.cells #[.int .i64 (no : Int), .string (str s)] 84)
      have d0 := alloc_duo0 wr (.int .i64 (no : Int)) (.string (str s)) 84
      have d1 := alloc_duo1 wr (.int .i64 (no : Int)) (.string (str s)) 84
      have z7 := World.size_alloc wr (.cells #[.int .i64 (no : Int), .string (str s)] 84)
      have HM := Lib.hid hM
      have HB := Lib.hid hb
      have HK7 := Lib.hid k7
      have HZ7 := Lib.hid z7
      clear hks hcl hM hb k7 z7 kk kr
      go_wp2_with fail
      refine (HDR.out _).mono ?_
      rintro e w2 ⟨v2, rfl, o2, k2⟩
      have s2 := k2.size
      have t2 := turn_trans HK7.out k2 (by omega)
      have z7 := HZ7.out
      have hM2 := HM.out.keep t2 (by omega)
      have hB2 := t2.base HB.out (by omega) (by omega)
      obtain ⟨u0, hu0, _⟩ := hM2.at k (by simp; omega)
      have hco := hM2.cellAt hu0
      have hfr := hM2.frozenAt k
      rw [HR.out] at o2
      have hM3 := (hM2.put (k := k) (by simp [mkM]; omega) (by simp; omega) o2 (by omega) (by omega) s2).congr (L' := mkM (k + 1) b F ++ List.replicate (n - (k + 1)) []) (by
        have e : List.replicate (n - k) ([] : List UInt8) = [] :: List.replicate (n - (k + 1)) [] := by
          rw [← List.replicate_succ]; congr 1; omega
        rw [e, set_mid _ _ _ _ _ (mkM_length k b F), mkM_succ, List.append_assoc]
        rfl)
      have hb3 : Below wa.heap.size wa (w2.setCell ⟨wa.heap.size, k, none⟩ v2) := hB2.setCell (Nat.le_refl _) _
      have HM3 := Lib.hid hM3
      have HB3 := Lib.hid hb3
      obtain ⟨A2, n2, c2, rfl⟩ := own_isSlice o2.1
      clear o2 k2 t2 hM2 hB2 hM3 hb3 z7
      go_wp2_with fail
      go_roundw
      case rel => exact ⟨k + 1, _, by omega, by go_num, by simpa using HM3.out, HB3.out⟩
      case measure => simp [intOf]; omega
    · obtain rfl : k = n := by omega
      have hki : ¬ (k : Int) < (k : Int) := by omega
      have q1 := cell_turn kr q0 (by omega)
      have f1 := frozen_turn kr f0 (by omega)
      rw [Nat.sub_self] at hM
      have HF := Lib.hid (ret_store HKA.out.to_below (by simpa using hM) kr w.heap.size 0 (Nat.le_refl _) (by omega) (.slice (some ⟨wa.heap.size, 0, none⟩) k k))
      clear hM kr
      go_wp2_with fail
      refine bodyPost_ret (v := .agg #[.slice (some ⟨wa.heap.size, 0, none⟩) k k]) (by simp [results, Tryd.results47, go_sem, q1]) rfl ?_
      exact ⟨_, vs, rfl, HF.out.1, HF.out.2⟩

end Go.Proofs.YtbfchebnooanjaaDoor

/- Contracts of the laws' helpers on []bool: a copy, equality, marks, marks held, size. -/
namespace Go.Proofs.YtbfchebnooanjaaDoor
open Go.RowKit G294

theorem infoBool : (Tryd.prog.info? 4).map (fun i => (i.zero, i.size, i.bytes)) = some (some (.bool false), 1, 1) := by kernel_rfl

theorem third (m : Nat) : (((m : Nat) : Int) % 3 == 0) = decide (m % 3 = 0) := by
  by_cases h : m % 3 = 0
  · rw [decide_eq_true h, beq_iff_eq]; omega
  · rw [decide_eq_false h, beq_eq_false_iff_ne]; omega

end Go.Proofs.YtbfchebnooanjaaDoor

/- Chapter 9: which blocks a seed chooses: the model's. -/
namespace Go.Proofs.YtbfchebnooanjaaDoor
open Go.RowKit G294

set_option maxHeartbeats 400000 in
theorem l9Next_any (s : Nat) (w : World) (hs : s ≤ 100000) : Calls Tryd.prog 107 #[.int .i64 (s : Int)] w fun e w' => e = .returned (.int .i64 ((nxt s : Nat) : Int)) ∧ w = w' := by
  obtain ⟨z, hz⟩ : ∃ z, z = 75 * s := ⟨_, rfl⟩
  have hzb : z ≤ 7500000 := by omega
  have hm : (75 : Int) * (s : Int) = (z : Int) := by rw [hz]; simp
  have hr : ((z : Int) + 74).tmod 65537 = ((nxt s : Nat) : Int) := by
    have e := rem_nat (z + 74) 65537
    have e2 : nxt s = (z + 74) % 65537 := by rw [hz]; rfl
    rw [e2]; exact e
  have hn := nxt_lt s
  generalize nxt s = t at *
  clear hz
  go_enter Tryd.func107, Tryd.ntmps107
  go_wp2_with fail
  go_ret
  exact ⟨rfl, rfl⟩

set_option maxHeartbeats 400000 in
theorem l9Seed_any (n : Int) (w : World) : Calls Tryd.prog 65 #[.int .i64 n] w fun e w' => e = .returned (.bool (seedOk n)) ∧ w = w' := by
  go_enter Tryd.func65, Tryd.ntmps65
  go_wp2_with fail
  refine (l1In_any _ _ _ _).mono ?_
  rintro e w' ⟨rfl, rfl⟩
  go_wp2_with fail
  go_ret
  exact ⟨rfl, rfl⟩

set_option maxRecDepth 100000 in
set_option maxHeartbeats 4000000 in
theorem l9Blocks_own (s b : Nat) (w : World) (hs : s ≤ 100000) (hb1 : 1 ≤ b) (hb2 : b ≤ 12) : Calls Tryd.prog 90 #[.int .i64 (s : Int), .int .i64 (b : Int)] w (RetInts 3 w (intL (blkN s b))) := by
  obtain ⟨i0, hi0, hz0, hz1, hz2⟩ := info_parts infoBool
  have HN := fun t (ht : t ≤ 100000) W => l9Next_any t W ht
  have HE := Lib.hid (fun n s' got F => @chAt_end s b n s' got F)
  have HSK := Lib.hid (fun n s' got F => @chAt_skip s b n s' got F)
  have HTK := Lib.hid (fun n s' got F => @chAt_take s b n s' got F)
  have HC0 : Hid (chAt s b 0 = (nxt s, fun _ => false, 0)) := Lib.hid (chAt_zero s b)
  have hn0 := nxt_lt s
  have hmb := manyB_le s b
  obtain ⟨hmb4, hmbb⟩ := hmb
  have HM : Hid (((nxt s % 4 + 1 : Nat) : Int) > (b : Int) → manyB s b = b) := fun h => by unfold manyB; omega
  have HM2 : Hid (¬ ((nxt s % 4 + 1 : Nat) : Int) > (b : Int) → manyB s b = nxt s % 4 + 1) := fun h => by unfold manyB; omega
  have HBN : Hid (blkN s b = blkK (inF s b) b) := Lib.hid rfl
  rw [HBN.out]
  clear HBN
  generalize manyB s b = mm at *
  have hcase : ∃ q : Nat, q = nxt s % 4 := ⟨_, rfl⟩
  obtain ⟨q, hq⟩ := hcase
  have hq4 : q < 4 := by omega
  have hqe : ((nxt s : Nat) : Int) % 4 = (q : Int) := by omega
  rw [← hq] at HM HM2
  clear hq
  go_enter Tryd.func90, Tryd.ntmps90
  go_wp2_with fail
  refine (HN s hs _).mono ?_
  rintro e w' ⟨rfl, rfl⟩
  generalize nxt s = t0 at *
  by_cases hqb : ((q + 1 : Nat) : Int) > (b : Int)
  · have hbq : (b : Int) < (q : Int) + 1 := by omega
    have hmm : b = mm := (HM.out hqb).symm
    subst hmm
    clear hqb
    go_wp2_with (at_make; refine wpList_make_full _ rfl _ _ _ rfl w.heap.size _ i0 _ 1 Tryd.underlying138 hi0 hz0 hz1 _ _ _ _ b rfl rfl rfl rfl ?b2 ?b3 ?b4 ?_)
    case b2 => rw [hz2]; omega
    case b3 => unfold maxLen; omega
    case b4 => exact Nat.le_refl _
    intro w1 hown1 hg1
    have hb1' : Below w.heap.size w w1 := below_of_grown hg1 (Nat.le_refl _) (by simp)
    rw [toList_madeCells_one] at hown1
    clear hg1
    have hO : OwnBools 4 w1 w.heap.size w1.heap.size (.slice (some ⟨w.heap.size, 0, none⟩) b b) (mkB b fun _ => false) := by
      refine OwnBools.of_made ?_
      rw [mkB_false, bls_rep, List.length_replicate]; exact hown1
    clear hown1
    go_wp2_with fail
    go_loopw [5, 8, 9] (fun num gt usd wr => ∃ (n s' got : Nat) (F : Nat → Bool), n ≤ 200 ∧ s' < 65537 ∧ got ≤ b ∧ num = .int .i64 s' ∧ gt = .int .i64 (got : Int) ∧ usd = .int .i64 n ∧ Hid (chAt s b n = (s', F, got)) ∧ OwnBools 4 wr w.heap.size wr.heap.size (.slice (some ⟨w.heap.size, 0, none⟩) b b) (mkB b F) ∧ Below w.heap.size w wr)
      (fun _ _ usd _ => 200 - (intOf usd).toNat)
    case atStart => exact ⟨0, t0, 0, _, Nat.zero_le _, hn0, Nat.zero_le _, rfl, rfl, rfl, HC0, hO, hb1'⟩
    case round =>
      obtain ⟨n, s', got, F, hn, hs', hg, rfl, rfl, rfl, HC, hO, hb⟩ := hrel
      clear hb1' hn0
      have hdone : Hid (n = 200 ∨ ¬ got < b → inF s b = F) := fun h => HE.out n s' got F HC.out hn h
      by_cases hlt : n < 200 ∧ got < b
      · obtain ⟨hlt, hgt⟩ := hlt
        have hd1 : decide ((n : Int) < 200) = true := by simp; omega
        have hd2 : decide ((got : Int) < (b : Int)) = true := by simp; omega
        have HN2 := Lib.hid (HN s' (by omega) wr)
        have hnl := nxt_lt s'
        have HSK2 := Lib.hid (fun h => HSK.out n s' got F HC.out hgt h)
        have HTK2 := Lib.hid (fun h => HTK.out n s' got F HC.out hgt h)
        generalize nxt s' = t at *
        have hrk := rem_nat t b
        have hkb := Nat.mod_lt t (show 0 < b by omega)
        generalize t % b = k at *
        have hcs := hO.cellAt (k := k) (by simpa using hkb)
        have hfr := hO.frozenAt k
        have hgk : (mkB b F).getD k false = F k := by simp [mkB, List.getD, hkb]
        rw [hgk] at hcs
        have hki : (k : Int) < (b : Int) := by omega
        have hb0 : ¬ (b : Int) = 0 := by omega
        have HO := Lib.hid hO
        clear hO hgk
        cases hF : F k
        · have HF := Lib.hid (HTK2.out hF)
          rw [hF] at hcs
          have hst := HO.out.store (q := k) (x := true) (by simp) (mkB_set b k F)
          have hb2 : Below w.heap.size w (wr.setCell ⟨w.heap.size, k, none⟩ (.bool true)) := hb.setCell (Nat.le_refl _) _
          have HST := Lib.hid hst
          have HB2 := Lib.hid hb2
          clear hst hb2 HSK2 HTK2 hF
          go_wp2_with fail
          refine HN2.out.mono ?_
          rintro e w' ⟨rfl, rfl⟩
          go_wp2_with fail
          go_roundw
          case rel => exact ⟨n + 1, t, got + 1, setB F k, by omega, by omega, by omega, rfl, by go_num, by go_num, HF, by
            have h := HST.out
            exact ⟨h.1, Nat.le_refl _, fun g e => by have := h.2.2 g e; simpa using this⟩, HB2.out⟩
          case measure => simp [intOf]; omega
        · have HF := Lib.hid (HSK2.out hF)
          rw [hF] at hcs
          clear HSK2 HTK2 hF
          go_wp2_with fail
          refine HN2.out.mono ?_
          rintro e w' ⟨rfl, rfl⟩
          go_wp2_with fail
          go_roundw
          case rel => exact ⟨n + 1, t, got, F, by omega, by omega, by omega, rfl, rfl, by go_num, HF, HO.out, hb⟩
          case measure => simp [intOf]; omega
      · have HF : Hid (inF s b = F) := hdone.out (by omega)
        have hdd : (decide ((n : Int) < 200) = false) ∨ (decide ((n : Int) < 200) = true ∧ decide ((got : Int) < (b : Int)) = false ∧ ¬ got < b) := by
          by_cases h : n < 200
          · exact .inr ⟨by simp; omega, by simp; omega, by omega⟩
          · exact .inl (by simp; omega)
        clear hdone HN HE HSK HTK HM HM2 HC0 HC
        obtain ⟨g, cap, hvv, hO2⟩ : ∃ g cap, (Value.slice (some ⟨w.heap.size, 0, none⟩) b b) = .slice (some ⟨g, 0, none⟩) b cap ∧ True := ⟨_, _, rfl, trivial⟩
        clear hvv hO2 g cap
        have HO := Lib.hid hO
        have hwlt : w.heap.size < wr.heap.size := hO.2.2 _ rfl
        clear hO
        rcases hdd with hd1 | ⟨hd1, hd2, hd3⟩
        all_goals
          go_wp2_with fail
          generalize wr = wo at *
          go_loopw [11, 51] (fun o i wr => ∃ k : Nat, k ≤ b ∧ i = .int .i64 k ∧ wr.ownsRow wo.heap.size 3 1 o (blkK F k).length (ints (intL (blkK F k))) ∧ TurnIn 0 0 wo wr)
            (fun _ i _ => b - (intOf i).toNat)
          case atStart => exact ⟨0, Nat.zero_le _, rfl, World.ownsRow_nil _ _ _ _, TurnIn.refl _⟩
          case round =>
            obtain ⟨k, hk, rfl, ho, kr⟩ := hrel
            have zr := kr.size
            by_cases hltk : k < b
            · have hki : (k : Int) < (b : Int) := by omega
              have hcs := (HO.out.keep kr (by omega)).cellAt (k := k) (by simpa using hltk)
              have hgk : (mkB b F).getD k false = F k := by simp [mkB, List.getD, hltk]
              rw [hgk] at hcs
              obtain ⟨t, ht⟩ : ∃ t, t = (blkK F k).length := ⟨_, rfl⟩
              have htk : t ≤ 12 := by have := blkK_len F k; omega
              have HTL : Hid ((blkK F k).length = t) := ht.symm
              rw [← ht] at ho
              have HOO := Lib.hid ho
              clear ho ht hgk
              cases hF : F k
              · rw [hF] at hcs
                have hon : wr.ownsRow wo.heap.size 3 1 u11 (blkK F (k + 1)).length (ints (intL (blkK F (k + 1)))) := by rw [blkK_no hF, HTL.out]; exact HOO.out
                clear hF
                go_wp2_with fail
                go_roundw
                case rel => exact ⟨k + 1, by omega, by go_num, hon, kr⟩
                case measure => simp [intOf]; omega
              · rw [hF] at hcs
                have HPL := Lib.hid (blkK_yes hF)
                have HO2 := Lib.hid (HOO.out.alloc (.cells #[.int .i64 (k : Int)] 3))
                have KA := Lib.hid (turn_trans kr (turn_alloc wr (.cells #[.int .i64 (k : Int)] 3)) (by omega))
                clear hF HOO
                go_wp2_with (at_builtin; refine wpList_append1 rfl _ _ _ rfl wo.heap.size 3 _ _ Tryd.underlying71 infoInt rfl _ t _ rfl HO2.out wr.heap.size (.int .i64 (k : Int)) rfl ?c1 rfl ?c2 ?c3 ?c4 ?_)
                case c1 => simp
                case c2 => omega
                case c3 => omega
                case c4 => simp; omega
                intro v' w3 hown3 hg3 _
                have k3 : TurnIn 0 0 wo w3 := turn_trans' KA.out hg3 (fun g e => (HO2.out.lt g e).1)
                have hon : w3.ownsRow wo.heap.size 3 1 v' (blkK F (k + 1)).length (ints (intL (blkK F (k + 1)))) := by
                  rw [HPL.out, intL_append, ints_append, List.length_append, HTL.out]; exact hown3
                clear hown3 hg3 KA HO2
                go_wp2_with fail
                go_roundw
                case rel => exact ⟨k + 1, by omega, by go_num, hon, k3⟩
                case measure => simp [intOf]; omega
            · obtain rfl : k = b := by omega
              have hki : ¬ (k : Int) < (k : Int) := by omega
              have hox : OwnInts 3 wr w.heap.size wr.heap.size u11 (intL (blkK F k)) := ⟨own_base (by rw [intL_length]; exact ho) (by have := hb.size; omega), Nat.le_refl _, fun g e => (ho.lt g e).2⟩
              have HOX := Lib.hid hox
              clear ho hox
              go_wp2_with fail
              go_ret
              exact ⟨u11, rfl, by rw [HF.out]; exact HOX.out, turn_trans (TurnIn.of_below hb) kr (by omega)⟩
  · have hbq : ¬ (b : Int) < (q : Int) + 1 := by omega
    obtain ⟨m, hm⟩ : ∃ m, m = q + 1 := ⟨_, rfl⟩
    have HMQ : Hid ((q : Int) + 1 = (m : Int)) := by show _ = _; omega
    have hmm : m = mm := by rw [hm]; exact (HM2.out (by omega)).symm
    have HDC : Hid (decide ((b : Int) < (m : Int)) = false) := by show _ = _; simp; omega
    have hbq2 : ¬ (b : Int) < (m : Int) := by omega
    have hbq3 : ¬ b < m := by omega
    subst hmm
    clear hqb hm hbq2 hbq3
    go_wp2_with (at_make; refine wpList_make_full _ rfl _ _ _ rfl w.heap.size _ i0 _ 1 Tryd.underlying138 hi0 hz0 hz1 _ _ _ _ b rfl rfl rfl rfl ?b2 ?b3 ?b4 ?_)
    case b2 => rw [hz2]; omega
    case b3 => unfold maxLen; omega
    case b4 => exact Nat.le_refl _
    intro w1 hown1 hg1
    have hb1' : Below w.heap.size w w1 := below_of_grown hg1 (Nat.le_refl _) (by simp)
    rw [toList_madeCells_one] at hown1
    clear hg1
    have hO : OwnBools 4 w1 w.heap.size w1.heap.size (.slice (some ⟨w.heap.size, 0, none⟩) b b) (mkB b fun _ => false) := by
      refine OwnBools.of_made ?_
      rw [mkB_false, bls_rep, List.length_replicate]; exact hown1
    clear hown1
    go_wp2_with fail
    simp only [HMQ.out, HDC.out]
    go_loopw [5, 8, 9] (fun num gt usd wr => ∃ (n s' got : Nat) (F : Nat → Bool), n ≤ 200 ∧ s' < 65537 ∧ got ≤ m ∧ num = .int .i64 s' ∧ gt = .int .i64 (got : Int) ∧ usd = .int .i64 n ∧ Hid (chAt s b n = (s', F, got)) ∧ OwnBools 4 wr w.heap.size wr.heap.size (.slice (some ⟨w.heap.size, 0, none⟩) b b) (mkB b F) ∧ Below w.heap.size w wr)
      (fun _ _ usd _ => 200 - (intOf usd).toNat)
    case atStart => exact ⟨0, t0, 0, _, Nat.zero_le _, hn0, Nat.zero_le _, rfl, rfl, rfl, HC0, hO, hb1'⟩
    case round =>
      obtain ⟨n, s', got, F, hn, hs', hg, rfl, rfl, rfl, HC, hO, hb⟩ := hrel
      clear hb1' hn0
      have hdone : Hid (n = 200 ∨ ¬ got < m → inF s b = F) := fun h => HE.out n s' got F HC.out hn h
      by_cases hlt : n < 200 ∧ got < m
      · obtain ⟨hlt, hgt⟩ := hlt
        have hd1 : decide ((n : Int) < 200) = true := by simp; omega
        have hd2 : decide ((got : Int) < (m : Int)) = true := by simp; omega
        have HN2 := Lib.hid (HN s' (by omega) wr)
        have hnl := nxt_lt s'
        have HSK2 := Lib.hid (fun h => HSK.out n s' got F HC.out hgt h)
        have HTK2 := Lib.hid (fun h => HTK.out n s' got F HC.out hgt h)
        generalize nxt s' = t at *
        have hrk := rem_nat t b
        have hkb := Nat.mod_lt t (show 0 < b by omega)
        generalize t % b = k at *
        have hcs := hO.cellAt (k := k) (by simpa using hkb)
        have hfr := hO.frozenAt k
        have hgk : (mkB b F).getD k false = F k := by simp [mkB, List.getD, hkb]
        rw [hgk] at hcs
        have hki : (k : Int) < (b : Int) := by omega
        have hb0 : ¬ (b : Int) = 0 := by omega
        have HO := Lib.hid hO
        clear hO hgk
        cases hF : F k
        · have HF := Lib.hid (HTK2.out hF)
          rw [hF] at hcs
          have hst := HO.out.store (q := k) (x := true) (by simp) (mkB_set b k F)
          have hb2 : Below w.heap.size w (wr.setCell ⟨w.heap.size, k, none⟩ (.bool true)) := hb.setCell (Nat.le_refl _) _
          have HST := Lib.hid hst
          have HB2 := Lib.hid hb2
          clear hst hb2 HSK2 HTK2 hF
          go_wp2_with fail
          refine HN2.out.mono ?_
          rintro e w' ⟨rfl, rfl⟩
          go_wp2_with fail
          go_roundw
          case rel => exact ⟨n + 1, t, got + 1, setB F k, by omega, by omega, by omega, rfl, by go_num, by go_num, HF, by
            have h := HST.out
            exact ⟨h.1, Nat.le_refl _, fun g e => by have := h.2.2 g e; simpa using this⟩, HB2.out⟩
          case measure => simp [intOf]; omega
        · have HF := Lib.hid (HSK2.out hF)
          rw [hF] at hcs
          clear HSK2 HTK2 hF
          go_wp2_with fail
          refine HN2.out.mono ?_
          rintro e w' ⟨rfl, rfl⟩
          go_wp2_with fail
          go_roundw
          case rel => exact ⟨n + 1, t, got, F, by omega, by omega, by omega, rfl, rfl, by go_num, HF, HO.out, hb⟩
          case measure => simp [intOf]; omega
      · have HF : Hid (inF s b = F) := hdone.out (by omega)
        have hdd : (decide ((n : Int) < 200) = false) ∨ (decide ((n : Int) < 200) = true ∧ decide ((got : Int) < (m : Int)) = false ∧ ¬ got < m) := by
          by_cases h : n < 200
          · exact .inr ⟨by simp; omega, by simp; omega, by omega⟩
          · exact .inl (by simp; omega)
        clear hdone HN HE HSK HTK HM HM2 HC0 HC
        obtain ⟨g, cap, hvv, hO2⟩ : ∃ g cap, (Value.slice (some ⟨w.heap.size, 0, none⟩) b b) = .slice (some ⟨g, 0, none⟩) b cap ∧ True := ⟨_, _, rfl, trivial⟩
        clear hvv hO2 g cap
        have HO := Lib.hid hO
        have hwlt : w.heap.size < wr.heap.size := hO.2.2 _ rfl
        clear hO
        rcases hdd with hd1 | ⟨hd1, hd2, hd3⟩
        all_goals
          go_wp2_with fail
          generalize wr = wo at *
          go_loopw [11, 51] (fun o i wr => ∃ k : Nat, k ≤ b ∧ i = .int .i64 k ∧ wr.ownsRow wo.heap.size 3 1 o (blkK F k).length (ints (intL (blkK F k))) ∧ TurnIn 0 0 wo wr)
            (fun _ i _ => b - (intOf i).toNat)
          case atStart => exact ⟨0, Nat.zero_le _, rfl, World.ownsRow_nil _ _ _ _, TurnIn.refl _⟩
          case round =>
            obtain ⟨k, hk, rfl, ho, kr⟩ := hrel
            have zr := kr.size
            by_cases hltk : k < b
            · have hki : (k : Int) < (b : Int) := by omega
              have hcs := (HO.out.keep kr (by omega)).cellAt (k := k) (by simpa using hltk)
              have hgk : (mkB b F).getD k false = F k := by simp [mkB, List.getD, hltk]
              rw [hgk] at hcs
              obtain ⟨t, ht⟩ : ∃ t, t = (blkK F k).length := ⟨_, rfl⟩
              have htk : t ≤ 12 := by have := blkK_len F k; omega
              have HTL : Hid ((blkK F k).length = t) := ht.symm
              rw [← ht] at ho
              have HOO := Lib.hid ho
              clear ho ht hgk
              cases hF : F k
              · rw [hF] at hcs
                have hon : wr.ownsRow wo.heap.size 3 1 u11 (blkK F (k + 1)).length (ints (intL (blkK F (k + 1)))) := by rw [blkK_no hF, HTL.out]; exact HOO.out
                clear hF
                go_wp2_with fail
                go_roundw
                case rel => exact ⟨k + 1, by omega, by go_num, hon, kr⟩
                case measure => simp [intOf]; omega
              · rw [hF] at hcs
                have HPL := Lib.hid (blkK_yes hF)
                have HO2 := Lib.hid (HOO.out.alloc (.cells #[.int .i64 (k : Int)] 3))
                have KA := Lib.hid (turn_trans kr (turn_alloc wr (.cells #[.int .i64 (k : Int)] 3)) (by omega))
                clear hF HOO
                go_wp2_with (at_builtin; refine wpList_append1 rfl _ _ _ rfl wo.heap.size 3 _ _ Tryd.underlying71 infoInt rfl _ t _ rfl HO2.out wr.heap.size (.int .i64 (k : Int)) rfl ?c1 rfl ?c2 ?c3 ?c4 ?_)
                case c1 => simp
                case c2 => omega
                case c3 => omega
                case c4 => simp; omega
                intro v' w3 hown3 hg3 _
                have k3 : TurnIn 0 0 wo w3 := turn_trans' KA.out hg3 (fun g e => (HO2.out.lt g e).1)
                have hon : w3.ownsRow wo.heap.size 3 1 v' (blkK F (k + 1)).length (ints (intL (blkK F (k + 1)))) := by
                  rw [HPL.out, intL_append, ints_append, List.length_append, HTL.out]; exact hown3
                clear hown3 hg3 KA HO2
                go_wp2_with fail
                go_roundw
                case rel => exact ⟨k + 1, by omega, by go_num, hon, k3⟩
                case measure => simp [intOf]; omega
            · obtain rfl : k = b := by omega
              have hki : ¬ (k : Int) < (k : Int) := by omega
              have hox : OwnInts 3 wr w.heap.size wr.heap.size u11 (intL (blkK F k)) := ⟨own_base (by rw [intL_length]; exact ho) (by have := hb.size; omega), Nat.le_refl _, fun g e => (ho.lt g e).2⟩
              have HOX := Lib.hid hox
              clear ho hox
              go_wp2_with fail
              go_ret
              exact ⟨u11, rfl, by rw [HF.out]; exact HOX.out, turn_trans (TurnIn.of_below hb) kr (by omega)⟩

end Go.Proofs.YtbfchebnooanjaaDoor

/- Chapter 9: valid drops: the program's and the model's; drops as shards. -/
namespace G294
open Go Go.RowKit
/-- drops as shards -/
def dshL (l : List Sh) : List Sh := (List.range l.length).map fun (i : Nat) => ((i : Int), (l.getD i (0, [])).2)
@[simp] theorem dshL_length (l : List Sh) : (dshL l).length = l.length := by simp [dshL]
theorem dshL_get (l : List Sh) (k : Nat) (h : k < l.length) : (dshL l)[k]? = some ((k : Int), (l.getD k (0, [])).2) := by simp [dshL, h]
theorem dshL_texts (l : List Sh) : (dshL l).map (·.2) = l.map (·.2) := by
  apply List.ext_getElem?
  intro i
  by_cases hi : i < l.length
  · simp [dshL, hi, List.getD]
  · rw [List.getElem?_eq_none (by simp; omega), List.getElem?_eq_none (by simp; omega)]
/-- one drop is valid beside the first -/
def drpAt (l : List Sh) (d : Sh) : Prop := seedOk d.1 = true ∧ d.2.length = (l.getD 0 (0, [])).2.length ∧ d.2.length ≤ 40
theorem map_head (l : List Sh) : ((l.map (·.2)).getD 0 []).length = (l.getD 0 (0, [])).2.length := by
  cases l with
  | nil => rfl
  | cons s l => rfl
theorem dropsOk_iff (l : List Sh) : dropsOk l = true ↔ l.length ≤ 40 ∧ ∀ (i : Nat) (d : Sh), l[i]? = some d → drpAt l d := by
  constructor
  · intro h
    simp only [dropsOk, Bool.and_eq_true, decide_eq_true_eq, List.all_eq_true] at h
    refine ⟨h.1, fun i d hd => ?_⟩
    have hm : d ∈ l := List.mem_of_getElem? hd
    have ht := textsOk_all.1 h.2.2 d.2 (List.mem_map_of_mem hm)
    rw [map_head] at ht
    exact ⟨h.2.1 d hm, ht.1, ht.2⟩
  · intro ⟨h1, h2⟩
    simp only [dropsOk, Bool.and_eq_true, decide_eq_true_eq, List.all_eq_true]
    refine ⟨h1, fun d hd => ?_, textsOk_all.2 fun t ht => ?_⟩
    · obtain ⟨i, hi, e⟩ := List.mem_iff_getElem.1 hd
      exact (h2 i d (by rw [List.getElem?_eq_getElem hi, e])).1
    · obtain ⟨d, hd, rfl⟩ := List.mem_map.1 ht
      obtain ⟨i, hi, e⟩ := List.mem_iff_getElem.1 hd
      have := h2 i d (by rw [List.getElem?_eq_getElem hi, e])
      rw [map_head]
      exact ⟨this.2.1, this.2.2⟩
theorem dropsOk_bad {l : List Sh} {i : Nat} {d : Sh} (hd : l[i]? = some d) (h : ¬ drpAt l d) : dropsOk l = false := by
  cases e : dropsOk l
  · rfl
  · exact absurd (((dropsOk_iff l).1 e).2 i d hd) h
theorem dropsOk_many {l : List Sh} (h : 40 < l.length) : dropsOk l = false := by
  cases e : dropsOk l
  · rfl
  · have := ((dropsOk_iff l).1 e).1; omega
end G294
namespace Go.Proofs.YtbfchebnooanjaaDoor
open Go.RowKit G294

set_option maxRecDepth 100000 in
set_option maxHeartbeats 2000000 in
theorem dropShards_own (v : Value) (l : List Sh) (w : World) (hv : SeenH w v l) (hn : l.length ≤ 1000) : Calls Tryd.prog 72 #[v] w (RetShs 27 w (dshL l)) := by
  obtain ⟨i0, hi0, hz0, hz1, hz2⟩ := info_parts infoShard
  obtain ⟨A, c, rfl, hlc, hcm, hx⟩ := hv
  unfold maxLen at hcm
  have HG := Lib.hid (dshL_get l)
  have HDL := Lib.hid (dshL_length l)
  generalize hnn : l.length = n at *
  have HN := Lib.hid hnn
  clear hnn
  go_enter Tryd.func72, Tryd.ntmps72
  go_wp2_with (at_make; refine wpList_make_full _ rfl _ _ _ rfl w.heap.size _ i0 _ 2 Tryd.underlying23 hi0 hz0 hz1 _ _ _ _ n rfl rfl rfl rfl ?b2 ?b3 ?b4 ?_)
  case b2 => rw [hz2]; omega
  case b3 => unfold maxLen; omega
  case b4 => exact Nat.le_refl _
  intro w1 hown1 hg1
  have hb1 : Below w.heap.size w w1 := below_of_grown hg1 (Nat.le_refl _) (by simp)
  rw [toList_madeCells_shs] at hown1
  clear hg1
  go_wp2_with fail
  go_loopw [11] (fun i wr => ∃ k : Nat, k ≤ n ∧ i = .int .i64 k ∧ wr.ownsRow w.heap.size 27 2 (.slice (some ⟨w.heap.size, 0, none⟩) n n) n (shs ((dshL l).take k ++ List.replicate (n - k) ((0 : Int), ([] : List UInt8)))) ∧ Below w.heap.size w wr)
    (fun i _ => n - (intOf i).toNat)
  case atStart => exact ⟨0, Nat.zero_le _, rfl, by simpa using hown1, hb1⟩
  case round =>
    obtain ⟨k, hk, rfl, hown, hb⟩ := hrel
    clear hown1 hb1
    by_cases hlt : k < n
    · obtain ⟨b, off, rfl, hbl, hcell⟩ := hx (by omega)
      obtain ⟨⟨no, s⟩, hks⟩ := at_lt HN.out hlt
      have hc1 := (hb.cell (p := ⟨b, off + k * 2, none⟩) hbl).trans (hcell k _ hks).1
      have hc2 := (hb.cell (p := ⟨b, off + k * 2 + 1, none⟩) hbl).trans (hcell k _ hks).2
      simp only at hc1 hc2
      have hki : (k : Int) < (n : Int) := by omega
      have HKS : Hid ((dshL l)[k]? = some ((k : Int), s)) := by
        show _ = _
        rw [HG.out k hlt]; simp [List.getD, hks]
      have hbs := hb.size
      have ka := turn_alloc wr (.cells #[.int .i64 no, .string (str s)] 84)
      have za := World.size_alloc wr (.cells #[.int .i64 no, .string (str s)] 84)
      have d1 := alloc_duo1 wr (.int .i64 no) (.string (str s)) 84
      have hown' := owns_turn0 hown ka
      have hb' := ka.base hb (by omega) (by omega)
      have hlen : ((dshL l).take k ++ List.replicate (n - k) ((0 : Int), ([] : List UInt8))).length = n := by simp [HN.out]; omega
      have hkl : k < ((dshL l).take k ++ List.replicate (n - k) ((0 : Int), ([] : List UInt8))).length := by omega
      have hd1 : (wr.alloc (.cells #[.int .i64 no, .string (str s)] 84)).cell? ⟨w.heap.size, k * 2, none⟩ = some (.int .i64 ((dshL l).take k ++ List.replicate (n - k) ((0 : Int), ([] : List UInt8)))[k].1) := by rw [hown'.cellAt (k * 2) (by omega), shs_no _ k hkl]
      have hd2 : (wr.alloc (.cells #[.int .i64 no, .string (str s)] 84)).cell? ⟨w.heap.size, k * 2 + 1, none⟩ = some (.string (str ((dshL l).take k ++ List.replicate (n - k) ((0 : Int), ([] : List UInt8)))[k].2)) := by rw [hown'.cellAt (k * 2 + 1) (by omega), shs_data _ k hkl]
      have hf1 := hown'.frozenAt (k * 2)
      have hf2 := hown'.frozenAt (k * 2 + 1)
      have hst := hown'.stored (k * 2) (.int .i64 (k : Int))
      have hst2 := hst.1.stored (k * 2 + 1) (.string (str s))
      rw [shs_set _ k ((k : Int), s) hkl, take_set_next (dshL l) _ k ((k : Int), s) HKS.out (by simp [HN.out]; omega)] at hst2
      have hb2 := (hb'.setCell (p := ⟨w.heap.size, k * 2, none⟩) (Nat.le_refl _) (.int .i64 (k : Int))).setCell (p := ⟨w.heap.size, k * 2 + 1, none⟩) (Nat.le_refl _) (.string (str s))
      generalize ((dshL l).take k ++ List.replicate (n - k) ((0 : Int), ([] : List UInt8)))[k] = old at hd1 hd2
      have HS2 := Lib.hid hst2.1
      have HB2 := Lib.hid hb2
      clear hown' hlen hkl hst hst2 hown hb2 hcell hx hks
      go_wp2_with fail
      go_roundw
      case rel => exact ⟨k + 1, by omega, by go_num, by simpa [Nat.sub_sub] using HS2.out, HB2.out⟩
      case measure => simp [intOf]; omega
    · obtain rfl : k = n := by omega
      have hki : ¬ (k : Int) < (k : Int) := by omega
      go_wp2_with fail
      go_ret
      refine ⟨_, rfl, OwnSh.of_made ?_, TurnIn.of_below hb⟩
      rw [List.take_of_length_le (by rw [HDL.out]; exact Nat.le_refl _), Nat.sub_self] at hown
      rw [HDL.out]
      simpa using hown

set_option maxRecDepth 100000 in
set_option maxHeartbeats 2000000 in
theorem goodDrops_any (v : Value) (l : List Sh) (w : World) (hv : SeenH w v l) : Calls Tryd.prog 44 #[v] w (RetBool w (dropsOk l)) := by
  have HV := Lib.hid hv
  obtain ⟨A, c, rfl, hlc, hcm, hx⟩ := hv
  unfold maxLen at hcm
  have HM := Lib.hid (@dropsOk_many l)
  have HB := Lib.hid (fun i d => @dropsOk_bad l i d)
  have HTX := Lib.hid (dshL_texts l)
  have HOK : Hid (l.length ≤ 40 → (∀ (i : Nat) (d : Sh), i < l.length → l[i]? = some d → seedOk d.1 = true) → dropsOk l = textsOk (l.map (·.2))) := Lib.hid (fun h hs => by
    unfold dropsOk
    have e : (l.all fun d => seedOk d.1) = true := by
      rw [List.all_eq_true]
      intro d hd
      obtain ⟨i, hi, e⟩ := List.mem_iff_getElem.1 hd
      exact hs i d hi (by rw [List.getElem?_eq_getElem hi, e])
    rw [e]; simp [h])
  generalize hnn : l.length = n at *
  have HN := Lib.hid hnn
  clear hnn
  by_cases h40 : n ≤ 40
  · have hd : ¬ (40 : Int) < (n : Int) := by omega
    go_enter Tryd.func44, Tryd.ntmps44
    go_wp2_with fail
    go_loopw [10] (fun i wr => ∃ k : Nat, k ≤ n ∧ i = .int .i64 k ∧ Hid (∀ (i : Nat) (d : Sh), i < k → l[i]? = some d → seedOk d.1 = true) ∧ Below w.heap.size w wr)
      (fun i _ => n - (intOf i).toNat)
    case atStart => exact ⟨0, Nat.zero_le _, rfl, (fun _ _ h => by omega), Below.refl _ _⟩
    case round =>
      obtain ⟨k, hk, rfl, HE, hb⟩ := hrel
      by_cases hlt : k < n
      · obtain ⟨b, off, rfl, hbl, hcell⟩ := hx (by omega)
        obtain ⟨⟨no, s⟩, hks⟩ := at_lt HN.out hlt
        have hc1 := (hb.cell (p := ⟨b, off + k * 2, none⟩) hbl).trans (hcell k _ hks).1
        have hc2 := (hb.cell (p := ⟨b, off + k * 2 + 1, none⟩) hbl).trans (hcell k _ hks).2
        simp only at hc1 hc2
        have hki : (k : Int) < (n : Int) := by omega
        have hbs := hb.size
        have ka := turn_alloc wr (.cells #[.int .i64 no, .string (str s)] 84)
        have hb2 := ka.base hb (by omega) (by omega)
        have HKS := Lib.hid hks
        clear hcell hx hks
        cases hso : seedOk no
        · have HS := Lib.hid hso
          have HF : Hid (dropsOk l = false) := HB.out k (no, s) HKS.out (fun h => by have h1 : seedOk no = true := h.1; rw [hso] at h1; cases h1)
          clear hso
          go_wp2_with fail
          refine (goodSeed_any _ _).mono ?_
          rintro e w' ⟨rfl, rfl⟩
          rw [HS.out]
          go_wp2_with fail
          go_ret
          exact ⟨by rw [HF.out]; rfl, TurnIn.of_below hb2⟩
        · have HS := Lib.hid hso
          have HE2 : Hid (∀ (i : Nat) (d : Sh), i < k + 1 → l[i]? = some d → seedOk d.1 = true) := fun i d hi hd => by
            rcases Nat.lt_or_ge i k with h | h
            · exact HE.out i d h hd
            · obtain rfl : i = k := by omega
              rw [HKS.out] at hd
              obtain rfl := Option.some.inj hd
              exact hso
          clear hso
          go_wp2_with fail
          refine (goodSeed_any _ _).mono ?_
          rintro e w' ⟨rfl, rfl⟩
          rw [HS.out]
          go_wp2_with fail
          go_roundw
          case rel => exact ⟨k + 1, by omega, by go_num, HE2, hb2⟩
          case measure => simp [intOf]; omega
      · obtain rfl : k = n := by omega
        have hki : ¬ (k : Int) < (k : Int) := by omega
        have HF := Lib.hid (HOK.out h40 HE.out)
        have hbs := hb.size
        go_wp2_with fail
        refine (dropShards_own _ l _ (HV.out.below hb) (by rw [HN.out]; omega)).mono ?_
        rintro e w1 ⟨v1, rfl, o1, k1⟩
        have s1 := k1.size
        have HO1 := Lib.hid o1
        clear o1
        go_wp2_with fail
        refine (textsOf_own _ (dshL l) _ HO1.out.seen (by simp; rw [HN.out]; omega)).mono ?_
        rintro e w2 ⟨v2, rfl, o2, k2⟩
        have s2 := k2.size
        rw [HTX.out] at o2
        have HO2 := Lib.hid o2
        clear o2
        go_wp2_with fail
        refine (equallyLong_any _ _ _ HO2.out.seen).mono ?_
        rintro e w' ⟨rfl, rfl⟩
        go_wp2_with fail
        go_ret
        exact ⟨by rw [HF.out]; rfl, turn_trans (turn_trans (TurnIn.of_below hb) k1 (by omega)) k2 (by omega)⟩
  · have hd : (40 : Int) < (n : Int) := by omega
    have HF := Lib.hid (HM.out (by omega))
    go_enter Tryd.func44, Tryd.ntmps44
    go_wp2_with fail
    go_ret
    exact ⟨by rw [HF.out]; rfl, TurnIn.refl _⟩

end Go.Proofs.YtbfchebnooanjaaDoor

/- independentDrops and SolveDrops, the program's. -/
namespace G294
open Go Go.RowKit
/-- the drops that the program uses: their rows are no sums of those before -/
def indD (l : List Sh) (b : Nat) : List Sh := indK (mkM l.length b (drF l b)) (dshL l) l.length
theorem dshL_mem {l : List Sh} {d : Sh} (h : d ∈ dshL l) : 0 ≤ d.1 ∧ d.1 < (l.length : Int) ∧ ∃ e ∈ l, d.2 = e.2 := by
  simp only [dshL, List.mem_map, List.mem_range] at h
  obtain ⟨i, hi, rfl⟩ := h
  refine ⟨by simp, by simpa using hi, l[i], List.getElem_mem hi, ?_⟩
  simp [List.getD, hi]
theorem indD_mem {l : List Sh} {b : Nat} : ∀ d ∈ indD l b, 0 ≤ d.1 ∧ d.1 < (l.length : Int) ∧ ∃ e ∈ l, d.2 = e.2 := indK_mem (fun d hd => dshL_mem hd) l.length (by simp)
theorem indD_len (l : List Sh) (b : Nat) : (indD l b).length ≤ l.length := indK_len _ _ _
end G294
namespace Go.Proofs.YtbfchebnooanjaaDoor
open Go.RowKit G294

attribute [local irreducible] drF

set_option maxRecDepth 100000 in
set_option maxHeartbeats 1000000 in
theorem independentDrops_own (v : Value) (l : List Sh) (b : Nat) (w : World) (hv : SeenH w v l) (hok : dropsOk l = true) (hb1 : 1 ≤ b) (hb2 : b ≤ 12) (ht : Tab w) (h0 : 0 < w.heap.size) :
    Calls Tryd.prog 48 #[v, .int .i64 (b : Int)] w (RetShs 27 w (indD l b)) := by
  have HV := Lib.hid hv
  have h40 := (dropsOk_len hok).1
  have HDR := Lib.hid (fun W (h : SeenH W v l) => dropRows_own v l b W h hok hb1 hb2)
  have HDS := Lib.hid (fun W (h : SeenH W v l) => dropShards_own v l W h (by omega))
  have hml := mkM_length l.length b (drF l b)
  have HML := Lib.hid hml
  clear hml
  unfold indD
  have HIN := Lib.hid (fun (x u : Value) (W : World) (h1 : SeenM W x (mkM l.length b (drF l b))) (h2 : SeenH W u (dshL l)) (h3 : Tab W ∧ 0 < W.heap.size) => independent_own x (mkM l.length b (drF l b)) u (dshL l) W h1 h2 (by simp; omega) (fun d hd => by have := dshL_mem hd; rw [HML.out]; exact ⟨this.1, this.2.1⟩) h3.1 h3.2)
  have HT : Hid (∀ W, TurnIn 0 0 w W → Tab W ∧ 0 < W.heap.size) := fun W h => ⟨ht.below h.to_below h0, by have := h.size; omega⟩
  rw [dshL_length] at HIN
  unfold RetMat at HDR
  unfold RetShs at HDS HIN
  clear hv hok ht
  obtain ⟨AV, cV, hvv⟩ := HV.out.len
  subst hvv
  generalize mkM l.length b (drF l b) = M at *
  go_enter Tryd.func48, Tryd.ntmps48
  go_wp2_with fail
  refine (HDR.out _ HV.out).mono ?_
  rintro e w1 ⟨v1, vs1, rfl, o1, k1⟩
  obtain ⟨A1, n1, c1, rfl⟩ := o1.isSlice
  have HO1 := Lib.hid o1.seen
  have HV1 := Lib.hid (HV.out.below k1.to_below)
  have HK1 := Lib.hid k1
  clear o1 k1
  go_wp2_with fail
  refine (HDS.out _ HV1.out).mono ?_
  rintro e w2 ⟨v2, rfl, o2, k2⟩
  obtain ⟨A2, c2, hv2⟩ := o2.seen.len
  rw [dshL_length] at hv2
  subst hv2
  have HO2 := Lib.hid o2.seen
  have HK2 := Lib.hid (turn_trans HK1.out k2 (by omega))
  have HO12 := Lib.hid (HO1.out.touch k2)
  clear o2 k2
  go_wp2_with fail
  refine (HIN.out _ _ _ HO12.out HO2.out (HT.out _ HK2.out)).mono ?_
  rintro e w3 ⟨v3, rfl, o3, k3⟩
  have s2 := HK2.out.size
  have HO3 := Lib.hid o3
  have HK3 := Lib.hid (turn_trans HK2.out k3 (by omega))
  clear o3 k3
  go_wp2_with fail
  go_ret
  exact ⟨v3, rfl, ⟨own_base HO3.out.1 s2, HO3.out.2⟩, HK3.out⟩

end Go.Proofs.YtbfchebnooanjaaDoor
