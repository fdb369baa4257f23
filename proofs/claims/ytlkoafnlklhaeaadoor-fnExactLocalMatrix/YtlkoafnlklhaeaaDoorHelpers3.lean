/- HelpersOf: the model's loop. -/
import Derived.Test.YtlkoafnlklhaeaaDoorHelpers2
import Derived.Deep.CutRange
set_option linter.unusedSimpArgs false
set_option linter.unusedVariables false
namespace Go.Proofs.YtlkoafnlklhaeaaDoor
open Go.RowKit Go.Maps G294

set_option maxRecDepth 100000 in
set_option maxHeartbeats 1000000 in
theorem sHelpersOf_bad (g e q a : Int) (w : World) (HN : Hid (locOk g e q = false)) : Calls Tryd.prog 121 #[locV g e q, .int .i64 a] w (RetIntsOk 3 w [] false) := by
  have a1 := turn_alloc w (.cells #[.int .i64 g, .int .i64 e, .int .i64 q] 73)
  have z1 := World.size_alloc w (.cells #[.int .i64 g, .int .i64 e, .int .i64 q] 73)
  go_enter Tryd.func121, Tryd.ntmps121
  go_wp2_with fail
  refine (sGoodLocal_any g e q _).mono ?_
  rintro e' w2 ⟨rfl, k2⟩
  rw [HN.out]
  go_wp2_with fail
  go_ret2
  exact ⟨_, rfl, OwnInts.of_made (World.ownsRow_nil _ _ _ _), turn_trans a1 k2 (by omega)⟩

set_option maxRecDepth 100000 in
set_option maxHeartbeats 1000000 in
theorem sHelpersOf_neg (g e q : Nat) (a r : Int) (w : World) (hg : 1 ≤ g ∧ g ≤ 4) (he : 1 ≤ e ∧ e ≤ 4) (HL : Hid (locOk g e q = true)) (HR : Hid (grpN (g * e) e g a = r)) (hr : r < 0) : Calls Tryd.prog 121 #[locV g e q, .int .i64 a] w (RetIntsOk 3 w [] false) := by
  have a1 := turn_alloc w (.cells #[.int .i64 g, .int .i64 e, .int .i64 q] 73)
  have z1 := World.size_alloc w (.cells #[.int .i64 g, .int .i64 e, .int .i64 q] 73)
  have cg := alloc_tri0 w (.int .i64 g) (.int .i64 e) (.int .i64 q) 73
  have ce := alloc_tri1 w (.int .i64 g) (.int .i64 e) (.int .i64 q) 73
  have cq := alloc_tri2 w (.int .i64 g) (.int .i64 e) (.int .i64 q) 73
  have hrd : decide (r < 0) = true := by simpa using hr
  go_enter Tryd.func121, Tryd.ntmps121
  go_wp2_with fail
  refine (sGoodLocal_any (g : Int) (e : Int) (q : Int) _).mono ?_
  rintro e' w2 ⟨rfl, k2⟩
  rw [HL.out]
  have s2 := k2.size
  have dg := cell_keepT cg (by omega) k2 (by omega)
  have de := cell_keepT ce (by omega) k2 (by omega)
  have dq := cell_keepT cq (by omega) k2 (by omega)
  go_wp2_with fail
  refine (l4Group_any g e q a _ hg he).mono ?_
  rintro e' w3 ⟨rfl, k3⟩
  rw [HR.out]
  go_wp2_with fail
  go_ret2
  exact ⟨_, rfl, OwnInts.of_made (World.ownsRow_nil _ _ _ _), turn_trans (turn_trans a1 k2 (by omega)) k3 (by omega)⟩

set_option maxRecDepth 100000 in
set_option maxHeartbeats 4000000 in
theorem sHelpersOf_yes (g e q d : Nat) (a r : Int) (w : World) (hg : 1 ≤ g ∧ g ≤ 4) (he : 1 ≤ e ∧ e ≤ 4) (hq : q ≤ 4) (hd : 1 ≤ d ∧ d ≤ 16) (HGE : Hid ((g : Int) * (e : Int) = (d : Int))) (HD : Hid (g * e = d)) (HL : Hid (locOk g e q = true)) (HR : Hid (grpN d e g a = r)) (hr : ¬ r < 0) : Calls Tryd.prog 121 #[locV g e q, .int .i64 a] w (RetIntsOk 3 w (notA a (mem4 d e g (d + g + q) r)) true) := by
  have a1 := turn_alloc w (.cells #[.int .i64 g, .int .i64 e, .int .i64 q] 73)
  have z1 := World.size_alloc w (.cells #[.int .i64 g, .int .i64 e, .int .i64 q] 73)
  have cg := alloc_tri0 w (.int .i64 g) (.int .i64 e) (.int .i64 q) 73
  have ce := alloc_tri1 w (.int .i64 g) (.int .i64 e) (.int .i64 q) 73
  have cq := alloc_tri2 w (.int .i64 g) (.int .i64 e) (.int .i64 q) 73
  have hrd : decide (r < 0) = false := by simpa using hr
  have HM : Hid (∀ w, Calls Tryd.prog 123 #[locV g e q] w (RetInt w ((d + g + q : Nat) : Int))) := fun w => l4Many_any g e q d w HGE hd hg.2 hq
  have HG : Hid (∀ (x : Int) w, Calls Tryd.prog 171 #[.agg #[.int .i64 g, .int .i64 e, .int .i64 q], .int .i64 x] w (RetInt w (grpN d e g x))) := fun x w => by rw [← HD.out]; exact l4Group_any g e q x w hg he
  obtain ⟨n, hn⟩ : ∃ n, d + g + q = n := ⟨_, rfl⟩
  rw [hn] at HM ⊢
  have hn24 : n ≤ 24 := by omega
  clear hn
  go_enter Tryd.func121, Tryd.ntmps121
  go_wp2_with fail
  refine (sGoodLocal_any (g : Int) (e : Int) (q : Int) _).mono ?_
  rintro e' w2 ⟨rfl, k2⟩
  rw [HL.out]
  have s2 := k2.size
  have dg := cell_keepT cg (by omega) k2 (by omega)
  have de := cell_keepT ce (by omega) k2 (by omega)
  have dq := cell_keepT cq (by omega) k2 (by omega)
  clear cg ce cq
  go_wp2_with fail
  refine (HG.out a _).mono ?_
  rintro e' w3 ⟨rfl, k3⟩
  rw [HR.out]
  have s3 := k3.size
  have eg := cell_keepT dg (by omega) k3 (by omega)
  have ee := cell_keepT de (by omega) k3 (by omega)
  have eq' := cell_keepT dq (by omega) k3 (by omega)
  clear dg de dq
  have HT : Hid (TurnIn 0 0 w w3) := turn_trans (turn_trans a1 k2 (by omega)) k3 (by omega)
  have hw3 : w.heap.size < w3.heap.size := by omega
  clear a1 k2 k3 z1 s2 s3
  go_wp2_with fail
  go_loopw [6, 7] (fun o i wr => ∃ (k : Nat) (acc : List Int), k ≤ n ∧ i = .int .i64 k ∧ wr.ownsRow w3.heap.size 3 1 o acc.length (ints acc) ∧ Hid (acc = notA a (mem4 d e g k r)) ∧ acc.length ≤ k ∧ Below w3.heap.size w3 wr)
    (fun _ i _ => n - (intOf i).toNat)
  case atStart => exact ⟨0, [], Nat.zero_le _, rfl, World.ownsRow_nil _ _ _ _, by show [] = notA a (mem4 d e g 0 r); simp [notA, mem4], Nat.le_refl _, Below.refl _ _⟩
  case round =>
    obtain ⟨k, acc, hk, rfl, hown, HACC, hak, hb⟩ := hrel
    have hbs := hb.size
    have c0 := (hb.cell (p := ⟨w.heap.size, 0, none⟩) hw3).trans eg
    have c1 := (hb.cell (p := ⟨w.heap.size, 1, none⟩) hw3).trans ee
    have c2 := (hb.cell (p := ⟨w.heap.size, 2, none⟩) hw3).trans eq'
    go_wp2_with fail
    refine (HM.out _).mono ?_
    rintro e' w4 ⟨rfl, k4⟩
    have s4 := k4.size
    have hb4 : Below w3.heap.size w3 w4 := k4.base hb (by omega) (by omega)
    have d0 := cell_keepT c0 (by omega) k4 (by omega)
    have d1 := cell_keepT c1 (by omega) k4 (by omega)
    have d2 := cell_keepT c2 (by omega) k4 (by omega)
    have hown4 := own_below hown k4.to_below
    have HOWN := Lib.hid hown4
    have HB4 := Lib.hid hb4
    have hw4 : w.heap.size < w4.heap.size := by omega
    have hw34 : w3.heap.size ≤ w4.heap.size := by omega
    clear c0 c1 c2 hown hb hown4 hb4 k4 hbs s4
    by_cases hlt : k < n
    · have hki : (k : Int) < (n : Int) := by omega
      by_cases hka : (k : Int) = a
      · have hkb : ((k : Int) != a) = false := by simpa using hka
        have HA2 : Hid (acc = notA a (mem4 d e g (k + 1) r)) := by show acc = _; rw [sel_same (.inl hka), HACC.out]
        have HKA := Lib.hid hka
        clear hka
        go_wp2_with fail
        go_quiet (fail)
        go_wp2_with fail
        go_roundw
        case rel => exact ⟨k + 1, acc, by omega, by go_num, own_below HOWN.out (below_drewN (Below.refl _ _) _), HA2, by omega, below_drewN HB4.out _⟩
        case measure => simp [intOf]; omega
      · have hkb : ((k : Int) != a) = true := by simpa using hka
        have HKA := Lib.hid hka
        clear hka
        go_wp2_with fail
        have k0 : TurnIn 0 0 w4 w4.drew := TurnIn.of_below (Below.refl _ _).drew
        have hS0 : w4.drew.cell? ⟨w.heap.size, 0, none⟩ = some (.int .i64 g) ∧ w4.drew.cell? ⟨w.heap.size, 1, none⟩ = some (.int .i64 e) ∧ w4.drew.cell? ⟨w.heap.size, 2, none⟩ = some (.int .i64 q) ∧ TurnIn 0 0 w4 w4.drew := ⟨d0, d1, d2, k0⟩
        obtain ⟨s, hs⟩ : ∃ s, grpN d e g (k : Int) = s := ⟨_, rfl⟩
        have HS := Lib.hid hs
        clear hs
        go_cut [34] from 23 to 33 (fun s34 wx => s34 = .bool (s == r) ∧ TurnIn 0 0 w4 wx)
        case first =>
          go_region_held3 (fun w' => w'.cell? ⟨w.heap.size, 0, none⟩ = some (.int .i64 g) ∧ w'.cell? ⟨w.heap.size, 1, none⟩ = some (.int .i64 e) ∧ w'.cell? ⟨w.heap.size, 2, none⟩ = some (.int .i64 q) ∧ TurnIn 0 0 w4 w')
            (first | exact hS0 | exact hS1)
            ((go_at_call 171; (first | ((with_reducible refine (HG.out a _).mono ?_); rintro e' w5 ⟨rfl, k5⟩; rw [HR.out]) | ((with_reducible refine (HG.out (k : Int) _).mono ?_); rintro e' w5 ⟨rfl, k5⟩; rw [HS.out])); have hS1 := box3_turn (by assumption) hw4 k5))
          all_goals (go_wp2_with fail; go_meet; exact ⟨by first | rfl | simp, hS1.2.2.2⟩)
        case rest =>
          obtain ⟨rfl, k5⟩ := hcut
          have s5 := k5.size
          have hown5 := own_below HOWN.out k5.to_below
          have hb5 : Below w3.heap.size w3 wc := k5.base HB4.out (by omega) (by omega)
          by_cases hsr : s = r
          · have hsb : (s == r) = true := by simpa using hsr
            have HA2 : Hid (acc ++ [(k : Int)] = notA a (mem4 d e g (k + 1) r)) := by show acc ++ [(k : Int)] = _; rw [sel_more HKA.out (HS.out.trans hsr), HACC.out]
            clear hsr k5 d0 d1 d2
            go_wp2_with (at_builtin; refine wpList_append1 rfl _ _ _ rfl w3.heap.size 3 _ _ Tryd.underlying97 infoIntG rfl _ acc.length _ rfl (hown5.alloc _) wc.heap.size (.int .i64 k) rfl ?c1 rfl ?c2 ?c3 ?c4 ?_)
            case c1 => simp
            case c2 => omega
            case c3 => omega
            case c4 => simp; omega
            intro v' w' hown' hg' _
            have hb' : Below w3.heap.size w3 w' := below_append (hb5.alloc hb5.size _) (hown5.alloc _) hg' (Nat.le_refl _) (by simp; omega)
            have hown2 : w'.ownsRow w3.heap.size 3 1 v' (acc ++ [(k : Int)]).length (ints (acc ++ [(k : Int)])) := by
              rw [ints_append]; simpa [ints] using hown'
            clear hown' hg'
            go_wp2_with fail
            go_roundw
            case rel => exact ⟨k + 1, acc ++ [(k : Int)], by omega, by go_num, hown2, HA2, by simp; omega, hb'⟩
            case measure => simp [intOf]; omega
          · have hsb : (s == r) = false := by simpa using hsr
            have HA2 : Hid (acc = notA a (mem4 d e g (k + 1) r)) := by show acc = _; rw [sel_same (.inr (by rw [HS.out]; exact hsr)), HACC.out]
            clear hsr k5 d0 d1 d2
            go_wp2_with fail
            go_roundw
            case rel => exact ⟨k + 1, acc, by omega, by go_num, hown5, HA2, by omega, hb5⟩
            case measure => simp [intOf]; omega
    · obtain rfl : k = n := by omega
      have hki : ¬ (k : Int) < (k : Int) := by omega
      go_wp2_with fail
      go_ret2
      refine ⟨_, rfl, OwnInts.of_made ?_, turn_trans HT.out (TurnIn.of_below HB4.out) (by omega)⟩
      rw [← HACC.out]
      exact own_base HOWN.out (by omega)

end Go.Proofs.YtlkoafnlklhaeaaDoor
