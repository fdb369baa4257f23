/- Chapter 12: RunsOf, the program's and the model's. -/
import Derived.Test.YtdbgkpmdimapdaaRunWalks
import Derived.Test.YtdbgkpmdimapdaaRunApp
import Derived.Test.YtdbgkpmdimapdaaRlMath
import Derived.Test.YtdbgkpmdimapdaaMtfB
import Derived.BigQuiet
set_option linter.unusedSimpArgs false
set_option linter.unusedVariables false
namespace G294
open Go Go.RowKit
def rnsR (s : List UInt8) : List Ru := if mvdOk s = true then rlOf s else []
theorem rnsR_yes {s : List UInt8} (h : mvdOk s = true) : rnsR s = rlOf s := if_pos h
theorem rnsR_no {s : List UInt8} (h : mvdOk s = false) : rnsR s = [] := if_neg (by rw [h]; decide)
theorem rl_count {s : List UInt8} {rs : List Ru} (h : RlOk s rs) : rs.length ≤ s.length := by
  have h1 : ∀ j, j ≤ rs.length → (j : Int) ≤ sumRs (rs.take j) := by
    intro j
    induction j with
    | zero => intro _; simp [sumRs]
    | succ j ih =>
      intro hj
      have hj' : j < rs.length := by omega
      rw [sumRs_take hj']
      have hg := (h.good j hj').1
      rw [List.getD_eq_getElem?_getD, List.getElem?_eq_getElem hj'] at hg
      simp only [Option.getD_some] at hg
      have := ih (by omega)
      omega
  have h2 := h1 rs.length (Nat.le_refl _)
  rw [List.take_length, h.sum] at h2
  omega
theorem rnsR_len (s : List UInt8) : (rnsR s).length ≤ 200 := by
  by_cases h : mvdOk s = true
  · rw [rnsR_yes h]
    have h1 := rl_count (rlOk_all s)
    have h2 : s.length ≤ 200 := by simpa [mvdOk, mvdB] using h
    omega
  · rw [rnsR_no (by simpa using h)]; simp
theorem rl_zero (s : List UInt8) : rlOf (s.take 0) = [] := rfl
theorem rl_split {s : List UInt8} {q : Nat} (h : q + 1 ≤ s.length) : ∃ (Q : List Ru) (b : UInt8) (y : Int), rlOf (s.take (q + 1)) = Q ++ [(b, y)] ∧ b = s.getD q 0 ∧ 1 ≤ y ∧ y ≤ (q + 1 : Nat) ∧ Q.length ≤ q := by
  have o := rlOk s (q + 1) h
  have hl := o.last
  have e1 : (s.take (q + 1)).getLast? = some (s.getD q 0) := by
    rw [List.take_succ_eq_append_getElem (show q < s.length by omega), List.getLast?_append]
    simp [List.getD, show q < s.length by omega]
  rw [e1] at hl
  cases hc : (rlOf (s.take (q + 1))).getLast? with
  | none => rw [hc] at hl; simp at hl
  | some c =>
    rw [hc] at hl
    have e := snoc_of_last hc
    have hcount := rl_count o
    have hsum := o.sum
    have h1 := rl_sumTake o (rlOf (s.take (q + 1))).dropLast.length 1 (by rw [e]; simp)
    have hg := o.good (rlOf (s.take (q + 1))).dropLast.length (by rw [e]; simp)
    have hs2 : sumRs (rlOf (s.take (q + 1))) = sumRs (rlOf (s.take (q + 1))).dropLast + c.2 := by
      conv => lhs; rw [e]
      rw [sumRs_append]; simp [sumRs]
    have hd : (rlOf (s.take (q + 1))).getD (rlOf (s.take (q + 1))).dropLast.length (0, 0) = c := by
      conv => lhs; arg 1; rw [e]
      exact getD_end
    rw [hd] at hg
    have hp : 0 ≤ sumRs (rlOf (s.take (q + 1))).dropLast := by
      have h0 : ∀ j, j ≤ (rlOf (s.take (q + 1))).length → 0 ≤ sumRs ((rlOf (s.take (q + 1))).take j) := by
        intro j
        induction j with
        | zero => intro _; simp [sumRs]
        | succ j ih =>
          intro hj
          have hj' : j < (rlOf (s.take (q + 1))).length := by omega
          rw [sumRs_take hj']
          have hg := (o.good j hj').1
          rw [List.getD_eq_getElem?_getD, List.getElem?_eq_getElem hj'] at hg
          simp only [Option.getD_some] at hg
          have := ih (by omega)
          omega
      rw [List.dropLast_eq_take]
      exact h0 _ (by omega)
    have hlen : (s.take (q + 1)).length = q + 1 := by simp; omega
    refine ⟨(rlOf (s.take (q + 1))).dropLast, c.1, c.2, e, by simpa using hl, hg.1, by omega, by simp; omega⟩
theorem bump_nil (b : UInt8) : bump [] b = [] ++ [(b, 1)] := rfl
theorem bump_same (Q : List Ru) (b : UInt8) (y : Int) : bump (Q ++ [(b, y)]) b = Q ++ [(b, y + 1)] := by simp [bump]
theorem bump_new (Q : List Ru) {b c : UInt8} (y : Int) (h : c ≠ b) : bump (Q ++ [(b, y)]) c = Q ++ [(b, y)] ++ [(c, 1)] := by simp [bump, Ne.symm h]
theorem rl_next {s : List UInt8} {k : Nat} (h : k < s.length) : rlOf (s.take (k + 1)) = bump (rlOf (s.take k)) (s.getD k 0) := by rw [rlOf_take h, getD_at h]
/-- the last run of a row -/
theorem row_last {w : World} {base g m cp : Nat} {E : TypeId} {Q : List Ru} {b : UInt8} {y : Int} (ho : w.ownsRow base E 2 (.slice (some ⟨g, 0, none⟩) (m + 1) cp) (m + 1) (rus (Q ++ [(b, y)]))) (hm : Q.length = m) (z : Int) :
    w.cell? ⟨g, m * 2, none⟩ = some (.int .u8 (b.toNat : Int)) ∧ w.cell? ⟨g, m * 2 + 1, none⟩ = some (.int .i64 y) ∧ w.frozen? ⟨g, m * 2 + 1, none⟩ = false ∧
    (w.setCell ⟨g, m * 2 + 1, none⟩ (.int .i64 z)).ownsRow base E 2 (.slice (some ⟨g, 0, none⟩) (m + 1) cp) (m + 1) (rus (Q ++ [(b, z)])) := by
  subst hm
  have hst := ho.stored (Q.length * 2 + 1) (.int .i64 z)
  have e : (rus (Q ++ [(b, y)])).set (Q.length * 2 + 1) (.int .i64 z) = rus (Q ++ [(b, z)]) := by
    rw [rus_append, rus_append, List.set_append_right _ _ (by simp)]
    simp [rus]
  rw [e] at hst
  have hl : Q.length < (Q ++ [(b, y)]).length := by simp
  refine ⟨?_, ?_, ho.frozenAt _, hst.1⟩
  · rw [ho.cellAt (Q.length * 2) (by omega), rus_no _ Q.length hl]; simp
  · rw [ho.cellAt (Q.length * 2 + 1) (by omega), rus_data _ Q.length hl]; simp
theorem row_some {w : World} {base n : Nat} {E : TypeId} {v : Value} {xs : List Value} (ho : w.ownsRow base E 2 v (n + 1) xs) : ∃ g cp, v = .slice (some ⟨g, 0, none⟩) (n + 1) cp ∧ base ≤ g := by
  rcases ho.2 with ⟨_, h⟩ | ⟨g, cap, cur, rfl, hb, _⟩
  · omega
  · exact ⟨g, cap, rfl, hb⟩
theorem turn_drewZ {w w1 : World} (k : TurnIn 0 0 w w1) (m : Nat) : TurnIn 0 0 w (w1.drewN m) := TurnIn.of_below (below_drewN k.to_below m)
theorem alloc_z0 (w : World) (u v : Value) (T : TypeId) : (w.alloc (.cells #[u, v] T)).cell? ⟨w.heap.size, 0, none⟩ = some u := by simp
theorem alloc_z1 (w : World) (u v : Value) (T : TypeId) : (w.alloc (.cells #[u, v] T)).cell? ⟨w.heap.size, 1, none⟩ = some v := by simp
theorem growTz {w w1 w2 : World} {row : Option Nat} (t : TurnIn 0 0 w w1) (hg : w1.grownBy w2 row) (hr : ∀ g, row = some g → w.heap.size ≤ g) : TurnIn 0 0 w w2 :=
  TurnIn.of_below (t.to_below.grown hg t.size hr)
theorem turn_set {w w1 : World} (k : TurnIn 0 0 w w1) {g i : Nat} (x : Value) (h : w.heap.size ≤ g) : TurnIn 0 0 w (w1.setCell ⟨g, i, none⟩ x) := TurnIn.of_below (k.to_below.setCell (p := ⟨g, i, none⟩) h x)
end G294
namespace Go.Proofs.Ytdbgkpmdimapdaa
open Go.RowKit G294

set_option maxRecDepth 100000 in
set_option maxHeartbeats 4000000 in
theorem runsOf_own (s : List UInt8) (w : World) (hs : s.length ≤ 1000000000000) : Calls Try.prog 37 #[.string (str s)] w (RetRusOk 86 w (rnsR s) (mvdOk s)) := by
  have hsz : (str s).size = s.length := str_size s
  have HG := Lib.hid (fun W => goodMoved_any s.length W)
  by_cases h : s.length ≤ 200
  · have HB : Hid (mvdB s.length = true) := by show _ = _; simp [mvdB, h]
    have HO : Hid (mvdOk s = true) := HB.out
    have HR := Lib.hid (rnsR_yes HO.out)
    rw [HR.out, HO.out]
    have HSG := Lib.hid (fun k h => str_get s k h)
    have HSP := Lib.hid (fun q h => @rl_split s q h)
    have HNX := Lib.hid (fun k h => @rl_next s k h)
    have HTA : Hid (rlOf (s.take s.length) = rlOf s) := by show _ = _; rw [List.take_length]
    have HOW0 : Hid (w.ownsRow w.heap.size 86 2 (.slice none 0 0) (rlOf (s.take 0)).length (rus (rlOf (s.take 0)))) := by
      show World.ownsRow _ _ _ _ _ _ _
      exact World.ownsRow_nil _ _ _ _
    generalize s.length = n at *
    go_enter Try.func37, Try.ntmps37
    go_wp2_with fail
    refine (HG.out _).mono ?_
    rintro e w' ⟨rfl, rfl⟩
    rw [HB.out]
    go_wp2_with fail
    go_loopw [4, 12] (fun v y wr => ∃ k : Nat, k ≤ n ∧ y = .int .i64 k ∧ Hid (wr.ownsRow w.heap.size 86 2 v (rlOf (s.take k)).length (rus (rlOf (s.take k)))) ∧ Hid (TurnIn 0 0 w wr)) (fun _ y _ => n - (intOf y).toNat)
    case atStart => exact ⟨0, Nat.zero_le _, rfl, HOW0, Lib.hid (TurnIn.refl _)⟩
    case round =>
      clear HOW0
      obtain ⟨k, hk, rfl, HBr, HK⟩ := hrel
      by_cases hlt : k < n
      · have hki : (k : Int) < (n : Int) := by omega
        have hwr := HK.out.size
        by_cases hz : k = 0
        · subst hz
          have hz0 : ((0 : Nat) : Int) = 0 := rfl
          have HE : Hid (rlOf (s.take (0 + 1)) = [] ++ [(s.getD 0 0, 1)]) := by show _ = _; rw [HNX.out 0 (by omega)]; rfl
          have g1 := HSG.out 0 (by omega)
          rw [rl_zero] at HBr
          generalize s.getD 0 0 = c at *
          have HO2 := Lib.hid (fun m => World.ownsRow.alloc (w := wr.drewN m) HBr.out (.cells #[.int .u8 (c.toNat : Int), .int .i64 0] 86))
          have KA := Lib.hid (fun m => turn_trans (turn_drewZ HK.out m) (turn_alloc (wr.drewN m) (.cells #[.int .u8 (c.toNat : Int), .int .i64 0] 86)) (by omega))
          clear HBr
          go_wp2_with fail
          go_quiet (fail)
          go_wp2_with (at_builtin; refine wpList_appendRu rfl _ _ _ rfl w.heap.size 86 _ _ Try.underlying44 infoRun rfl _ _ _ rfl (HO2.out _) _ c 0 rfl ?c0 ?c1 ?c2 ?c3 ?c4 ?_)
          case c0 => exact alloc_z0 (wr.drewN _) _ _ _
          case c1 => exact alloc_z1 (wr.drewN _) _ _ _
          case c2 => first | (simp; done) | omega
          case c3 => omega
          case c4 => simp; omega
          intro v' w3 hown3 hg3 _
          have hown3 : w3.ownsRow w.heap.size 86 2 v' ((([] : List Ru)).length + 1) (rus (([] : List Ru) ++ [(c, 0)])) := by simpa using hown3
          have K3 := Lib.hid (growTz (KA.out _) hg3 (fun g e => ((HO2.out 0).lt g e).1))
          have hw3 := K3.out.size
          obtain ⟨g, cp, rfl, hgb⟩ := row_some hown3
          have hst := row_last hown3 rfl 1
          have c1 := hst.2.1
          have f1 := hst.2.2.1
          have HO5 : Hid (World.ownsRow (w3.setCell ⟨g, (([] : List Ru)).length * 2 + 1, none⟩ (.int .i64 1)) w.heap.size 86 2 (.slice (some ⟨g, 0, none⟩) ((([] : List Ru)).length + 1) cp) (rlOf (s.take (0 + 1))).length (rus (rlOf (s.take (0 + 1))))) := by
            show World.ownsRow _ _ _ _ _ _ _
            rw [HE.out]; simpa using hst.2.2.2
          have K5 := Lib.hid (turn_set K3.out (i := (([] : List Ru)).length * 2 + 1) (.int .i64 1) hgb)
          simp only [List.length_nil] at *
          clear hown3 hg3 HO2 KA hst
          go_wp2_with fail
          go_roundw
          case rel => exact ⟨0 + 1, by omega, by go_num, HO5, K5⟩
          case measure => simp [intOf]; omega
        · obtain ⟨q, rfl⟩ : ∃ q, k = q + 1 := ⟨k - 1, by omega⟩
          have hz0 : ((q : Int) + 1 == 0) = false := by rw [beq_eq_false_iff_ne]; omega
          obtain ⟨Q, b, y, hQ, hbq, hy1, hy2, hQl⟩ := HSP.out q (by omega)
          have HE0 := Lib.hid (HNX.out (q + 1) hlt)
          have g1 := HSG.out (q + 1) (by omega)
          have g2 := HSG.out q (by omega)
          rw [hQ] at HBr HE0
          rw [← hbq] at g2
          generalize s.getD (q + 1) 0 = c at *
          clear hQ hbq
          by_cases hx : c = b
          · subst hx
            have hbb : ((c.toNat : Int) != (c.toNat : Int)) = false := bne_self_eq_false _
            have hbe : ((c.toNat : Int) == (c.toNat : Int)) = true := beq_self_eq_true _
            rw [List.length_append] at HBr
            obtain ⟨g, cp, rfl, hgb⟩ := row_some HBr.out
            have hst := row_last HBr.out rfl (y + 1)
            have c0 := hst.1
            have c1 := hst.2.1
            have f1 := hst.2.2.1
            have HO5 : Hid (∀ m, World.ownsRow ((wr.drewN m).setCell ⟨g, Q.length * 2 + 1, none⟩ (.int .i64 (y + 1))) w.heap.size 86 2 (.slice (some ⟨g, 0, none⟩) (Q.length + 1) cp) (rlOf (s.take (q + 1 + 1))).length (rus (rlOf (s.take (q + 1 + 1))))) := by
              show ∀ m, World.ownsRow _ _ _ _ _ _ _
              intro m
              rw [HE0.out, bump_same, List.length_append]; exact (row_last (w := wr.drewN m) HBr.out rfl (y + 1)).2.2.2
            have K5 := Lib.hid (fun m => turn_set (turn_drewZ HK.out m) (i := Q.length * 2 + 1) (.int .i64 (y + 1)) hgb)
            simp only [List.length_cons, List.length_nil] at *
            generalize Q.length = m at *
            clear HBr hst
            go_wp2_with fail
            go_quiet (fail)
            go_wp2_with fail
            go_roundw
            case rel => exact ⟨q + 1 + 1, by omega, by go_num, Lib.hid (HO5.out _), Lib.hid (K5.out _)⟩
            case measure => simp [intOf]; omega
          · have hbb : ((c.toNat : Int) != (b.toNat : Int)) = true := by rw [bne_iff_ne]; intro e; exact hx (UInt8.toNat_inj.1 (by omega))
            have hbe : ((b.toNat : Int) == (c.toNat : Int)) = false := by rw [beq_eq_false_iff_ne]; intro e; exact hx (UInt8.toNat_inj.1 (by omega))
            have HE : Hid (rlOf (s.take (q + 1 + 1)) = (Q ++ [(b, y)]) ++ [(c, 1)]) := by show _ = _; rw [HE0.out, bump_new Q y hx]
            have hQl2 : (Q ++ [(b, y)]).length ≤ q + 1 := by simp; omega
            clear hx HE0
            have HO2 := Lib.hid (fun m => World.ownsRow.alloc (w := wr.drewN m) HBr.out (.cells #[.int .u8 (c.toNat : Int), .int .i64 0] 86))
            have KA := Lib.hid (fun m => turn_trans (turn_drewZ HK.out m) (turn_alloc (wr.drewN m) (.cells #[.int .u8 (c.toNat : Int), .int .i64 0] 86)) (by omega))
            clear HBr
            go_wp2_with fail
            go_quiet (fail)
            go_wp2_with (at_builtin; refine wpList_appendRu rfl _ _ _ rfl w.heap.size 86 _ _ Try.underlying44 infoRun rfl _ _ _ rfl (HO2.out _) _ c 0 rfl ?c0 ?c1 ?c2 ?c3 ?c4 ?_)
            case c0 => exact alloc_z0 (wr.drewN _) _ _ _
            case c1 => exact alloc_z1 (wr.drewN _) _ _ _
            case c2 => first | (simp; done) | omega
            case c3 => omega
            case c4 => simp; omega
            intro v' w3 hown3 hg3 _
            have hown3 : w3.ownsRow w.heap.size 86 2 v' (((Q ++ [(b, y)])).length + 1) (rus ((Q ++ [(b, y)]) ++ [(c, 0)])) := by simpa using hown3
            have K3 := Lib.hid (growTz (KA.out _) hg3 (fun g e => ((HO2.out 0).lt g e).1))
            have hw3 := K3.out.size
            obtain ⟨g, cp, rfl, hgb⟩ := row_some hown3
            have hst := row_last hown3 rfl 1
            have c1 := hst.2.1
            have f1 := hst.2.2.1
            have HO5 : Hid (World.ownsRow (w3.setCell ⟨g, ((Q ++ [(b, y)])).length * 2 + 1, none⟩ (.int .i64 1)) w.heap.size 86 2 (.slice (some ⟨g, 0, none⟩) (((Q ++ [(b, y)])).length + 1) cp) (rlOf (s.take ((q + 1) + 1))).length (rus (rlOf (s.take ((q + 1) + 1))))) := by
              show World.ownsRow _ _ _ _ _ _ _
              rw [HE.out]; simpa using hst.2.2.2
            have K5 := Lib.hid (turn_set K3.out (i := ((Q ++ [(b, y)])).length * 2 + 1) (.int .i64 1) hgb)
            have hml : ((Q ++ [(b, y)])).length ≤ 200 := by omega
            generalize ((Q ++ [(b, y)])).length = m at *
            clear hown3 hg3 HO2 KA hst
            go_wp2_with fail
            go_roundw
            case rel => exact ⟨(q + 1) + 1, by omega, by go_num, HO5, K5⟩
            case measure => simp [intOf]; omega
      · obtain rfl : k = n := by omega
        have hki : ¬ (k : Int) < (k : Int) := by omega
        rw [HTA.out] at HBr
        go_wp2_with fail
        go_ret2
        exact ⟨_, rfl, ⟨HBr.out, Nat.le_refl _, fun g e => (HBr.out.lt g e).2⟩, HK.out⟩
  · have HB : Hid (mvdB s.length = false) := by show _ = _; simp [mvdB]; omega
    have HO : Hid (mvdOk s = false) := HB.out
    have HR := Lib.hid (rnsR_no HO.out)
    rw [HR.out, HO.out]
    generalize s.length = n at *
    go_enter Try.func37, Try.ntmps37
    go_wp2_with fail
    refine (HG.out _).mono ?_
    rintro e w' ⟨rfl, rfl⟩
    rw [HB.out]
    go_wp2_with fail
    go_ret2
    exact ⟨_, rfl, OwnRu.nil _ _ _, TurnIn.refl _⟩

set_option maxRecDepth 100000 in
set_option maxHeartbeats 4000000 in
theorem sRunsOf_own (s : List UInt8) (w : World) (hs : s.length ≤ 1000000000000) : Calls Try.prog 38 #[.string (str s)] w (RetRusOk 86 w (rnsR s) (mvdOk s)) := by
  have hsz : (str s).size = s.length := str_size s
  by_cases h : s.length ≤ 200
  · have HB : Hid (mvdB s.length = true) := by show _ = _; simp [mvdB, h]
    have HO : Hid (mvdOk s = true) := HB.out
    have HR := Lib.hid (rnsR_yes HO.out)
    rw [HR.out, HO.out]
    have HSG := Lib.hid (fun k h => str_get s k h)
    have HSP := Lib.hid (fun q h => @rl_split s q h)
    have HNX := Lib.hid (fun k h => @rl_next s k h)
    have HTA : Hid (rlOf (s.take s.length) = rlOf s) := by show _ = _; rw [List.take_length]
    have HOW0 : Hid (w.ownsRow w.heap.size 86 2 (.slice none 0 0) (rlOf (s.take 0)).length (rus (rlOf (s.take 0)))) := by
      show World.ownsRow _ _ _ _ _ _ _
      exact World.ownsRow_nil _ _ _ _
    generalize s.length = n at *
    go_enter Try.func38, Try.ntmps38
    go_wp2_with fail
    go_loopw [4, 5] (fun v y wr => ∃ k : Nat, k ≤ n ∧ y = .int .i64 k ∧ Hid (wr.ownsRow w.heap.size 86 2 v (rlOf (s.take k)).length (rus (rlOf (s.take k)))) ∧ Hid (TurnIn 0 0 w wr)) (fun _ y _ => n - (intOf y).toNat)
    case atStart => exact ⟨0, Nat.zero_le _, rfl, HOW0, Lib.hid (TurnIn.refl _)⟩
    case round =>
      clear HOW0
      obtain ⟨k, hk, rfl, HBr, HK⟩ := hrel
      by_cases hlt : k < n
      · have hki : (k : Int) < (n : Int) := by omega
        have hwr := HK.out.size
        by_cases hz : k = 0
        · subst hz
          have hz0 : ((0 : Nat) : Int) = 0 := rfl
          have HE : Hid (rlOf (s.take (0 + 1)) = [] ++ [(s.getD 0 0, 1)]) := by show _ = _; rw [HNX.out 0 (by omega)]; rfl
          have g1 := HSG.out 0 (by omega)
          rw [rl_zero] at HBr
          generalize s.getD 0 0 = c at *
          rcases HBr.out.2 with ⟨rfl, _⟩ | ⟨g0, cap0, cur0, rfl, _⟩
          · have HO2 := Lib.hid (fun m => World.ownsRow.alloc (w := wr.drewN m) HBr.out (.cells #[.int .u8 (c.toNat : Int), .int .i64 1] 86))
            have KA := Lib.hid (fun m => turn_trans (turn_drewZ HK.out m) (turn_alloc (wr.drewN m) (.cells #[.int .u8 (c.toNat : Int), .int .i64 1] 86)) (by omega))
            clear HBr
            go_wp2_with fail
            go_quiet (fail)
            go_wp2_with (at_builtin; refine wpList_appendRu rfl _ _ _ rfl w.heap.size 86 _ _ Try.underlying44 infoRun rfl _ _ _ rfl (HO2.out _) _ c 1 rfl ?c0 ?c1 ?c2 ?c3 ?c4 ?_)
            case c0 => exact alloc_z0 (wr.drewN _) _ _ _
            case c1 => exact alloc_z1 (wr.drewN _) _ _ _
            case c2 => first | (simp; done) | omega
            case c3 => omega
            case c4 => simp; omega
            intro v' w3 hown3 hg3 _
            have hown3 : w3.ownsRow w.heap.size 86 2 v' ((([] : List Ru)).length + 1) (rus (([] : List Ru) ++ [(c, 1)])) := by simpa using hown3
            have K3 := Lib.hid (growTz (KA.out _) hg3 (fun g e => ((HO2.out 0).lt g e).1))
            have hw3 := K3.out.size
            have HO5 : Hid (w3.ownsRow w.heap.size 86 2 v' (rlOf (s.take (0 + 1))).length (rus (rlOf (s.take (0 + 1))))) := by
              show World.ownsRow _ _ _ _ _ _ _
              rw [HE.out, List.length_append]; exact hown3
            clear hown3 hg3 HO2 KA
            go_wp2_with fail
            go_roundw
            case rel => exact ⟨0 + 1, by omega, by go_num, HO5, K3⟩
            case measure => simp [intOf]; omega
          · have HO2 := Lib.hid (fun m => World.ownsRow.alloc (w := wr.drewN m) HBr.out (.cells #[.int .u8 (c.toNat : Int), .int .i64 1] 86))
            have KA := Lib.hid (fun m => turn_trans (turn_drewZ HK.out m) (turn_alloc (wr.drewN m) (.cells #[.int .u8 (c.toNat : Int), .int .i64 1] 86)) (by omega))
            clear HBr
            go_wp2_with fail
            go_quiet (fail)
            go_wp2_with (at_builtin; refine wpList_appendRu rfl _ _ _ rfl w.heap.size 86 _ _ Try.underlying44 infoRun rfl _ _ _ rfl (HO2.out _) _ c 1 rfl ?c0 ?c1 ?c2 ?c3 ?c4 ?_)
            case c0 => exact alloc_z0 (wr.drewN _) _ _ _
            case c1 => exact alloc_z1 (wr.drewN _) _ _ _
            case c2 => first | (simp; done) | omega
            case c3 => omega
            case c4 => simp; omega
            intro v' w3 hown3 hg3 _
            have hown3 : w3.ownsRow w.heap.size 86 2 v' ((([] : List Ru)).length + 1) (rus (([] : List Ru) ++ [(c, 1)])) := by simpa using hown3
            have K3 := Lib.hid (growTz (KA.out _) hg3 (fun g e => ((HO2.out 0).lt g e).1))
            have hw3 := K3.out.size
            have HO5 : Hid (w3.ownsRow w.heap.size 86 2 v' (rlOf (s.take (0 + 1))).length (rus (rlOf (s.take (0 + 1))))) := by
              show World.ownsRow _ _ _ _ _ _ _
              rw [HE.out, List.length_append]; exact hown3
            clear hown3 hg3 HO2 KA
            go_wp2_with fail
            go_roundw
            case rel => exact ⟨0 + 1, by omega, by go_num, HO5, K3⟩
            case measure => simp [intOf]; omega
        · obtain ⟨q, rfl⟩ : ∃ q, k = q + 1 := ⟨k - 1, by omega⟩
          have hz0 : ((q : Int) + 1 == 0) = false := by rw [beq_eq_false_iff_ne]; omega
          obtain ⟨Q, b, y, hQ, hbq, hy1, hy2, hQl⟩ := HSP.out q (by omega)
          have HE0 := Lib.hid (HNX.out (q + 1) hlt)
          have g1 := HSG.out (q + 1) (by omega)
          have g2 := HSG.out q (by omega)
          rw [hQ] at HBr HE0
          rw [← hbq] at g2
          generalize s.getD (q + 1) 0 = c at *
          clear hQ hbq
          by_cases hx : c = b
          · subst hx
            have hbb : ((c.toNat : Int) != (c.toNat : Int)) = false := bne_self_eq_false _
            have hbe : ((c.toNat : Int) == (c.toNat : Int)) = true := beq_self_eq_true _
            rw [List.length_append] at HBr
            obtain ⟨g, cp, rfl, hgb⟩ := row_some HBr.out
            have hst := row_last HBr.out rfl (y + 1)
            have c0 := hst.1
            have c1 := hst.2.1
            have f1 := hst.2.2.1
            have HO5 : Hid (∀ m, World.ownsRow ((wr.drewN m).setCell ⟨g, Q.length * 2 + 1, none⟩ (.int .i64 (y + 1))) w.heap.size 86 2 (.slice (some ⟨g, 0, none⟩) (Q.length + 1) cp) (rlOf (s.take (q + 1 + 1))).length (rus (rlOf (s.take (q + 1 + 1))))) := by
              show ∀ m, World.ownsRow _ _ _ _ _ _ _
              intro m
              rw [HE0.out, bump_same, List.length_append]; exact (row_last (w := wr.drewN m) HBr.out rfl (y + 1)).2.2.2
            have K5 := Lib.hid (fun m => turn_set (turn_drewZ HK.out m) (i := Q.length * 2 + 1) (.int .i64 (y + 1)) hgb)
            simp only [List.length_cons, List.length_nil] at *
            generalize Q.length = m at *
            clear HBr hst
            go_wp2_with fail
            go_quiet (fail)
            go_wp2_with fail
            go_roundw
            case rel => exact ⟨q + 1 + 1, by omega, by go_num, Lib.hid (HO5.out _), Lib.hid (K5.out _)⟩
            case measure => simp [intOf]; omega
          · have hbb : ((c.toNat : Int) != (b.toNat : Int)) = true := by rw [bne_iff_ne]; intro e; exact hx (UInt8.toNat_inj.1 (by omega))
            have hbe : ((b.toNat : Int) == (c.toNat : Int)) = false := by rw [beq_eq_false_iff_ne]; intro e; exact hx (UInt8.toNat_inj.1 (by omega))
            have HE : Hid (rlOf (s.take (q + 1 + 1)) = (Q ++ [(b, y)]) ++ [(c, 1)]) := by show _ = _; rw [HE0.out, bump_new Q y hx]
            have hQl2 : (Q ++ [(b, y)]).length ≤ q + 1 := by simp; omega
            clear hx HE0
            obtain ⟨g0, cp0, rfl, hgb0⟩ := row_some (n := Q.length) (by have := HBr.out; rwa [List.length_append] at this)
            have hst0 := row_last (by have := HBr.out; rwa [List.length_append] at this) rfl 0
            have b0 := hst0.1
            clear hst0
            have HO2 := Lib.hid (fun m => World.ownsRow.alloc (w := wr.drewN m) HBr.out (.cells #[.int .u8 (c.toNat : Int), .int .i64 1] 86))
            have KA := Lib.hid (fun m => turn_trans (turn_drewZ HK.out m) (turn_alloc (wr.drewN m) (.cells #[.int .u8 (c.toNat : Int), .int .i64 1] 86)) (by omega))
            clear HBr
            go_wp2_with fail
            go_quiet (fail)
            go_wp2_with (at_builtin; refine wpList_appendRu rfl _ _ _ rfl w.heap.size 86 _ _ Try.underlying44 infoRun rfl _ _ _ rfl (HO2.out _) _ c 1 rfl ?c0 ?c1 ?c2 ?c3 ?c4 ?_)
            case c0 => exact alloc_z0 (wr.drewN _) _ _ _
            case c1 => exact alloc_z1 (wr.drewN _) _ _ _
            case c2 => first | (simp; done) | omega
            case c3 => omega
            case c4 => simp; omega
            intro v' w3 hown3 hg3 _
            have hown3 : w3.ownsRow w.heap.size 86 2 v' (((Q ++ [(b, y)])).length + 1) (rus ((Q ++ [(b, y)]) ++ [(c, 1)])) := by simpa using hown3
            have K3 := Lib.hid (growTz (KA.out _) hg3 (fun g e => ((HO2.out 0).lt g e).1))
            have hw3 := K3.out.size
            have HO5 : Hid (w3.ownsRow w.heap.size 86 2 v' (rlOf (s.take ((q + 1) + 1))).length (rus (rlOf (s.take ((q + 1) + 1))))) := by
              show World.ownsRow _ _ _ _ _ _ _
              rw [HE.out, List.length_append]; exact hown3
            clear hown3 hg3 HO2 KA
            go_wp2_with fail
            go_roundw
            case rel => exact ⟨(q + 1) + 1, by omega, by go_num, HO5, K3⟩
            case measure => simp [intOf]; omega
      · obtain rfl : k = n := by omega
        have hki : ¬ (k : Int) < (k : Int) := by omega
        rw [HTA.out] at HBr
        go_wp2_with fail
        go_ret2
        exact ⟨_, rfl, ⟨HBr.out, Nat.le_refl _, fun g e => (HBr.out.lt g e).2⟩, HK.out⟩
  · have HB : Hid (mvdB s.length = false) := by show _ = _; simp [mvdB]; omega
    have HO : Hid (mvdOk s = false) := HB.out
    have HR := Lib.hid (rnsR_no HO.out)
    rw [HR.out, HO.out]
    generalize s.length = n at *
    go_enter Try.func38, Try.ntmps38
    go_wp2_with fail
    go_ret2
    exact ⟨_, rfl, OwnRu.nil _ _ _, TurnIn.refl _⟩

end Go.Proofs.Ytdbgkpmdimapdaa
