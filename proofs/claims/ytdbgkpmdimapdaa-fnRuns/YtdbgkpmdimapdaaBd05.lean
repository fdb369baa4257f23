/- Joined texts: FieldOps, Elim, Comb, MtfB, RnsX, GdRuns, InvMath. -/
import Derived.Test.YtdbgkpmdimapdaaBd04
import Derived.Test.YtdbgkpmdimapdaaBd02
import Derived.Test.YtdbgkpmdimapdaaBd03
import Derived.Test.YtdbgkpmdimapdaaBd00
import Derived.BigRegion
import Derived.StillTailTactics
import Derived.Test.YtdbgkpmdimapdaaBd01
import Derived.Deep.RegionHeld3
import Derived.BigQuiet
set_option linter.unusedSimpArgs false
set_option linter.unusedVariables false
/- The methods of field bytes. -/
namespace Go.Proofs.Ytdbgkpmdimapdaa
open Go.RowKit G294
end Go.Proofs.Ytdbgkpmdimapdaa

/- Elimination in place: pivotBelow, scaleRow, clearColumn, eliminate. -/
namespace Go.Proofs.Ytdbgkpmdimapdaa
open Go.RowKit G294

def pivV (o : Option Nat) : Value := match o with
  | none => .tuple #[.int .i64 0, .bool false]
  | some k => .tuple #[.int .i64 k, .bool true]

/-- row k turns in place -/
def RowTurn (E EE : TypeId) (w : World) (lo hi : Nat) (v : Value) (L : Mat) (vs : List Value) (e : Ending) (w' : World) : Prop := e = .returned (.tuple #[]) ∧ OwnM E EE w' lo hi v L vs ∧ TurnIn lo hi w w'

theorem stilly {P : Program} {f : FuncId} {args : Array Value} {w : World} {v : Value} (h : Calls P f args w fun e w' => e = .returned v ∧ w = w') :
    Calls P f args w fun e w' => e = .returned v ∧ w' = w := h.mono fun _ _ ⟨he, hw⟩ => ⟨he, hw.symm⟩

/-- column j cleared in the rows ahead of k and in the first m columns of row k -/
def clK (a j k m : Nat) (F : Ents) : Ents := fun i jj => if i < k ∨ (i = k ∧ jj < m) then clF a (fun i => F i j) F i jj else F i jj
end Go.Proofs.Ytdbgkpmdimapdaa

/- A row of a matrix by texts: the program's combined. -/
namespace G294
open Go Go.RowKit
/-- the product of a row and the bytes of texts -/
def combF (c : Nat) (f : Nat → UInt8) (T : List (List UInt8)) (p : Nat) : UInt8 := sumK c fun j => gmul (f j) (ent T j p)
def comb (c n : Nat) (f : Nat → UInt8) (T : List (List UInt8)) : List UInt8 := mkRow n (combF c f T)
theorem combF_succ (c : Nat) (f : Nat → UInt8) (T : List (List UInt8)) (p : Nat) : combF (c + 1) f T p = combF c f T p ^^^ gmul (f c) (ent T c p) := rfl
theorem str_get (t : List UInt8) (q : Nat) (h : q < (str t).size) : (str t)[q] = t.getD q 0 := by
  have h' : q < t.length := by rwa [str_size] at h
  show t.toArray[q]'(by simpa using h') = _
  simp [List.getD, h']
/-- one byte of a row of the call's own is stored -/
theorem OwnBytes.store {E : TypeId} {w : World} {lo hi g n cap q : Nat} {l l' : List UInt8} {x : UInt8} (h : OwnBytes E w lo hi (.slice (some ⟨g, 0, none⟩) n cap) l) (hn : l.length = n) (e : l.set q x = l') :
    OwnBytes E (w.setCell ⟨g, q, none⟩ (.int .u8 (x.toNat : Int))) lo hi (.slice (some ⟨g, 0, none⟩) n cap) l' := by
  have h1 := h.1
  rw [hn] at h1
  have hst := h1.stored q (.int .u8 (x.toNat : Int))
  refine ⟨?_, by simpa using h.2.1, h.2.2⟩
  have e2 : bys l' = (bys l).set q (.int .u8 (x.toNat : Int)) := by rw [← e]; simp [bys, List.map_set]
  have e3 : l'.length = n := by rw [← e]; simpa using hn
  rw [e2, e3]
  exact hst.1
theorem comb_step (n j q : Nat) (f : Nat → UInt8) (T : List (List UInt8)) : (mkRow n fun p => if p < q then combF (j + 1) f T p else combF j f T p).set q (combF (j + 1) f T q) = mkRow n fun p => if p < q + 1 then combF (j + 1) f T p else combF j f T p := by
  rw [mkRow_set]
  apply mkRow_congr
  intro p hp
  by_cases e : p = q
  · subst e; simp
  · rw [if_neg e]
    by_cases h2 : p < q
    · rw [if_pos h2, if_pos (by omega)]
    · rw [if_neg h2, if_neg (by omega)]
end G294
namespace Go.Proofs.Ytdbgkpmdimapdaa
open Go.RowKit G294

end Go.Proofs.Ytdbgkpmdimapdaa

/- Chapter 12: the bound on a text's bytes. -/
namespace G294
open Go Go.RowKit Go.Proofs.Ytdbgkpmdimapdaa
def mvdB (n : Nat) : Bool := decide (n ≤ 200)
def mvdOk (l : List UInt8) : Bool := mvdB l.length
theorem seen_getD {w : World} {v : Value} {l : List UInt8} (h : Seen w v (bys l)) : ∃ A c, v = .slice A l.length c ∧ (0 < l.length → ∃ b off, A = some ⟨b, off, none⟩ ∧ b < w.heap.size ∧ ∀ i, i < l.length → w.cell? ⟨b, off + i, none⟩ = some (.int .u8 ((l.getD i 0).toNat : Int))) := by
  obtain ⟨A, c, rfl, _, _, hx⟩ := h
  rw [bys_length] at hx
  refine ⟨A, c, by rw [bys_length], fun h0 => ?_⟩
  obtain ⟨b, off, e, hb, hc⟩ := hx h0
  refine ⟨b, off, e, hb, fun i hi => ?_⟩
  rw [hc i _ (bys_get l i hi)]
  simp [List.getD, hi]
theorem getD_at {α : Type} {l : List α} {k : Nat} {d : α} (h : k < l.length) : l.getD k d = l[k] := by simp [List.getD, h]
theorem inB_iff {n lo hi : Int} (h : inB n lo hi = true) : lo ≤ n ∧ n ≤ hi := by simpa [inB] using h
theorem inB_not {n lo hi : Int} (h : inB n lo hi = false) : n < lo ∨ hi < n := by
  rcases Int.lt_or_le n lo with h1 | h1
  · exact .inl h1
  · rcases Int.lt_or_le hi n with h2 | h2
    · exact .inr h2
    · simp [inB, h1, h2] at h
end G294
namespace Go.Proofs.Ytdbgkpmdimapdaa
open Go.RowKit G294

set_option maxHeartbeats 400000 in
theorem goodMoved_any (n : Nat) (w : World) : Calls Try.prog 73 #[.int .i64 n] w fun e w' => e = .returned (.bool (mvdB n)) ∧ w = w' := by
  have HD : Hid (mvdB n = decide (n ≤ 200)) := Lib.hid rfl
  go_enter Try.func73, Try.ntmps73
  go_wp2_with fail
  go_ret
  exact ⟨by rw [HD.out]; by_cases h : n ≤ 200 <;> simp [h] <;> omega, rfl⟩

end Go.Proofs.Ytdbgkpmdimapdaa

/- Chapter 12: RunsOf, the program's and the model's. -/
namespace G294
open Go Go.RowKit
def rnsR (s : List UInt8) : List Ru := if mvdOk s = true then rlOf s else []
theorem rnsR_yes {s : List UInt8} (h : mvdOk s = true) : rnsR s = rlOf s := if_pos h
theorem rnsR_no {s : List UInt8} (h : mvdOk s = false) : rnsR s = [] := if_neg (by rw [h]; decide)
theorem rl_count {s : List UInt8} {rs : List Ru} (h : RlOk s rs) : rs.length ≤ s.length := by
  have h1 : ∀ j, j ≤ rs.length → (j : Int) ≤ sumRs (rs.take j) := by
    intro j
    induction j with
    | zero => intro _; simp [sumRs]
    | succ j ih =>
      intro hj
      have hj' : j < rs.length := by omega
      rw [sumRs_take hj']
      have hg := (h.good j hj').1
      rw [List.getD_eq_getElem?_getD, List.getElem?_eq_getElem hj'] at hg
      simp only [Option.getD_some] at hg
      have := ih (by omega)
      omega
  have h2 := h1 rs.length (Nat.le_refl _)
  rw [List.take_length, h.sum] at h2
  omega
theorem rnsR_len (s : List UInt8) : (rnsR s).length ≤ 200 := by
  by_cases h : mvdOk s = true
  · rw [rnsR_yes h]
    have h1 := rl_count (rlOk_all s)
    have h2 : s.length ≤ 200 := by simpa [mvdOk, mvdB] using h
    omega
  · rw [rnsR_no (by simpa using h)]; simp
theorem rl_zero (s : List UInt8) : rlOf (s.take 0) = [] := rfl
theorem rl_split {s : List UInt8} {q : Nat} (h : q + 1 ≤ s.length) : ∃ (Q : List Ru) (b : UInt8) (y : Int), rlOf (s.take (q + 1)) = Q ++ [(b, y)] ∧ b = s.getD q 0 ∧ 1 ≤ y ∧ y ≤ (q + 1 : Nat) ∧ Q.length ≤ q := by
  have o := rlOk s (q + 1) h
  have hl := o.last
  have e1 : (s.take (q + 1)).getLast? = some (s.getD q 0) := by
    rw [List.take_succ_eq_append_getElem (show q < s.length by omega), List.getLast?_append]
    simp [List.getD, show q < s.length by omega]
  rw [e1] at hl
  cases hc : (rlOf (s.take (q + 1))).getLast? with
  | none => rw [hc] at hl; simp at hl
  | some c =>
    rw [hc] at hl
    have e := snoc_of_last hc
    have hcount := rl_count o
    have hsum := o.sum
    have h1 := rl_sumTake o (rlOf (s.take (q + 1))).dropLast.length 1 (by rw [e]; simp)
    have hg := o.good (rlOf (s.take (q + 1))).dropLast.length (by rw [e]; simp)
    have hs2 : sumRs (rlOf (s.take (q + 1))) = sumRs (rlOf (s.take (q + 1))).dropLast + c.2 := by
      conv => lhs; rw [e]
      rw [sumRs_append]; simp [sumRs]
    have hd : (rlOf (s.take (q + 1))).getD (rlOf (s.take (q + 1))).dropLast.length (0, 0) = c := by
      conv => lhs; arg 1; rw [e]
      exact getD_end
    rw [hd] at hg
    have hp : 0 ≤ sumRs (rlOf (s.take (q + 1))).dropLast := by
      have h0 : ∀ j, j ≤ (rlOf (s.take (q + 1))).length → 0 ≤ sumRs ((rlOf (s.take (q + 1))).take j) := by
        intro j
        induction j with
        | zero => intro _; simp [sumRs]
        | succ j ih =>
          intro hj
          have hj' : j < (rlOf (s.take (q + 1))).length := by omega
          rw [sumRs_take hj']
          have hg := (o.good j hj').1
          rw [List.getD_eq_getElem?_getD, List.getElem?_eq_getElem hj'] at hg
          simp only [Option.getD_some] at hg
          have := ih (by omega)
          omega
      rw [List.dropLast_eq_take]
      exact h0 _ (by omega)
    have hlen : (s.take (q + 1)).length = q + 1 := by simp; omega
    refine ⟨(rlOf (s.take (q + 1))).dropLast, c.1, c.2, e, by simpa using hl, hg.1, by omega, by simp; omega⟩
theorem bump_nil (b : UInt8) : bump [] b = [] ++ [(b, 1)] := rfl
theorem bump_same (Q : List Ru) (b : UInt8) (y : Int) : bump (Q ++ [(b, y)]) b = Q ++ [(b, y + 1)] := by simp [bump]
theorem bump_new (Q : List Ru) {b c : UInt8} (y : Int) (h : c ≠ b) : bump (Q ++ [(b, y)]) c = Q ++ [(b, y)] ++ [(c, 1)] := by simp [bump, Ne.symm h]
theorem rl_next {s : List UInt8} {k : Nat} (h : k < s.length) : rlOf (s.take (k + 1)) = bump (rlOf (s.take k)) (s.getD k 0) := by rw [rlOf_take h, getD_at h]
/-- the last run of a row -/
theorem row_last {w : World} {base g m cp : Nat} {E : TypeId} {Q : List Ru} {b : UInt8} {y : Int} (ho : w.ownsRow base E 2 (.slice (some ⟨g, 0, none⟩) (m + 1) cp) (m + 1) (rus (Q ++ [(b, y)]))) (hm : Q.length = m) (z : Int) :
    w.cell? ⟨g, m * 2, none⟩ = some (.int .u8 (b.toNat : Int)) ∧ w.cell? ⟨g, m * 2 + 1, none⟩ = some (.int .i64 y) ∧ w.frozen? ⟨g, m * 2 + 1, none⟩ = false ∧
    (w.setCell ⟨g, m * 2 + 1, none⟩ (.int .i64 z)).ownsRow base E 2 (.slice (some ⟨g, 0, none⟩) (m + 1) cp) (m + 1) (rus (Q ++ [(b, z)])) := by
  subst hm
  have hst := ho.stored (Q.length * 2 + 1) (.int .i64 z)
  have e : (rus (Q ++ [(b, y)])).set (Q.length * 2 + 1) (.int .i64 z) = rus (Q ++ [(b, z)]) := by
    rw [rus_append, rus_append, List.set_append_right _ _ (by simp)]
    simp [rus]
  rw [e] at hst
  have hl : Q.length < (Q ++ [(b, y)]).length := by simp
  refine ⟨?_, ?_, ho.frozenAt _, hst.1⟩
  · rw [ho.cellAt (Q.length * 2) (by omega), rus_no _ Q.length hl]; simp
  · rw [ho.cellAt (Q.length * 2 + 1) (by omega), rus_data _ Q.length hl]; simp
theorem row_some {w : World} {base n : Nat} {E : TypeId} {v : Value} {xs : List Value} (ho : w.ownsRow base E 2 v (n + 1) xs) : ∃ g cp, v = .slice (some ⟨g, 0, none⟩) (n + 1) cp ∧ base ≤ g := by
  rcases ho.2 with ⟨_, h⟩ | ⟨g, cap, cur, rfl, hb, _⟩
  · omega
  · exact ⟨g, cap, rfl, hb⟩
theorem turn_drewZ {w w1 : World} (k : TurnIn 0 0 w w1) (m : Nat) : TurnIn 0 0 w (w1.drewN m) := TurnIn.of_below (below_drewN k.to_below m)
theorem alloc_z0 (w : World) (u v : Value) (T : TypeId) : (w.alloc (.cells #[u, v] T)).cell? ⟨w.heap.size, 0, none⟩ = some u := by simp
theorem alloc_z1 (w : World) (u v : Value) (T : TypeId) : (w.alloc (.cells #[u, v] T)).cell? ⟨w.heap.size, 1, none⟩ = some v := by simp
theorem growTz {w w1 w2 : World} {row : Option Nat} (t : TurnIn 0 0 w w1) (hg : w1.grownBy w2 row) (hr : ∀ g, row = some g → w.heap.size ≤ g) : TurnIn 0 0 w w2 :=
  TurnIn.of_below (t.to_below.grown hg t.size hr)
theorem turn_set {w w1 : World} (k : TurnIn 0 0 w w1) {g i : Nat} (x : Value) (h : w.heap.size ≤ g) : TurnIn 0 0 w (w1.setCell ⟨g, i, none⟩ x) := TurnIn.of_below (k.to_below.setCell (p := ⟨g, i, none⟩) h x)
end G294
namespace Go.Proofs.Ytdbgkpmdimapdaa
open Go.RowKit G294

set_option maxRecDepth 100000 in
set_option maxHeartbeats 4000000 in
theorem runsOf_own (s : List UInt8) (w : World) (hs : s.length ≤ 1000000000000) : Calls Try.prog 37 #[.string (str s)] w (RetRusOk 86 w (rnsR s) (mvdOk s)) := by
  have hsz : (str s).size = s.length := str_size s
  have HG := Lib.hid (fun W => goodMoved_any s.length W)
  by_cases h : s.length ≤ 200
  · have HB : Hid (mvdB s.length = true) := by show _ = _; simp [mvdB, h]
    have HO : Hid (mvdOk s = true) := HB.out
    have HR := Lib.hid (rnsR_yes HO.out)
    rw [HR.out, HO.out]
    have HSG := Lib.hid (fun k h => str_get s k h)
    have HSP := Lib.hid (fun q h => @rl_split s q h)
    have HNX := Lib.hid (fun k h => @rl_next s k h)
    have HTA : Hid (rlOf (s.take s.length) = rlOf s) := by show _ = _; rw [List.take_length]
    have HOW0 : Hid (w.ownsRow w.heap.size 86 2 (.slice none 0 0) (rlOf (s.take 0)).length (rus (rlOf (s.take 0)))) := by
      show World.ownsRow _ _ _ _ _ _ _
      exact World.ownsRow_nil _ _ _ _
    generalize s.length = n at *
    go_enter Try.func37, Try.ntmps37
    go_wp2_with fail
    refine (HG.out _).mono ?_
    rintro e w' ⟨rfl, rfl⟩
    rw [HB.out]
    go_wp2_with fail
    go_loopw [4, 12] (fun v y wr => ∃ k : Nat, k ≤ n ∧ y = .int .i64 k ∧ Hid (wr.ownsRow w.heap.size 86 2 v (rlOf (s.take k)).length (rus (rlOf (s.take k)))) ∧ Hid (TurnIn 0 0 w wr)) (fun _ y _ => n - (intOf y).toNat)
    case atStart => exact ⟨0, Nat.zero_le _, rfl, HOW0, Lib.hid (TurnIn.refl _)⟩
    case round =>
      clear HOW0
      obtain ⟨k, hk, rfl, HBr, HK⟩ := hrel
      by_cases hlt : k < n
      · have hki : (k : Int) < (n : Int) := by omega
        have hwr := HK.out.size
        by_cases hz : k = 0
        · subst hz
          have hz0 : ((0 : Nat) : Int) = 0 := rfl
          have HE : Hid (rlOf (s.take (0 + 1)) = [] ++ [(s.getD 0 0, 1)]) := by show _ = _; rw [HNX.out 0 (by omega)]; rfl
          have g1 := HSG.out 0 (by omega)
          rw [rl_zero] at HBr
          generalize s.getD 0 0 = c at *
          have HO2 := Lib.hid (fun m => World.ownsRow.alloc (w := wr.drewN m) HBr.out (.cells #[.int .u8 (c.toNat : Int), .int .i64 0] 86))
          have KA := Lib.hid (fun m => turn_trans (turn_drewZ HK.out m) (turn_alloc (wr.drewN m) (.cells #[.int .u8 (c.toNat : Int), .int .i64 0] 86)) (by omega))
          clear HBr
          go_wp2_with fail
          go_quiet (fail)
          go_wp2_with (at_builtin; refine wpList_appendRu rfl _ _ _ rfl w.heap.size 86 _ _ Try.underlying44 infoRun rfl _ _ _ rfl (HO2.out _) _ c 0 rfl ?c0 ?c1 ?c2 ?c3 ?c4 ?_)
          case c0 => exact alloc_z0 (wr.drewN _) _ _ _
          case c1 => exact alloc_z1 (wr.drewN _) _ _ _
          case c2 => first | (simp; done) | omega
          case c3 => omega
          case c4 => simp; omega
          intro v' w3 hown3 hg3 _
          have hown3 : w3.ownsRow w.heap.size 86 2 v' ((([] : List Ru)).length + 1) (rus (([] : List Ru) ++ [(c, 0)])) := by simpa using hown3
          have K3 := Lib.hid (growTz (KA.out _) hg3 (fun g e => ((HO2.out 0).lt g e).1))
          have hw3 := K3.out.size
          obtain ⟨g, cp, rfl, hgb⟩ := row_some hown3
          have hst := row_last hown3 rfl 1
          have c1 := hst.2.1
          have f1 := hst.2.2.1
          have HO5 : Hid (World.ownsRow (w3.setCell ⟨g, (([] : List Ru)).length * 2 + 1, none⟩ (.int .i64 1)) w.heap.size 86 2 (.slice (some ⟨g, 0, none⟩) ((([] : List Ru)).length + 1) cp) (rlOf (s.take (0 + 1))).length (rus (rlOf (s.take (0 + 1))))) := by
            show World.ownsRow _ _ _ _ _ _ _
            rw [HE.out]; simpa using hst.2.2.2
          have K5 := Lib.hid (turn_set K3.out (i := (([] : List Ru)).length * 2 + 1) (.int .i64 1) hgb)
          simp only [List.length_nil] at *
          clear hown3 hg3 HO2 KA hst
          go_wp2_with fail
          go_roundw
          case rel => exact ⟨0 + 1, by omega, by go_num, HO5, K5⟩
          case measure => simp [intOf]; omega
        · obtain ⟨q, rfl⟩ : ∃ q, k = q + 1 := ⟨k - 1, by omega⟩
          have hz0 : ((q : Int) + 1 == 0) = false := by rw [beq_eq_false_iff_ne]; omega
          obtain ⟨Q, b, y, hQ, hbq, hy1, hy2, hQl⟩ := HSP.out q (by omega)
          have HE0 := Lib.hid (HNX.out (q + 1) hlt)
          have g1 := HSG.out (q + 1) (by omega)
          have g2 := HSG.out q (by omega)
          rw [hQ] at HBr HE0
          rw [← hbq] at g2
          generalize s.getD (q + 1) 0 = c at *
          clear hQ hbq
          by_cases hx : c = b
          · subst hx
            have hbb : ((c.toNat : Int) != (c.toNat : Int)) = false := bne_self_eq_false _
            have hbe : ((c.toNat : Int) == (c.toNat : Int)) = true := beq_self_eq_true _
            rw [List.length_append] at HBr
            obtain ⟨g, cp, rfl, hgb⟩ := row_some HBr.out
            have hst := row_last HBr.out rfl (y + 1)
            have c0 := hst.1
            have c1 := hst.2.1
            have f1 := hst.2.2.1
            have HO5 : Hid (∀ m, World.ownsRow ((wr.drewN m).setCell ⟨g, Q.length * 2 + 1, none⟩ (.int .i64 (y + 1))) w.heap.size 86 2 (.slice (some ⟨g, 0, none⟩) (Q.length + 1) cp) (rlOf (s.take (q + 1 + 1))).length (rus (rlOf (s.take (q + 1 + 1))))) := by
              show ∀ m, World.ownsRow _ _ _ _ _ _ _
              intro m
              rw [HE0.out, bump_same, List.length_append]; exact (row_last (w := wr.drewN m) HBr.out rfl (y + 1)).2.2.2
            have K5 := Lib.hid (fun m => turn_set (turn_drewZ HK.out m) (i := Q.length * 2 + 1) (.int .i64 (y + 1)) hgb)
            simp only [List.length_cons, List.length_nil] at *
            generalize Q.length = m at *
            clear HBr hst
            go_wp2_with fail
            go_quiet (fail)
            go_wp2_with fail
            go_roundw
            case rel => exact ⟨q + 1 + 1, by omega, by go_num, Lib.hid (HO5.out _), Lib.hid (K5.out _)⟩
            case measure => simp [intOf]; omega
          · have hbb : ((c.toNat : Int) != (b.toNat : Int)) = true := by rw [bne_iff_ne]; intro e; exact hx (UInt8.toNat_inj.1 (by omega))
            have hbe : ((b.toNat : Int) == (c.toNat : Int)) = false := by rw [beq_eq_false_iff_ne]; intro e; exact hx (UInt8.toNat_inj.1 (by omega))
            have HE : Hid (rlOf (s.take (q + 1 + 1)) = (Q ++ [(b, y)]) ++ [(c, 1)]) := by show _ = _; rw [HE0.out, bump_new Q y hx]
            have hQl2 : (Q ++ [(b, y)]).length ≤ q + 1 := by simp; omega
            clear hx HE0
            have HO2 := Lib.hid (fun m => World.ownsRow.alloc (w := wr.drewN m) HBr.out (.cells #[.int .u8 (c.toNat : Int), .int .i64 0] 86))
            have KA := Lib.hid (fun m => turn_trans (turn_drewZ HK.out m) (turn_alloc (wr.drewN m) (.cells #[.int .u8 (c.toNat : Int), .int .i64 0] 86)) (by omega))
            clear HBr
            go_wp2_with fail
            go_quiet (fail)
            go_wp2_with (at_builtin; refine wpList_appendRu rfl _ _ _ rfl w.heap.size 86 _ _ Try.underlying44 infoRun rfl _ _ _ rfl (HO2.out _) _ c 0 rfl ?c0 ?c1 ?c2 ?c3 ?c4 ?_)
            case c0 => exact alloc_z0 (wr.drewN _) _ _ _
            case c1 => exact alloc_z1 (wr.drewN _) _ _ _
            case c2 => first | (simp; done) | omega
            case c3 => omega
            case c4 => simp; omega
            intro v' w3 hown3 hg3 _
            have hown3 : w3.ownsRow w.heap.size 86 2 v' (((Q ++ [(b, y)])).length + 1) (rus ((Q ++ [(b, y)]) ++ [(c, 0)])) := by simpa using hown3
            have K3 := Lib.hid (growTz (KA.out _) hg3 (fun g e => ((HO2.out 0).lt g e).1))
            have hw3 := K3.out.size
            obtain ⟨g, cp, rfl, hgb⟩ := row_some hown3
            have hst := row_last hown3 rfl 1
            have c1 := hst.2.1
            have f1 := hst.2.2.1
            have HO5 : Hid (World.ownsRow (w3.setCell ⟨g, ((Q ++ [(b, y)])).length * 2 + 1, none⟩ (.int .i64 1)) w.heap.size 86 2 (.slice (some ⟨g, 0, none⟩) (((Q ++ [(b, y)])).length + 1) cp) (rlOf (s.take ((q + 1) + 1))).length (rus (rlOf (s.take ((q + 1) + 1))))) := by
              show World.ownsRow _ _ _ _ _ _ _
              rw [HE.out]; simpa using hst.2.2.2
            have K5 := Lib.hid (turn_set K3.out (i := ((Q ++ [(b, y)])).length * 2 + 1) (.int .i64 1) hgb)
            have hml : ((Q ++ [(b, y)])).length ≤ 200 := by omega
            generalize ((Q ++ [(b, y)])).length = m at *
            clear hown3 hg3 HO2 KA hst
            go_wp2_with fail
            go_roundw
            case rel => exact ⟨(q + 1) + 1, by omega, by go_num, HO5, K5⟩
            case measure => simp [intOf]; omega
      · obtain rfl : k = n := by omega
        have hki : ¬ (k : Int) < (k : Int) := by omega
        rw [HTA.out] at HBr
        go_wp2_with fail
        go_ret2
        exact ⟨_, rfl, ⟨HBr.out, Nat.le_refl _, fun g e => (HBr.out.lt g e).2⟩, HK.out⟩
  · have HB : Hid (mvdB s.length = false) := by show _ = _; simp [mvdB]; omega
    have HO : Hid (mvdOk s = false) := HB.out
    have HR := Lib.hid (rnsR_no HO.out)
    rw [HR.out, HO.out]
    generalize s.length = n at *
    go_enter Try.func37, Try.ntmps37
    go_wp2_with fail
    refine (HG.out _).mono ?_
    rintro e w' ⟨rfl, rfl⟩
    rw [HB.out]
    go_wp2_with fail
    go_ret2
    exact ⟨_, rfl, OwnRu.nil _ _ _, TurnIn.refl _⟩

set_option maxRecDepth 100000 in
set_option maxHeartbeats 4000000 in
theorem sRunsOf_own (s : List UInt8) (w : World) (hs : s.length ≤ 1000000000000) : Calls Try.prog 38 #[.string (str s)] w (RetRusOk 86 w (rnsR s) (mvdOk s)) := by
  have hsz : (str s).size = s.length := str_size s
  by_cases h : s.length ≤ 200
  · have HB : Hid (mvdB s.length = true) := by show _ = _; simp [mvdB, h]
    have HO : Hid (mvdOk s = true) := HB.out
    have HR := Lib.hid (rnsR_yes HO.out)
    rw [HR.out, HO.out]
    have HSG := Lib.hid (fun k h => str_get s k h)
    have HSP := Lib.hid (fun q h => @rl_split s q h)
    have HNX := Lib.hid (fun k h => @rl_next s k h)
    have HTA : Hid (rlOf (s.take s.length) = rlOf s) := by show _ = _; rw [List.take_length]
    have HOW0 : Hid (w.ownsRow w.heap.size 86 2 (.slice none 0 0) (rlOf (s.take 0)).length (rus (rlOf (s.take 0)))) := by
      show World.ownsRow _ _ _ _ _ _ _
      exact World.ownsRow_nil _ _ _ _
    generalize s.length = n at *
    go_enter Try.func38, Try.ntmps38
    go_wp2_with fail
    go_loopw [4, 5] (fun v y wr => ∃ k : Nat, k ≤ n ∧ y = .int .i64 k ∧ Hid (wr.ownsRow w.heap.size 86 2 v (rlOf (s.take k)).length (rus (rlOf (s.take k)))) ∧ Hid (TurnIn 0 0 w wr)) (fun _ y _ => n - (intOf y).toNat)
    case atStart => exact ⟨0, Nat.zero_le _, rfl, HOW0, Lib.hid (TurnIn.refl _)⟩
    case round =>
      clear HOW0
      obtain ⟨k, hk, rfl, HBr, HK⟩ := hrel
      by_cases hlt : k < n
      · have hki : (k : Int) < (n : Int) := by omega
        have hwr := HK.out.size
        by_cases hz : k = 0
        · subst hz
          have hz0 : ((0 : Nat) : Int) = 0 := rfl
          have HE : Hid (rlOf (s.take (0 + 1)) = [] ++ [(s.getD 0 0, 1)]) := by show _ = _; rw [HNX.out 0 (by omega)]; rfl
          have g1 := HSG.out 0 (by omega)
          rw [rl_zero] at HBr
          generalize s.getD 0 0 = c at *
          rcases HBr.out.2 with ⟨rfl, _⟩ | ⟨g0, cap0, cur0, rfl, _⟩
          · have HO2 := Lib.hid (fun m => World.ownsRow.alloc (w := wr.drewN m) HBr.out (.cells #[.int .u8 (c.toNat : Int), .int .i64 1] 86))
            have KA := Lib.hid (fun m => turn_trans (turn_drewZ HK.out m) (turn_alloc (wr.drewN m) (.cells #[.int .u8 (c.toNat : Int), .int .i64 1] 86)) (by omega))
            clear HBr
            go_wp2_with fail
            go_quiet (fail)
            go_wp2_with (at_builtin; refine wpList_appendRu rfl _ _ _ rfl w.heap.size 86 _ _ Try.underlying44 infoRun rfl _ _ _ rfl (HO2.out _) _ c 1 rfl ?c0 ?c1 ?c2 ?c3 ?c4 ?_)
            case c0 => exact alloc_z0 (wr.drewN _) _ _ _
            case c1 => exact alloc_z1 (wr.drewN _) _ _ _
            case c2 => first | (simp; done) | omega
            case c3 => omega
            case c4 => simp; omega
            intro v' w3 hown3 hg3 _
            have hown3 : w3.ownsRow w.heap.size 86 2 v' ((([] : List Ru)).length + 1) (rus (([] : List Ru) ++ [(c, 1)])) := by simpa using hown3
            have K3 := Lib.hid (growTz (KA.out _) hg3 (fun g e => ((HO2.out 0).lt g e).1))
            have hw3 := K3.out.size
            have HO5 : Hid (w3.ownsRow w.heap.size 86 2 v' (rlOf (s.take (0 + 1))).length (rus (rlOf (s.take (0 + 1))))) := by
              show World.ownsRow _ _ _ _ _ _ _
              rw [HE.out, List.length_append]; exact hown3
            clear hown3 hg3 HO2 KA
            go_wp2_with fail
            go_roundw
            case rel => exact ⟨0 + 1, by omega, by go_num, HO5, K3⟩
            case measure => simp [intOf]; omega
          · have HO2 := Lib.hid (fun m => World.ownsRow.alloc (w := wr.drewN m) HBr.out (.cells #[.int .u8 (c.toNat : Int), .int .i64 1] 86))
            have KA := Lib.hid (fun m => turn_trans (turn_drewZ HK.out m) (turn_alloc (wr.drewN m) (.cells #[.int .u8 (c.toNat : Int), .int .i64 1] 86)) (by omega))
            clear HBr
            go_wp2_with fail
            go_quiet (fail)
            go_wp2_with (at_builtin; refine wpList_appendRu rfl _ _ _ rfl w.heap.size 86 _ _ Try.underlying44 infoRun rfl _ _ _ rfl (HO2.out _) _ c 1 rfl ?c0 ?c1 ?c2 ?c3 ?c4 ?_)
            case c0 => exact alloc_z0 (wr.drewN _) _ _ _
            case c1 => exact alloc_z1 (wr.drewN _) _ _ _
            case c2 => first | (simp; done) | omega
            case c3 => omega
            case c4 => simp; omega
            intro v' w3 hown3 hg3 _
            have hown3 : w3.ownsRow w.heap.size 86 2 v' ((([] : List Ru)).length + 1) (rus (([] : List Ru) ++ [(c, 1)])) := by simpa using hown3
            have K3 := Lib.hid (growTz (KA.out _) hg3 (fun g e => ((HO2.out 0).lt g e).1))
            have hw3 := K3.out.size
            have HO5 : Hid (w3.ownsRow w.heap.size 86 2 v' (rlOf (s.take (0 + 1))).length (rus (rlOf (s.take (0 + 1))))) := by
              show World.ownsRow _ _ _ _ _ _ _
              rw [HE.out, List.length_append]; exact hown3
            clear hown3 hg3 HO2 KA
            go_wp2_with fail
            go_roundw
            case rel => exact ⟨0 + 1, by omega, by go_num, HO5, K3⟩
            case measure => simp [intOf]; omega
        · obtain ⟨q, rfl⟩ : ∃ q, k = q + 1 := ⟨k - 1, by omega⟩
          have hz0 : ((q : Int) + 1 == 0) = false := by rw [beq_eq_false_iff_ne]; omega
          obtain ⟨Q, b, y, hQ, hbq, hy1, hy2, hQl⟩ := HSP.out q (by omega)
          have HE0 := Lib.hid (HNX.out (q + 1) hlt)
          have g1 := HSG.out (q + 1) (by omega)
          have g2 := HSG.out q (by omega)
          rw [hQ] at HBr HE0
          rw [← hbq] at g2
          generalize s.getD (q + 1) 0 = c at *
          clear hQ hbq
          by_cases hx : c = b
          · subst hx
            have hbb : ((c.toNat : Int) != (c.toNat : Int)) = false := bne_self_eq_false _
            have hbe : ((c.toNat : Int) == (c.toNat : Int)) = true := beq_self_eq_true _
            rw [List.length_append] at HBr
            obtain ⟨g, cp, rfl, hgb⟩ := row_some HBr.out
            have hst := row_last HBr.out rfl (y + 1)
            have c0 := hst.1
            have c1 := hst.2.1
            have f1 := hst.2.2.1
            have HO5 : Hid (∀ m, World.ownsRow ((wr.drewN m).setCell ⟨g, Q.length * 2 + 1, none⟩ (.int .i64 (y + 1))) w.heap.size 86 2 (.slice (some ⟨g, 0, none⟩) (Q.length + 1) cp) (rlOf (s.take (q + 1 + 1))).length (rus (rlOf (s.take (q + 1 + 1))))) := by
              show ∀ m, World.ownsRow _ _ _ _ _ _ _
              intro m
              rw [HE0.out, bump_same, List.length_append]; exact (row_last (w := wr.drewN m) HBr.out rfl (y + 1)).2.2.2
            have K5 := Lib.hid (fun m => turn_set (turn_drewZ HK.out m) (i := Q.length * 2 + 1) (.int .i64 (y + 1)) hgb)
            simp only [List.length_cons, List.length_nil] at *
            generalize Q.length = m at *
            clear HBr hst
            go_wp2_with fail
            go_quiet (fail)
            go_wp2_with fail
            go_roundw
            case rel => exact ⟨q + 1 + 1, by omega, by go_num, Lib.hid (HO5.out _), Lib.hid (K5.out _)⟩
            case measure => simp [intOf]; omega
          · have hbb : ((c.toNat : Int) != (b.toNat : Int)) = true := by rw [bne_iff_ne]; intro e; exact hx (UInt8.toNat_inj.1 (by omega))
            have hbe : ((b.toNat : Int) == (c.toNat : Int)) = false := by rw [beq_eq_false_iff_ne]; intro e; exact hx (UInt8.toNat_inj.1 (by omega))
            have HE : Hid (rlOf (s.take (q + 1 + 1)) = (Q ++ [(b, y)]) ++ [(c, 1)]) := by show _ = _; rw [HE0.out, bump_new Q y hx]
            have hQl2 : (Q ++ [(b, y)]).length ≤ q + 1 := by simp; omega
            clear hx HE0
            obtain ⟨g0, cp0, rfl, hgb0⟩ := row_some (n := Q.length) (by have := HBr.out; rwa [List.length_append] at this)
            have hst0 := row_last (by have := HBr.out; rwa [List.length_append] at this) rfl 0
            have b0 := hst0.1
            clear hst0
            have HO2 := Lib.hid (fun m => World.ownsRow.alloc (w := wr.drewN m) HBr.out (.cells #[.int .u8 (c.toNat : Int), .int .i64 1] 86))
            have KA := Lib.hid (fun m => turn_trans (turn_drewZ HK.out m) (turn_alloc (wr.drewN m) (.cells #[.int .u8 (c.toNat : Int), .int .i64 1] 86)) (by omega))
            clear HBr
            go_wp2_with fail
            go_quiet (fail)
            go_wp2_with (at_builtin; refine wpList_appendRu rfl _ _ _ rfl w.heap.size 86 _ _ Try.underlying44 infoRun rfl _ _ _ rfl (HO2.out _) _ c 1 rfl ?c0 ?c1 ?c2 ?c3 ?c4 ?_)
            case c0 => exact alloc_z0 (wr.drewN _) _ _ _
            case c1 => exact alloc_z1 (wr.drewN _) _ _ _
            case c2 => first | (simp; done) | omega
            case c3 => omega
            case c4 => simp; omega
            intro v' w3 hown3 hg3 _
            have hown3 : w3.ownsRow w.heap.size 86 2 v' (((Q ++ [(b, y)])).length + 1) (rus ((Q ++ [(b, y)]) ++ [(c, 1)])) := by simpa using hown3
            have K3 := Lib.hid (growTz (KA.out _) hg3 (fun g e => ((HO2.out 0).lt g e).1))
            have hw3 := K3.out.size
            have HO5 : Hid (w3.ownsRow w.heap.size 86 2 v' (rlOf (s.take ((q + 1) + 1))).length (rus (rlOf (s.take ((q + 1) + 1))))) := by
              show World.ownsRow _ _ _ _ _ _ _
              rw [HE.out, List.length_append]; exact hown3
            clear hown3 hg3 HO2 KA
            go_wp2_with fail
            go_roundw
            case rel => exact ⟨(q + 1) + 1, by omega, by go_num, HO5, K3⟩
            case measure => simp [intOf]; omega
      · obtain rfl : k = n := by omega
        have hki : ¬ (k : Int) < (k : Int) := by omega
        rw [HTA.out] at HBr
        go_wp2_with fail
        go_ret2
        exact ⟨_, rfl, ⟨HBr.out, Nat.le_refl _, fun g e => (HBr.out.lt g e).2⟩, HK.out⟩
  · have HB : Hid (mvdB s.length = false) := by show _ = _; simp [mvdB]; omega
    have HO : Hid (mvdOk s = false) := HB.out
    have HR := Lib.hid (rnsR_no HO.out)
    rw [HR.out, HO.out]
    generalize s.length = n at *
    go_enter Try.func38, Try.ntmps38
    go_wp2_with fail
    go_ret2
    exact ⟨_, rfl, OwnRu.nil _ _ _, TurnIn.refl _⟩

end Go.Proofs.Ytdbgkpmdimapdaa

/- Chapter 12: valid runs, the program's and the model's. -/
namespace G294
open Go Go.RowKit Go.Proofs.Ytdbgkpmdimapdaa
theorem ok_at {l : List Ru} {k : Nat} {no : UInt8} {y : Int} (h : l[k]? = some (no, y)) : okRu l k = true ↔ 1 ≤ y ∧ sumRs (l.take k) + y ≤ 200 ∧ (0 < k → no ≠ (l.getD (k - 1) (0, 0)).1) := by
  obtain ⟨hk, e⟩ := List.getElem?_eq_some_iff.1 h
  rw [okRu_iff hk, e]
theorem sum_at {l : List Ru} {k : Nat} {no : UInt8} {y : Int} (h : l[k]? = some (no, y)) : sumRs (l.take (k + 1)) = sumRs (l.take k) + y := by
  obtain ⟨hk, e⟩ := List.getElem?_eq_some_iff.1 h
  rw [sumRs_take hk, e]
theorem okTake_sum {l : List Ru} : ∀ k, k ≤ l.length → (∀ i, i < k → okRu l i = true) → 0 ≤ sumRs (l.take k) ∧ sumRs (l.take k) ≤ 200
  | 0, _, _ => by simp [sumRs]
  | k + 1, h, ho => by
    have ih := okTake_sum k (by omega) fun i hi => ho i (by omega)
    have hk : k < l.length := by omega
    have o := (okRu_iff hk).1 (ho k (by omega))
    rw [sumRs_take hk]
    omega
theorem ok_all {l : List Ru} {n : Nat} (hn : l.length = n) (h : ∀ i, i < n → okRu l i = true) : goodRs l = true := (goodRs_iff l).2 (by rw [hn]; exact h)
theorem ok_step {l : List Ru} {k : Nat} (h : ∀ i, i < k → okRu l i = true) (hk : okRu l k = true) : ∀ i, i < k + 1 → okRu l i = true := fun i hi => by
  rcases Nat.lt_or_ge i k with h' | h'
  · exact h i h'
  · obtain rfl : i = k := by omega
    exact hk
theorem ok_bad {l : List Ru} {k : Nat} {no : UInt8} {y : Int} (h : l[k]? = some (no, y)) (hb : ¬ (1 ≤ y ∧ sumRs (l.take k) + y ≤ 200 ∧ (0 < k → no ≠ (l.getD (k - 1) (0, 0)).1))) : goodRs l = false := by
  obtain ⟨hk, _⟩ := List.getElem?_eq_some_iff.1 h
  refine goodRs_no hk ?_
  cases e : okRu l k with
  | false => rfl
  | true => exact absurd ((ok_at h).1 e) hb
/-- the run before -/
theorem at_before {l : List Ru} {j : Nat} (h : j < l.length) : ∃ p, l[j]? = some p ∧ (l.getD (j + 1 - 1) (0, 0)).1 = p.1 :=
  ⟨l[j], List.getElem?_eq_getElem h, by rw [Nat.add_sub_cancel, List.getD_eq_getElem?_getD, List.getElem?_eq_getElem h]; rfl⟩
theorem byte_eqI {a b : UInt8} : ((a.toNat : Int) == (b.toNat : Int)) = decide (a = b) := by
  by_cases h : a = b
  · subst h; simp
  · rw [decide_eq_false h, beq_eq_false_iff_ne]
    intro e
    exact h (UInt8.toNat_inj.1 (by omega))
end G294
namespace Go.Proofs.Ytdbgkpmdimapdaa
open Go.RowKit G294

set_option maxRecDepth 100000 in
set_option maxHeartbeats 4000000 in
theorem goodRuns_own (v : Value) (l : List Ru) (w : World) (hv : SeenRu w v l) : Calls Try.prog 43 #[v] w (RetBool w (goodRs l)) := by
  obtain ⟨A, c, rfl, hlc, hcm, hx⟩ := hv
  unfold maxLen at hcm
  have HSUM := Lib.hid (fun k h1 h2 => @okTake_sum l k h1 h2)
  have HBAD := Lib.hid (fun k no y h hb => @ok_bad l k no y h hb)
  have HZ : Hid (sumRs (l.take 0) = 0) := Lib.hid rfl
  generalize hnn : l.length = n at *
  have HN := Lib.hid hnn
  have HALL := Lib.hid (fun h => @ok_all l n hnn h)
  clear hnn
  go_enter Try.func43, Try.ntmps43
  go_wp2_with fail
  go_loopw [3, 8] (fun q i wr => ∃ k : Nat, k ≤ n ∧ i = .int .i64 k ∧ q = .int .i64 (200 - sumRs (l.take k)) ∧ Hid (∀ i, i < k → okRu l i = true) ∧ Below w.heap.size w wr)
    (fun _ i _ => n - (intOf i).toNat)
  case atStart => exact ⟨0, Nat.zero_le _, rfl, by rw [HZ.out]; rfl, (fun _ h => by omega), Below.refl _ _⟩
  case round =>
    obtain ⟨k, hk, rfl, rfl, HE, hb⟩ := hrel
    by_cases hlt : k < n
    · obtain ⟨b, off, rfl, hbl, hcell⟩ := hx (by omega)
      obtain ⟨⟨no, y⟩, hks⟩ := at_ltRu HN.out hlt
      have HOK := Lib.hid (@ok_at l k no y hks)
      have HSA := Lib.hid (@sum_at l k no y hks)
      have HB := Lib.hid (HBAD.out k no y hks)
      have hs := HSUM.out k hk HE.out
      have hc1 := (hb.cell (p := ⟨b, off + k * 2, none⟩) hbl).trans (hcell k _ hks).1
      have hc2 := (hb.cell (p := ⟨b, off + k * 2 + 1, none⟩) hbl).trans (hcell k _ hks).2
      simp only at hc1 hc2
      have hki : (k : Int) < (n : Int) := by omega
      have hbs := hb.size
      have hb2 := hb.alloc hbs (.cells #[.int .u8 (no.toNat : Int), .int .i64 y] 86)
      have HX := Lib.hid hcell
      clear hcell hx hks
      generalize sumRs (l.take k) = x at *
      by_cases h1 : y < 1
      · have d1 : decide (y < 1) = true := decide_eq_true h1
        have HF := Lib.hid (HB.out fun h => by omega)
        go_wp2_with fail
        go_quiet (fail)
        go_wp2_with fail
        go_ret
        exact ⟨by rw [HF.out]; rfl, TurnIn.of_below (below_drewN hb2 _)⟩
      · have d1 : decide (y < 1) = false := decide_eq_false h1
        by_cases h2 : 200 - x < y
        · have d2 : decide (200 - x < y) = true := decide_eq_true h2
          have HF := Lib.hid (HB.out fun h => by omega)
          go_wp2_with fail
          go_quiet (fail)
          go_wp2_with fail
          go_ret
          exact ⟨by rw [HF.out]; rfl, TurnIn.of_below (below_drewN hb2 _)⟩
        · have d2 : decide (200 - x < y) = false := decide_eq_false h2
          have hq : 200 - (x + y) = 200 - x - y := by omega
          by_cases hk0 : k = 0
          · subst hk0
            have d3 : decide ((0 : Int) < ((0 : Nat) : Int)) = false := by simp
            simp only [Nat.zero_mul, Nat.add_zero] at hc1 hc2
            have HE2 := Lib.hid (ok_step HE.out (HOK.out.2 ⟨by omega, by omega, fun h => absurd h (by omega)⟩))
            go_wp2_with fail
            go_quiet (fail)
            go_wp2_with fail
            go_roundw
            case rel => exact ⟨0 + 1, by omega, by go_num, by rw [HSA.out, hq], HE2, below_drewN hb2 _⟩
            case measure => simp [intOf]; omega
          · obtain ⟨j, rfl⟩ : ∃ j, k = j + 1 := ⟨k - 1, by omega⟩
            have d3 : decide ((0 : Int) < ((j + 1 : Nat) : Int)) = true := by simp
            obtain ⟨⟨pb, py⟩, hpj, hpe⟩ := at_before (l := l) (j := j) (by have := HN.out; omega)
            have HPE := Lib.hid hpe
            have hc3 := ((hb.alloc hbs (.cells #[.int .u8 (no.toNat : Int), .int .i64 y] 86)).cell (p := ⟨b, off + j * 2, none⟩) hbl).trans (HX.out j _ hpj).1
            simp only at hc3
            have HPJ := Lib.hid hpj
            clear hpj hpe
            by_cases hpb : no = pb
            · have d4 : ((no.toNat : Int) == (pb.toNat : Int)) = true := by rw [byte_eqI]; exact decide_eq_true hpb
              have HF := Lib.hid (HB.out fun h => h.2.2 (by omega) (by rw [HPE.out]; exact hpb))
              clear hpb
              go_wp2_with fail
              go_quiet (fail)
              go_wp2_with fail
              go_ret
              exact ⟨by rw [HF.out]; rfl, TurnIn.of_below (below_drewN hb2 _)⟩
            · have d4 : ((no.toNat : Int) == (pb.toNat : Int)) = false := by rw [byte_eqI]; exact decide_eq_false hpb
              have HE2 := Lib.hid (ok_step HE.out (HOK.out.2 ⟨by omega, by omega, fun h => by rw [HPE.out]; exact hpb⟩))
              clear hpb
              go_wp2_with fail
              go_quiet (fail)
              go_wp2_with fail
              go_roundw
              case rel => exact ⟨j + 1 + 1, by omega, by go_num, by rw [HSA.out, hq], HE2, below_drewN hb2 _⟩
              case measure => simp [intOf]; omega
    · obtain rfl : k = n := by omega
      have hki : ¬ (k : Int) < (k : Int) := by omega
      have HF := Lib.hid (HALL.out HE.out)
      go_wp2_with fail
      go_ret
      exact ⟨by rw [HF.out]; rfl, TurnIn.of_below hb⟩

set_option maxRecDepth 100000 in
set_option maxHeartbeats 4000000 in
theorem sGoodRuns_own (v : Value) (l : List Ru) (w : World) (hv : SeenRu w v l) : Calls Try.prog 56 #[v] w (RetBool w (goodRs l)) := by
  obtain ⟨A, c, rfl, hlc, hcm, hx⟩ := hv
  unfold maxLen at hcm
  have HSUM := Lib.hid (fun k h1 h2 => @okTake_sum l k h1 h2)
  have HBAD := Lib.hid (fun k no y h hb => @ok_bad l k no y h hb)
  have HZ : Hid (sumRs (l.take 0) = 0) := Lib.hid rfl
  generalize hnn : l.length = n at *
  have HN := Lib.hid hnn
  have HALL := Lib.hid (fun h => @ok_all l n hnn h)
  clear hnn
  go_enter Try.func56, Try.ntmps56
  go_wp2_with fail
  go_loopw [3, 8] (fun q i wr => ∃ k : Nat, k ≤ n ∧ i = .int .i64 k ∧ q = .int .i64 (sumRs (l.take k)) ∧ Hid (∀ i, i < k → okRu l i = true) ∧ Below w.heap.size w wr)
    (fun _ i _ => n - (intOf i).toNat)
  case atStart => exact ⟨0, Nat.zero_le _, rfl, by rw [HZ.out], (fun _ h => by omega), Below.refl _ _⟩
  case round =>
    obtain ⟨k, hk, rfl, rfl, HE, hb⟩ := hrel
    by_cases hlt : k < n
    · obtain ⟨b, off, rfl, hbl, hcell⟩ := hx (by omega)
      obtain ⟨⟨no, y⟩, hks⟩ := at_ltRu HN.out hlt
      have HOK := Lib.hid (@ok_at l k no y hks)
      have HSA := Lib.hid (@sum_at l k no y hks)
      have HB := Lib.hid (HBAD.out k no y hks)
      have hs := HSUM.out k hk HE.out
      have hc1 := (hb.cell (p := ⟨b, off + k * 2, none⟩) hbl).trans (hcell k _ hks).1
      have hc2 := (hb.cell (p := ⟨b, off + k * 2 + 1, none⟩) hbl).trans (hcell k _ hks).2
      simp only at hc1 hc2
      have hki : (k : Int) < (n : Int) := by omega
      have hbs := hb.size
      have hb2 := hb.alloc hbs (.cells #[.int .u8 (no.toNat : Int), .int .i64 y] 86)
      have HX := Lib.hid hcell
      clear hcell hx hks
      generalize sumRs (l.take k) = x at *
      by_cases h1 : inB y 1 200 = true
      · have hy := inB_iff h1
        have HI : Hid (∀ W, Calls Try.prog 69 #[.int .i64 y, .int .i64 1, .int .i64 200] W fun e w' => e = .returned (.bool true) ∧ W = w') := Lib.hid (fun W => h1 ▸ l1In_any y 1 200 W)
        by_cases h2 : 200 < x + y
        · have d2 : decide (200 < x + y) = true := decide_eq_true h2
          have HF := Lib.hid (HB.out fun h => by omega)
          by_cases hk0 : k = 0
          · subst hk0
            have d3 : decide ((0 : Int) < ((0 : Nat) : Int)) = false := by simp
            simp only [Nat.zero_mul, Nat.add_zero] at hc1 hc2
            go_wp2_with fail
            go_quiet ((go_at_call 69; exact quietly (HI.out _)))
            go_wp2_with fail
            go_ret
            exact ⟨by rw [HF.out]; rfl, TurnIn.of_below (below_drewN hb2 _)⟩
          · obtain ⟨j, rfl⟩ : ∃ j, k = j + 1 := ⟨k - 1, by omega⟩
            have d3 : decide ((0 : Int) < ((j + 1 : Nat) : Int)) = true := by simp
            obtain ⟨⟨pb, py⟩, hpj, hpe⟩ := at_before (l := l) (j := j) (by have := HN.out; omega)
            have hc3 := ((hb.alloc hbs (.cells #[.int .u8 (no.toNat : Int), .int .i64 y] 86)).cell (p := ⟨b, off + j * 2, none⟩) hbl).trans (HX.out j _ hpj).1
            simp only at hc3
            clear hpj hpe
            by_cases hpb : pb = no
            · have d4 : ((pb.toNat : Int) == (no.toNat : Int)) = true := by rw [byte_eqI]; exact decide_eq_true hpb
              clear hpb
              go_wp2_with fail
              go_quiet ((go_at_call 69; exact quietly (HI.out _)))
              go_wp2_with fail
              go_ret
              exact ⟨by rw [HF.out]; rfl, TurnIn.of_below (below_drewN hb2 _)⟩
            · have d4 : ((pb.toNat : Int) == (no.toNat : Int)) = false := by rw [byte_eqI]; exact decide_eq_false hpb
              clear hpb
              go_wp2_with fail
              go_quiet ((go_at_call 69; exact quietly (HI.out _)))
              go_wp2_with fail
              go_ret
              exact ⟨by rw [HF.out]; rfl, TurnIn.of_below (below_drewN hb2 _)⟩
        · have d2 : decide (200 < x + y) = false := decide_eq_false h2
          by_cases hk0 : k = 0
          · subst hk0
            have d3 : decide ((0 : Int) < ((0 : Nat) : Int)) = false := by simp
            simp only [Nat.zero_mul, Nat.add_zero] at hc1 hc2
            have HE2 := Lib.hid (ok_step HE.out (HOK.out.2 ⟨by omega, by omega, fun h => absurd h (by omega)⟩))
            go_wp2_with fail
            go_quiet ((go_at_call 69; exact quietly (HI.out _)))
            go_wp2_with fail
            go_roundw
            case rel => exact ⟨0 + 1, by omega, by go_num, by rw [HSA.out], HE2, below_drewN hb2 _⟩
            case measure => simp [intOf]; omega
          · obtain ⟨j, rfl⟩ : ∃ j, k = j + 1 := ⟨k - 1, by omega⟩
            have d3 : decide ((0 : Int) < ((j + 1 : Nat) : Int)) = true := by simp
            obtain ⟨⟨pb, py⟩, hpj, hpe⟩ := at_before (l := l) (j := j) (by have := HN.out; omega)
            have HPE := Lib.hid hpe
            have hc3 := ((hb.alloc hbs (.cells #[.int .u8 (no.toNat : Int), .int .i64 y] 86)).cell (p := ⟨b, off + j * 2, none⟩) hbl).trans (HX.out j _ hpj).1
            simp only at hc3
            clear hpj hpe
            by_cases hpb : no = pb
            · have d4 : ((pb.toNat : Int) == (no.toNat : Int)) = true := by rw [byte_eqI]; exact decide_eq_true hpb.symm
              have HF := Lib.hid (HB.out fun h => h.2.2 (by omega) (by rw [HPE.out]; exact hpb))
              clear hpb
              go_wp2_with fail
              go_quiet ((go_at_call 69; exact quietly (HI.out _)))
              go_wp2_with fail
              go_ret
              exact ⟨by rw [HF.out]; rfl, TurnIn.of_below (below_drewN hb2 _)⟩
            · have d4 : ((pb.toNat : Int) == (no.toNat : Int)) = false := by rw [byte_eqI]; exact decide_eq_false fun e => hpb e.symm
              have HE2 := Lib.hid (ok_step HE.out (HOK.out.2 ⟨by omega, by omega, fun h => by rw [HPE.out]; exact hpb⟩))
              clear hpb
              go_wp2_with fail
              go_quiet ((go_at_call 69; exact quietly (HI.out _)))
              go_wp2_with fail
              go_roundw
              case rel => exact ⟨j + 1 + 1, by omega, by go_num, by rw [HSA.out], HE2, below_drewN hb2 _⟩
              case measure => simp [intOf]; omega
      · have h1 : inB y 1 200 = false := by simpa using h1
        have hy := inB_not h1
        have HI : Hid (∀ W, Calls Try.prog 69 #[.int .i64 y, .int .i64 1, .int .i64 200] W fun e w' => e = .returned (.bool false) ∧ W = w') := Lib.hid (fun W => h1 ▸ l1In_any y 1 200 W)
        have HF := Lib.hid (HB.out fun h => by omega)
        go_wp2_with fail
        go_quiet ((go_at_call 69; exact quietly (HI.out _)))
        go_wp2_with fail
        go_ret
        exact ⟨by rw [HF.out]; rfl, TurnIn.of_below (below_drewN hb2 _)⟩
    · obtain rfl : k = n := by omega
      have hki : ¬ (k : Int) < (k : Int) := by omega
      have HF := Lib.hid (HALL.out HE.out)
      go_wp2_with fail
      go_ret
      exact ⟨by rw [HF.out]; rfl, TurnIn.of_below hb⟩

end Go.Proofs.Ytdbgkpmdimapdaa

/- Elimination's mathematics: a full rank leaves the identity, the inverse on the left, kernels; Cauchy's matrix has no kernel. -/
namespace G294
theorem g_cancel {a b : UInt8} (ha : a ≠ 0) (h : gmul a b = 0) : b = 0 := by
  have := congrArg (gmul (ginv a)) h
  rwa [← gmul_assoc, ginv_gmul ha, one_gmul, gmul_zero] at this
theorem g_ne {a b : UInt8} (ha : a ≠ 0) (hb : b ≠ 0) : gmul a b ≠ 0 := fun h => hb (g_cancel ha h)
theorem ginv_ne {a : UInt8} (ha : a ≠ 0) : ginv a ≠ 0 := fun h => by
  have := gmul_ginv ha
  rw [h, gmul_zero] at this
  exact absurd this (by decide)
theorem x_self (a : UInt8) : a ^^^ a = 0 := by simp
theorem x_eq {a b : UInt8} (h : a ^^^ b = 0) : a = b := by
  have := congrArg (· ^^^ b) h
  simpa [UInt8.xor_assoc] using this
theorem x_ne {a b : UInt8} (h : a ≠ b) : a ^^^ b ≠ 0 := fun e => h (x_eq e)
/-- full rank at column k: the first k columns are those of the identity -/
theorem est_unit {F : Ents} {r : Nat} : ∀ k, (est F r k).2 = k → ∀ j, j < k → ∀ i, i < r → (est F r k).1 i j = idF i j := by
  intro k
  induction k with
  | zero => intro _ j hj; omega
  | succ k ih =>
    intro hk j hj i hi
    have hle := est_le F r k
    rcases piv_cases (est F r k).1 r (est F r k).2 k with ⟨e, _⟩ | ⟨p, e, h1, h2, h3, _⟩
    · rw [est_none e] at hk; omega
    · rw [est_some e] at hk ⊢
      simp only at hk ⊢
      have hk' : (est F r k).2 = k := by omega
      have ih := ih hk'
      rw [hk'] at h1 ⊢
      have hkr : k < r := by omega
      unfold opF opAt clF scF swF
      simp only
      have s1 : sw k p k = p := by simp [sw]
      by_cases hjk : j = k
      · subst hjk
        by_cases hij : i = j
        · subst hij
          simp only [if_true, s1, idF, ginv_gmul h3]
        · simp only [hij, if_false, if_true, s1, idF, ginv_gmul h3, gmul_one, x_self]
      · have hj' : j < k := by omega
        have z1 : (est F r k).1 p j = 0 := by rw [ih j hj' p (by omega)]; simp [idF, show ¬ p = j by omega]
        by_cases hik : i = k
        · subst hik
          simp only [if_true, s1, z1, gmul_zero, idF, show ¬ i = j by omega, if_false]
        · simp only [hik, if_false, if_true, s1, z1, gmul_zero, UInt8.xor_zero]
          have hsw : sw k p i < r := sw_lt hkr h2 hi
          rw [ih j hj' _ hsw]
          unfold idF sw
          rw [if_neg hik]
          by_cases hip : i = p
          · subst hip; simp [show ¬ k = j by omega, show ¬ i = j by omega]
          · simp [hip]
/-- the inverse on the left -/
theorem inv_left {F : Ents} {k : Nat} (h : (est F k k).2 = k) {i j : Nat} (hi : i < k) (hj : j < k) : sumK k (fun l => gmul (bst F idF k k i l) (F l j)) = idF i j := by
  rw [← bst_lin F F k k i j hi, bst_self]
  exact est_unit k h j hj i hi
/-- an operation takes no kernel away and adds none -/
def kerAt (F : Ents) (r c : Nat) (v : Nat → UInt8) : Prop := ∀ i, i < r → sumK c (fun j => gmul (F i j) (v j)) = 0
theorem op_ker {o : Op} {F : Ents} {r c : Nat} {v : Nat → UInt8} (ha : o.a < r) (hp : o.p < r) (hs : o.s ≠ 0) (h : kerAt (opF o F) r c v) : kerAt F r c v := by
  have row : ∀ i, i < r → sumK c (fun j => gmul (F (sw o.a o.p i) j) (v j)) = 0 := by
    have ra : sumK c (fun j => gmul (F (sw o.a o.p o.a) j) (v j)) = 0 := by
      have := h o.a ha
      have e : (fun j => gmul (opF o F o.a j) (v j)) = fun j => gmul o.s (gmul (F (sw o.a o.p o.a) j) (v j)) := by
        funext j; simp [opF, clF, scF, swF, gmul_assoc]
      rw [e, sumK_mul] at this
      exact g_cancel hs this
    intro i hi
    by_cases hia : i = o.a
    · rw [hia]; exact ra
    · have := h i hi
      have e : (fun j => gmul (opF o F i j) (v j)) = fun j => gmul (F (sw o.a o.p i) j) (v j) ^^^ gmul (gmul (o.fs i) o.s) (gmul (F (sw o.a o.p o.a) j) (v j)) := by
        funext j; simp [opF, clF, scF, swF, hia, gmul_assoc, xor_gmul]
      rw [e, sumK_xor, sumK_mul, ra, gmul_zero, UInt8.xor_zero] at this
      exact this
  intro i hi
  have e : sw o.a o.p (sw o.a o.p i) = i := by
    unfold sw
    by_cases h1 : i = o.a
    · by_cases h2 : o.p = o.a <;> simp [h1, h2]
    · by_cases h2 : i = o.p
      · simp [h2]
      · simp [h1, h2]
  have := row (sw o.a o.p i) (sw_lt ha hp hi)
  rwa [e] at this
theorem est_ker {F : Ents} {r c : Nat} {v : Nat → UInt8} : ∀ k, kerAt (est F r k).1 r c v → kerAt F r c v := by
  intro k
  induction k with
  | zero => exact id
  | succ k ih =>
    intro h
    rcases piv_cases (est F r k).1 r (est F r k).2 k with ⟨e, _⟩ | ⟨p, e, h1, h2, h3, _⟩
    · rw [est_none e] at h; exact ih h
    · rw [est_some e] at h
      exact ih (op_ker (o := opAt (est F r k).1 (est F r k).2 k p) (by show (est F r k).2 < r; omega) h2 (ginv_ne h3) h)
/-- the rank falls short somewhere: the first column without a pivot -/
theorem est_short {F : Ents} {r : Nat} : ∀ k, (est F r k).2 ≠ k → ∃ c, c < k ∧ (est F r c).2 = c ∧ piv (est F r c).1 r c c = none := by
  intro k
  induction k with
  | zero => intro h; exact absurd rfl h
  | succ k ih =>
    intro h
    by_cases hk : (est F r k).2 = k
    · rcases piv_cases (est F r k).1 r (est F r k).2 k with ⟨e, _⟩ | ⟨p, e, _⟩
      · exact ⟨k, by omega, hk, by rw [hk] at e; exact e⟩
      · rw [est_some e] at h; simp only at h; omega
    · obtain ⟨c, h1, h2⟩ := ih hk
      exact ⟨c, by omega, h2⟩
theorem piv_none_at {F : Ents} {r a j : Nat} (h : piv F r a j = none) : ∀ i, a ≤ i → i < r → F i j = 0 := by
  rcases piv_cases F r a j with ⟨_, h'⟩ | ⟨p, e, _⟩
  · exact h'
  · rw [h] at e; cases e
theorem sumK_split {n c : Nat} (f : Nat → UInt8) (hc : c < n) (h : ∀ l, c < l → l < n → f l = 0) : sumK n f = sumK c f ^^^ f c := by
  induction n with
  | zero => omega
  | succ n ih =>
    show sumK n f ^^^ f n = _
    by_cases e : n = c
    · subst e; rfl
    · rw [ih (by omega) (fun l h1 h2 => h l h1 (by omega)), h n (by omega) (by omega), UInt8.xor_zero]
/-- no kernel: full rank -/
theorem rank_full {F : Ents} {r n : Nat} (hn : n ≤ r) (h : ∀ v, kerAt F r n v → ∀ j, j < n → v j = 0) : (est F r n).2 = n := by
  by_cases hk : (est F r n).2 = n
  · exact hk
  · exfalso
    obtain ⟨c, hc, hcc, hp⟩ := est_short n hk
    have hz := piv_none_at hp
    have hu := est_unit c hcc
    have hv := h (fun j => if j < c then (est F r c).1 j c else if j = c then 1 else 0) (est_ker c fun i hi => by
      rw [sumK_split _ hc (fun l h1 h2 => by simp [show ¬ l < c by omega, show ¬ l = c by omega, gmul_zero])]
      simp only [Nat.lt_irrefl, if_false, if_true, gmul_one]
      have e : sumK c (fun j => gmul ((est F r c).1 i j) (if j < c then (est F r c).1 j c else if j = c then 1 else 0)) = sumK c (fun j => gmul (idF i j) ((est F r c).1 j c)) := sumK_congr fun l hl => by
        rw [if_pos hl, hu l hl i hi]
      rw [e]
      by_cases hic : i < c
      · rw [sumK_one _ hic (fun l _ hne => by simp [idF, show ¬ i = l from fun e => hne e.symm, zero_gmul])]
        simp [idF, one_gmul]
      · rw [sumK_congr (g := fun _ => 0) (fun l hl => by simp [idF, show ¬ i = l by omega, zero_gmul]), sumK_zero, hz i (by omega) hi]
        rfl) c hc
    simp at hv
end G294
