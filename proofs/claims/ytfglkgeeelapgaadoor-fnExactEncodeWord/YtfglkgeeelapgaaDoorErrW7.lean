/- Chapter 8: the division, and EncodeWord: the program's. -/
import Derived.Test.YtfglkgeeelapgaaDoorErrW4
import Derived.Test.YtfglkgeeelapgaaDoorConcB
import Derived.StillTailTactics
set_option linter.unusedSimpArgs false
set_option linter.unusedVariables false
namespace G294
open Go Go.RowKit
def lenOfS : Value → Nat
  | .slice _ n _ => n
  | _ => 0
theorem own_short {w : World} {E : TypeId} {base g n c k : Nat} {xs : List Value} (h : w.ownsRow base E 1 (.slice (some ⟨g, 0, none⟩) n c) n xs) (hk : k ≤ n) : w.ownsRow base E 1 (.slice (some ⟨g, 0, none⟩) k c) k (xs.take k) := by
  have hl := h.1
  rcases h.2 with ⟨hh, _⟩ | ⟨g', cap, cur, e, hbg, hg, hnc, hcm, hcs, ht⟩
  · simp at hh
  · simp only [Value.slice.injEq, Option.some.injEq, Addr.mk.injEq, and_true, true_and] at e
    obtain ⟨rfl, rfl⟩ := e
    refine ⟨by rw [List.length_take]; omega, .inr ⟨g, c, cur, rfl, hbg, hg, by omega, hcm, hcs, ?_⟩⟩
    rw [← ht, List.take_take]
    congr 1; omega
theorem bys_takeF (n k : Nat) (F : Nat → UInt8) (h : k ≤ n) : (bys (mkRow n F)).take k = bys (mkRow k F) := by
  simp only [bys, ← List.map_take]
  congr 1
  refine List.ext_getElem (by simp; omega) fun j h1 h2 => by simp [mkRow]
theorem rem_set (g : List UInt8) (a : Nat) (f : UInt8) (F : Nat → UInt8) (n j : Nat) : (mkRow n (remI g a f F j)).set (a + j) (F (a + j) ^^^ gmul f (g.getD j 0)) = mkRow n (remI g a f F (j + 1)) := by
  rw [mkRow_set]
  exact mkRow_congr fun p _ => remI_step g a f F j p
theorem encOk8_b {d : List UInt8} {m : Nat} (h1 : 1 ≤ m) (h4 : m ≤ 4) : encOk8 d (m : Int) = sizB m (2 * m + d.length) := by
  simp only [encOk8, errT, sizB]
  rw [show decide (1 ≤ (m : Int) ∧ (m : Int) ≤ 4) = true by simp; omega, Bool.true_and, decide_eq_decide]
  omega
theorem encOk8_no {d : List UInt8} {t : Int} (h : errT t = false) : encOk8 d t = false := by simp [encOk8, h]
end G294
namespace Go.Proofs.YtfglkgeeelapgaaDoor
open Go.RowKit G294

set_option maxRecDepth 100000 in
set_option maxHeartbeats 4000000 in
theorem remainderBy_own (v u : Value) (l d : List UInt8) (w : World) (hv : Seen w v (bys l)) (hu : Seen w u (bys d)) (hd1 : 1 ≤ d.length) (hld : d.length ≤ l.length) (hl : l.length ≤ 1000) (ht : Tab w) (h0 : 2 < w.heap.size) :
    Calls Tryd.prog 93 #[v, u] w (RetBytes 5 w (leftL l d)) := by
  have HCL := Lib.hid (cloneB_own v l w hv (by omega) (by omega))
  obtain ⟨A, c, rfl, _, _, _⟩ := hv
  obtain ⟨b, off, cd, rfl, hbl, hdm, hcell⟩ := seen_cellsB hu hd1
  have HX := Lib.hid hcell
  have HT := Lib.hid ht
  simp only [bys_length] at *
  clear hcell ht hu
  have HLL : Hid (leftL l d = mkRow (d.length - 1) (remF d l.length (fun i => l.getD i 0) (l.length + 1 - d.length))) := rfl
  have HL0 : Hid (bys l = bys (mkRow l.length (remF d l.length (fun i => l.getD i 0) 0))) := by
    show _ = _
    congr 1
    exact ext_getD (by simp) fun j hj => by rw [mkRow_getD _ _ _ hj]; rfl
  generalize hF : (fun i => l.getD i 0) = F0 at *
  generalize hnn : l.length = n at *
  generalize hgg : d.length = gl at *
  have HN := Lib.hid hnn
  have HG := Lib.hid hgg
  clear hnn hgg hF
  have HML : Hid (∀ (k : Nat) (F : Nat → UInt8), (mkRow k F).length = k) := fun k F => by simp
  go_enter Tryd.func93, Tryd.ntmps93
  go_wp2_with fail
  refine HCL.out.mono ?_
  rintro e w1 ⟨v1, rfl, o1, k1⟩
  obtain ⟨g, cp, rfl, hg1, hg2, hcp1, hcp2⟩ := o1.slice (by rw [HN.out]; omega)
  rw [HN.out] at hcp1 ⊢
  have o1' := o1.1
  rw [HN.out, HL0.out] at o1'
  have hb1 := k1.to_below
  unfold maxLen at hcp2
  clear o1 k1
  go_wp2_with fail
  go_loopw [5] (fun o wr => ∃ m r : Nat, r + m = n ∧ gl ≤ r + 1 ∧ o = .slice (some ⟨g, 0, none⟩) r cp ∧ wr.ownsRow w.heap.size 5 1 (.slice (some ⟨g, 0, none⟩) n cp) n (bys (mkRow n (remF d n F0 m))) ∧ Below w.heap.size w wr ∧ g < wr.heap.size)
    (fun o _ => lenOfS o)
  case atStart => exact ⟨0, n, rfl, by omega, rfl, o1', hb1, hg2⟩
  case round =>
    obtain ⟨m, r, hrm, hgr, rfl, hown, hb, hgz⟩ := hrel
    clear o1' hb1 hg2
    by_cases hlt : gl ≤ r
    · obtain ⟨q, rfl⟩ : ∃ q, r = q + 1 := ⟨r - 1, by omega⟩
      obtain ⟨a, ha⟩ : ∃ a, a = q + 1 - gl := ⟨_, rfl⟩
      obtain ⟨s, hs⟩ : ∃ s, s = q + 1 := ⟨_, rfl⟩
      have hag : a + gl = s := by omega
      have hqs : q < s := by omega
      rw [← hs] at hrm hgr hlt ⊢
      have hi1 : (gl : Int) ≤ (s : Int) := by omega
      have hw1 : IntKind.i64.wrap ((s : Int) - 1) = (q : Int) := by rw [IntWalk.i64_in _ (by omega)]; omega
      have hw2 : IntKind.i64.wrap ((s : Int) - (gl : Int)) = (a : Int) := by rw [IntWalk.i64_in _ (by omega)]; omega
      have hcq := own_cell8 hown (HML.out _ _).symm (k := q) (by omega)
      rw [mkRow_getD _ _ _ (by omega)] at hcq
      have HREM : Hid (remF d n F0 (m + 1) = remI d a (remF d n F0 m q) (remF d n F0 m) gl) := by
        show remI d (n - m - d.length) (remF d n F0 m (n - 1 - m)) (remF d n F0 m) d.length = _
        rw [HG.out, show n - m - gl = a by omega, show n - 1 - m = q by omega]
      have HRZ : Hid (∀ f, bys (mkRow n (remI d a f (remF d n F0 m) 0)) = bys (mkRow n (remF d n F0 m))) := fun f => by
        congr 1; exact mkRow_congr fun p _ => remI_zero d a f _ p
      generalize hf : remF d n F0 m q = f at *
      have HQ : Hid (q + 1 + m = n) := by show _ = _; omega
      clear ha hs hf
      go_wp2_with fail
      have hsa : s - a = gl := by omega
      rw [hsa]
      generalize cp - a = cq at *
      clear hsa
      generalize wr = wo at *
      go_loopw [34] (fun i wq => ∃ j : Nat, j ≤ gl ∧ i = .int .i64 j ∧ wq.ownsRow w.heap.size 5 1 (.slice (some ⟨g, 0, none⟩) n cp) n (bys (mkRow n (remI d a f (remF d n F0 m) j))) ∧ Below w.heap.size w wq ∧ g < wq.heap.size)
        (fun i _ => gl - (intOf i).toNat)
      case atStart => exact ⟨0, Nat.zero_le _, rfl, by rw [HRZ.out]; exact hown, hb, hgz⟩
      case round =>
        obtain ⟨j, hj, rfl, ho, hbq, hgq⟩ := hrel
        clear hown hb hgz hcq
        by_cases hlj : j < gl
        · have hji : (j : Int) < (gl : Int) := by omega
          have hjd : j < d.length := by rw [HG.out]; exact hlj
          have hdj := HX.out _ hbq j _ (bys_get d j hjd)
          rw [Addr.add_lit] at hdj
          rw [show d[j] = d.getD j 0 by simp [List.getD, hjd]] at hdj
          have hpn : a + j < n := by omega
          have hce := own_cell8 ho (HML.out _ _).symm (k := a + j) hpn
          rw [mkRow_getD _ _ _ hpn, remI_at] at hce
          have hst := own_set8 ho (a + j) (remF d n F0 m (a + j) ^^^ gmul f (d.getD j 0))
          rw [rem_set] at hst
          have hfr := ho.frozenAt (a + j)
          have hbs : Below w.heap.size w (wr.setCell ⟨g, a + j, none⟩ (.int .u8 ((remF d n F0 m (a + j) ^^^ gmul f (d.getD j 0)).toNat : Int))) := hbq.setCell hg1 _
          have HC := Lib.hid (stillA (times_u8 f (d.getD j 0) wr.drew (HT.out.below hbq.drew h0)))
          have hxor := xor_u8 (remF d n F0 m (a + j)) (gmul f (d.getD j 0))
          generalize remF d n F0 m (a + j) = y at *
          generalize d.getD j 0 = x at *
          have HST := Lib.hid hst
          have HBS := Lib.hid hbs
          clear hst hbs ho
          go_wp2_with fail
          refine wp_region_still_tail 9 (by kernel_rfl) (by kernel_rfl) ?_
          simp only [List.take_succ_cons, List.take_zero, List.drop_succ_cons, List.drop_zero]
          repeat (first | still_step | still_call (HC.out))
          refine wpStill_nil ?_
          go_wp2_with fail
          go_roundw
          case rel => exact ⟨j + 1, by omega, by go_num, HST.out, below_drewN HBS.out _, by simpa using hgq⟩
          case measure => simp [intOf]; omega
        · obtain rfl : j = gl := by omega
          have hji : ¬ (j : Int) < (j : Int) := by omega
          go_wp2_with fail
          go_roundw
          case rel => exact ⟨m + 1, q, by have := HQ.out; omega, by have := HQ.out; omega, rfl, by rw [HREM.out]; exact ho, hbq, hgq⟩
          case measure => have := HQ.out; simp [lenOfS]; omega
    · have hi1 : ¬ (gl : Int) ≤ (r : Int) := by omega
      have hsh := own_short hown (k := r) (by omega)
      rw [bys_takeF _ _ _ (by omega)] at hsh
      have HSH := Lib.hid hsh
      have HM : Hid (l.length + 1 - d.length = m ∧ d.length - 1 = r) := by show _ ∧ _; rw [HN.out, HG.out]; omega
      clear hown hsh
      go_wp2_with fail
      go_ret
      refine ⟨_, rfl, OwnBytes.of_made ?_, TurnIn.of_below hb⟩
      rw [HLL.out, HML.out, show gl - 1 = r by omega, show n + 1 - gl = m by omega]
      exact HSH.out

end Go.Proofs.YtfglkgeeelapgaaDoor
