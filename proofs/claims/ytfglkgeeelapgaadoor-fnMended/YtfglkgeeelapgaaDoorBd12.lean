/- Joined texts: MarkText, StrWalks, Comb. -/
import Derived.Test.YtfglkgeeelapgaaDoorBd02
import Derived.Laws.Concat
import Derived.Deep.RegionHeld3
import Derived.Test.YtfglkgeeelapgaaDoorBd06
import Derived.StillTailTactics
set_option linter.unusedSimpArgs false
set_option linter.unusedVariables false
/- markText. -/
namespace Go.Proofs.YtfglkgeeelapgaaDoor
open Go.RowKit G294

end Go.Proofs.YtfglkgeeelapgaaDoor

/- Contracts of the laws' helpers on []string: a copy, equality, marks, marks held, sizes. -/
namespace Go.Proofs.YtfglkgeeelapgaaDoor
open Go.RowKit G294

theorem infoStr : (Tryd.prog.info? 9).map (fun i => (i.zero, i.size, i.bytes)) = some (some (.string ⟨#[]⟩), 1, 16) := by kernel_rfl

end Go.Proofs.YtfglkgeeelapgaaDoor

/- A row of a matrix by texts: the program's combined. -/
namespace G294
open Go Go.RowKit
/-- the product of a row and the bytes of texts -/
def combF (c : Nat) (f : Nat → UInt8) (T : List (List UInt8)) (p : Nat) : UInt8 := sumK c fun j => gmul (f j) (ent T j p)
def comb (c n : Nat) (f : Nat → UInt8) (T : List (List UInt8)) : List UInt8 := mkRow n (combF c f T)
theorem combF_succ (c : Nat) (f : Nat → UInt8) (T : List (List UInt8)) (p : Nat) : combF (c + 1) f T p = combF c f T p ^^^ gmul (f c) (ent T c p) := rfl
theorem str_get (t : List UInt8) (q : Nat) (h : q < (str t).size) : (str t)[q] = t.getD q 0 := by
  have h' : q < t.length := by rwa [str_size] at h
  show t.toArray[q]'(by simpa using h') = _
  simp [List.getD, h']
/-- one byte of a row of the call's own is stored -/
theorem OwnBytes.store {E : TypeId} {w : World} {lo hi g n cap q : Nat} {l l' : List UInt8} {x : UInt8} (h : OwnBytes E w lo hi (.slice (some ⟨g, 0, none⟩) n cap) l) (hn : l.length = n) (e : l.set q x = l') :
    OwnBytes E (w.setCell ⟨g, q, none⟩ (.int .u8 (x.toNat : Int))) lo hi (.slice (some ⟨g, 0, none⟩) n cap) l' := by
  have h1 := h.1
  rw [hn] at h1
  have hst := h1.stored q (.int .u8 (x.toNat : Int))
  refine ⟨?_, by simpa using h.2.1, h.2.2⟩
  have e2 : bys l' = (bys l).set q (.int .u8 (x.toNat : Int)) := by rw [← e]; simp [bys, List.map_set]
  have e3 : l'.length = n := by rw [← e]; simpa using hn
  rw [e2, e3]
  exact hst.1
theorem comb_step (n j q : Nat) (f : Nat → UInt8) (T : List (List UInt8)) : (mkRow n fun p => if p < q then combF (j + 1) f T p else combF j f T p).set q (combF (j + 1) f T q) = mkRow n fun p => if p < q + 1 then combF (j + 1) f T p else combF j f T p := by
  rw [mkRow_set]
  apply mkRow_congr
  intro p hp
  by_cases e : p = q
  · subst e; simp
  · rw [if_neg e]
    by_cases h2 : p < q
    · rw [if_pos h2, if_pos (by omega)]
    · rw [if_neg h2, if_neg (by omega)]
end G294
namespace Go.Proofs.YtfglkgeeelapgaaDoor
open Go.RowKit G294

set_option maxRecDepth 100000 in
set_option maxHeartbeats 4000000 in
theorem combined_own (c n : Nat) (f : Nat → UInt8) (T : List (List UInt8)) (vr vt : Value) (w : World) (hr : Seen w vr (bys (mkRow c f))) (htx : Seen w vt (strs T)) (hc : T.length = c) (hc1 : 1 ≤ c) (hcc : c ≤ 1000)
    (hn : ∀ j, j < c → (T.getD j []).length = n) (hn2 : n ≤ 1000) (ht : Tab w) (h0 : 2 < w.heap.size) : Calls Tryd.prog 107 #[vr, vt] w (RetStr w (comb c n f T)) := by
  obtain ⟨i0, hi0, hz0, hz1, hz2⟩ := info_parts infoByte
  obtain ⟨A, cp, rfl, hlc, hcm, hx⟩ := hr
  obtain ⟨A', cp', rfl, hlc', hcm', hx'⟩ := htx
  simp only [bys_length, mkRow_length] at hlc hx ⊢
  rw [strs_length, hc] at hlc' hx'
  simp only [strs_length, hc]
  unfold maxLen at hcm hcm'
  obtain ⟨b, off, rfl, hbl, hcell⟩ := hx (by omega)
  obtain ⟨b', off', rfl, hbl', hcell'⟩ := hx' (by omega)
  have hrow : ∀ j, j < c → w.cell? ⟨b, off + j, none⟩ = some (.int .u8 ((f j).toNat : Int)) := fun j hj => by
    have := hcell j _ (bys_get _ j (by simpa using hj))
    rwa [mkRow_get] at this
  have htxt : ∀ j, j < c → w.cell? ⟨b', off' + j, none⟩ = some (.string (str (T.getD j []))) := fun j hj => by
    have := hcell' j _ (strs_get T j (by omega))
    rw [this]; simp [List.getD, show j < T.length by omega]
  have hc0 := htxt 0 (by omega)
  rw [Nat.add_zero] at hc0
  have hs0 : (str (T.getD 0 [])).size = n := by rw [str_size]; exact hn 0 (by omega)
  generalize T.getD 0 [] = t0 at hc0 hs0
  have HROW := Lib.hid hrow
  have HTXT := Lib.hid htxt
  have HNN := Lib.hid hn
  have HT := Lib.hid ht
  clear hcell hcell' hx hx' hrow htxt hn ht hc
  go_enter Tryd.func107, Tryd.ntmps107
  go_wp2_with (at_make; refine wpList_make_full _ rfl _ _ _ rfl w.heap.size _ i0 _ 1 Tryd.underlying22 hi0 hz0 hz1 _ _ _ _ n rfl rfl rfl rfl ?b2 ?b3 ?b4 ?_)
  case b2 => rw [hz2]; omega
  case b3 => unfold maxLen; omega
  case b4 => exact Nat.le_refl _
  intro w1 hown1 hg1
  have hb1 : Below w.heap.size w w1 := below_of_grown hg1 (Nat.le_refl _) (by simp)
  rw [toList_madeCells_one] at hown1
  have hO : OwnBytes 5 w1 w.heap.size w1.heap.size (.slice (some ⟨w.heap.size, 0, none⟩) n n) (mkRow n (combF 0 f T)) := by
    refine OwnBytes.of_made ?_
    rw [mkRow_length, bys_zero n (combF 0 f T) (fun _ _ => rfl)]; exact hown1
  clear hg1 hown1
  go_wp2_with fail
  go_loopw [16] (fun i wr => ∃ j : Nat, j ≤ c ∧ i = .int .i64 j ∧ OwnBytes 5 wr w.heap.size wr.heap.size (.slice (some ⟨w.heap.size, 0, none⟩) n n) (mkRow n (combF j f T)) ∧ Below w.heap.size w wr)
    (fun i _ => c - (intOf i).toNat)
  case atStart => exact ⟨0, Nat.zero_le _, rfl, hO, hb1⟩
  case round =>
    obtain ⟨j, hj, rfl, hO, hb⟩ := hrel
    clear hb1 hc0 hs0
    by_cases hlt : j < c
    · have hji : (j : Int) < (c : Int) := by omega
      have hct : wr.cell? ⟨b', off' + j, none⟩ = some (.string (str (T.getD j []))) := (hb.cell (p := ⟨b', off' + j, none⟩) hbl').trans (HTXT.out j hlt)
      have hst : (str (T.getD j [])).size = n := by rw [str_size]; exact HNN.out j hlt
      have HE : Hid (∀ p, ent T j p = (T.getD j []).getD p 0) := fun p => rfl
      generalize T.getD j [] = tj at hct hst HE
      have hO2 : OwnBytes 5 wr w.heap.size wr.heap.size (.slice (some ⟨w.heap.size, 0, none⟩) n n) (mkRow n fun p => if p < 0 then combF (j + 1) f T p else combF j f T p) := by simpa using hO
      clear hO
      go_wp2_with fail
      go_loopw [23] (fun i wq => ∃ q : Nat, q ≤ n ∧ i = .int .i64 q ∧ OwnBytes 5 wq w.heap.size wq.heap.size (.slice (some ⟨w.heap.size, 0, none⟩) n n) (mkRow n fun p => if p < q then combF (j + 1) f T p else combF j f T p) ∧ Below w.heap.size w wq)
        (fun i _ => n - (intOf i).toNat)
      case atStart => exact ⟨0, Nat.zero_le _, rfl, hO2, hb⟩
      case round =>
        obtain ⟨q, hq, rfl, hO, hbq⟩ := hrel
        clear hO2 hct hb
        by_cases hlq : q < n
        · have hqi : (q : Int) < (n : Int) := by omega
          have hcs := hO.cellAt (k := q) (by simpa using hlq)
          have hfr := hO.frozenAt q
          rw [mkRow_getD _ _ _ hlq, if_neg (by omega)] at hcs
          have hcr : wr.cell? ⟨b, off + j, none⟩ = some (.int .u8 ((f j).toNat : Int)) := (hbq.cell (p := ⟨b, off + j, none⟩) hbl).trans (HROW.out j hlt)
          obtain ⟨y, hy⟩ : ∃ y, y = tj.getD q 0 := ⟨_, rfl⟩
          have hsg := str_get tj q (by omega)
          rw [← hy] at hsg
          have HY : Hid (ent T j q = y) := (HE.out q).trans hy.symm
          clear hy
          have htq : Tab wr := HT.out.below hbq h0
          have HC := Lib.hid (stilly (times_u8 (f j) y wr.drew (show Tab wr.drew from htq)))
          have hxor : bits BinOp.xor IntKind.u8 ((combF j f T q).toNat : Int) ((gmul (f j) y).toNat : Int) = ((combF (j + 1) f T q).toNat : Int) := by
            rw [xor_u8, combF_succ, HY.out]
          have hO3 := (hO.store (q := q) (x := combF (j + 1) f T q) (by simp) (comb_step n j q f T))
          have hb3 : Below w.heap.size w (wr.setCell ⟨w.heap.size, q, none⟩ (.int .u8 ((combF (j + 1) f T q).toNat : Int))) := hbq.setCell (Nat.le_refl _) _
          have HO3 := Lib.hid hO3
          have hzz : (wr.setCell ⟨w.heap.size, q, none⟩ (.int .u8 ((combF (j + 1) f T q).toNat : Int))).heap.size = wr.heap.size := by simp
          clear htq hO3
          go_wp2_with fail
          refine wp_region_still_tail 14 (by kernel_rfl) (by kernel_rfl) ?_
          simp only [List.take_succ_cons, List.take_zero, List.drop_succ_cons, List.drop_zero]
          repeat (first | still_step | still_call (HC.out))
          refine wpStill_nil ?_
          go_wp2_with fail
          go_roundw
          case rel => exact ⟨q + 1, by omega, by go_num, by
            have h := HO3.out
            refine ⟨h.1, Nat.le_refl _, fun g e => ?_⟩
            have := h.2.2 g e
            show g < (wr.setCell ⟨w.heap.size, q, none⟩ (.int .u8 ((combF (j + 1) f T q).toNat : Int))).heap.size
            rw [hzz]; exact this, hb3.drew⟩
          case measure => simp [intOf]; omega
        · obtain rfl : q = n := by omega
          have hqi : ¬ (q : Int) < (q : Int) := by omega
          go_wp2_with fail
          go_roundw
          case rel => exact ⟨j + 1, by omega, by go_num, by
            have e : (mkRow q fun p => if p < q then combF (j + 1) f T p else combF j f T p) = mkRow q (combF (j + 1) f T) := mkRow_congr fun p hp => if_pos hp
            rw [e] at hO; exact hO, hbq⟩
          case measure => simp [intOf]; omega
    · obtain rfl : j = c := by omega
      have hji : ¬ (j : Int) < (j : Int) := by omega
      have hseen : Seen wr (.slice (some ⟨w.heap.size, 0, none⟩) n n) (bys (comb j n f T)) := hO.seen
      have hconv := run_string_seen (P := Tryd.prog) 22 5 9 Tryd.underlying22 Tryd.underlying5 Tryd.underlying9 hseen
      clear hO hseen
      go_wp2_with fail
      go_ret
      exact ⟨rfl, TurnIn.of_below hb⟩

end Go.Proofs.YtfglkgeeelapgaaDoor
