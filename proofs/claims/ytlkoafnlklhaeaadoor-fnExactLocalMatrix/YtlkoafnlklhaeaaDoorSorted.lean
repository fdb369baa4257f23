/- sortedGroups, the program's. -/
import Derived.Test.YtlkoafnlklhaeaaDoorGroup
import Derived.Test.YtlkoafnlklhaeaaDoorSortLay
import Derived.Sort.OwnSortedInts
set_option linter.unusedSimpArgs false
set_option linter.unusedVariables false
namespace G294
open Go Go.RowKit Go.Maps Go.ChangeShapes
open Go.WideElems (Fit rd rg pl)
/-- the keys met so far -/
def CollI (D : DataW Unit) (left : Lit → Bool) (ss : List Int) : Prop := ss.Nodup ∧ ∀ x : Int, x ∈ ss ↔ (Maps.has D (.int .i64 x) = true ∧ left (.int .i64 x) = false)
theorem CollI.start (D : DataW Unit) : CollI D (Maps.has D) [] := ⟨List.nodup_nil, fun x => by cases Maps.has D (.int .i64 x) <;> simp⟩
theorem CollI.step {D : DataW Unit} {left : Lit → Bool} {ss : List Int} (h : CollI D left ss) {x : Int} {y : DataW Unit} (hlk : left (.int .i64 x) = true) (hat : ∀ zd, D.atKey (.int .i64 x) zd = y) : CollI D (fun z => left z && !z.sameKey (.int .i64 x)) (ss ++ [x]) := by
  have hh : Maps.has D (.int .i64 x) = true := has_true_of_atKey hat
  have hx : x ∉ ss := fun hm => by have := ((h.2 x).1 hm).2; rw [hlk] at this; cases this
  refine ⟨List.nodup_append.2 ⟨h.1, by simp, fun a ha b hb => ?_⟩, fun z => ?_⟩
  · simp at hb; subst hb; exact fun e => hx (e ▸ ha)
  · rw [List.mem_append, List.mem_singleton, h.2 z]
    by_cases e : z = x
    · subst e
      simp [hh, WideAt.sameKey_self (int_isKey z)]
    · have e2 : Lit.sameKey (.int .i64 z) (.int .i64 x) = false := sameKey_ne (by simpa using e)
      simp [e, e2]
theorem mergeSort_range {ss : List Int} {g : Nat} (hn : ss.Nodup) (hm : ∀ x : Int, x ∈ ss ↔ 0 ≤ x ∧ x < (g : Int)) : ss.mergeSort (fun x y => decide (x ≤ y)) = (List.range g).map fun (i : Nat) => (i : Int) := by
  have hr : ((List.range g).map fun (i : Nat) => (i : Int)).Nodup := List.pairwise_map.2 (List.nodup_range.imp fun h e => h (by omega))
  have hp : ss.Perm ((List.range g).map fun (i : Nat) => (i : Int)) := (List.perm_ext_iff_of_nodup hn hr).2 fun x => by
    rw [hm x, List.mem_map]
    constructor
    · rintro ⟨h1, h2⟩; exact ⟨x.toNat, by simp; omega, by omega⟩
    · rintro ⟨i, hi, rfl⟩; simp at hi; omega
  refine List.Perm.eq_of_pairwise (le := fun a b => decide (a ≤ b) = true) (fun a b _ _ h1 h2 => ?_) (List.pairwise_mergeSort (fun a b c h1 h2 => ?_) (fun a b => ?_) ss) ?_ ((List.mergeSort_perm ss _).trans hp)
  · simp only [decide_eq_true_eq] at h1 h2; omega
  · simp only [decide_eq_true_eq] at *; omega
  · simp only [Bool.or_eq_true, decide_eq_true_eq]; omega
  · refine List.pairwise_map.2 ?_
    have := List.pairwise_lt_range (n := g)
    exact this.imp fun h => by simp; omega
theorem grp_key {d e g : Nat} (hg : d = g * e) (he : 1 ≤ e) (x : Int) : grp2 d e g x ≠ [] ↔ 0 ≤ x ∧ x < (g : Int) := by
  unfold grp2
  constructor
  · intro h
    by_cases hx : 0 ≤ x ∧ x < (g : Int)
    · exact hx
    · exfalso
      apply h
      rw [if_neg hx, List.append_nil]
      unfold grp1
      rw [List.map_eq_nil_iff, List.filter_eq_nil_iff]
      intro i hi
      rw [List.mem_range] at hi
      rw [decide_eq_true_eq]
      intro e1
      apply hx
      have hq : i / e < g := Nat.div_lt_of_lt_mul (by rw [Nat.mul_comm]; omega)
      generalize i / e = z at *
      omega
  · intro h
    rw [if_pos h]
    simp
end G294
namespace Go.Proofs.YtlkoafnlklhaeaaDoor
open Go.RowKit Go.Maps Go.Sort G294

set_option maxRecDepth 100000 in
set_option maxHeartbeats 2000000 in
theorem sortedGroups_own (B n g : Nat) (D : DataW Unit) (f : Int → List Int) (w : World) (hown : w.ownsGroups Tryd.prog 3 (B + 1) 3 .i64 B n D) (hG : Groups D f) (hf : ∀ x : Int, f x ≠ [] ↔ 0 ≤ x ∧ x < (g : Int)) (hn : n ≤ 1000) (hg : 1 ≤ g) :
    Calls Tryd.prog 107 #[.map (some B)] w (RetInts 3 w ((List.range g).map fun (i : Nat) => (i : Int))) := by
  have hB : B < w.heap.size := by obtain ⟨es, clock, hb, _⟩ := hown; exact (Array.getElem?_eq_some_iff.1 hb).1
  have hmap : w.ownsMap Tryd.prog 3 (rowElem (H := Unit) w (B + 1) 3 .i64) B n D := by
    obtain ⟨es, clock, hb, F, hs, hD, _⟩ := hown
    exact ⟨es, clock, hb, F, hs, hD⟩
  have hsz : Maps.size D ≤ n := by
    obtain ⟨es, clock, hb, F, hs, hD, _⟩ := hown
    rw [hD]; simp [Maps.size, length_sorted]; omega
  have HG := Lib.hid hG
  have HF := Lib.hid hf
  clear hown hG hf
  go_enter Tryd.func107, Tryd.ntmps107
  go_wp2_with (at_range; refine wpList_range_own _ rfl _ 141 rfl 3 97 lawInt Tryd.underlying141 _ B n D rfl hmap ?_; intro w0 hrg0 hg0 hs0)
  go_frame
  have hb0 : Below w.heap.size w w0 := ⟨hg0.os, hg0.tape, hg0.output, hg0.size, fun k hk => hg0.block k hk (by simp)⟩
  have hs0' : w.heap.size + 1 ≤ w0.heap.size := by omega
  have HSZ := Lib.hid hsz
  clear hs0 hg0 hmap
  go_loopw [3] (fun s3 wr => ∃ left cnt ss, wr.ranges Tryd.prog 3 (rowElem (H := Unit) w (B + 1) 3 .i64) B w.heap.size n D left cnt ∧ CollI D left ss ∧ wr.ownsRow (w.heap.size + 1) 3 1 s3 ss.length (ints ss) ∧ Below w.heap.size w wr ∧ ss.length + cnt ≤ Maps.size D ∧ w.heap.size + 1 ≤ wr.heap.size)
    (fun _ wr => wr.rangeLeft B w.heap.size)
  case atStart => exact ⟨_, _, [], hrg0, CollI.start D, World.ownsRow_nil _ _ _ _, hb0, by simp, hs0'⟩
  case round =>
    obtain ⟨left, cnt, ss, hrg, hC, hrow, hb, hln, hws⟩ := hrel
    have HLN := Lib.hid hln
    have HC := Lib.hid hC
    have HROW := Lib.hid hrow
    obtain ⟨A3, n3, c3, rfl⟩ := own_isSlice hrow
    clear hrg0 hb0 hC hrow hln
    go_wp2_with (at_next; refine wpList_next_ranges _ rfl _ rfl 3 lawInt _ (Value.int .i64) (fun c : Option Addr × Nat × Nat => Value.slice c.1 c.2.1 c.2.2) (fun key kl hkey => by obtain ⟨x, rfl, _⟩ := Maps.keyOf_int_inv Tryd.underlying3 hkey; exact ⟨x, rfl⟩) (fun v y hv => by obtain ⟨zs, ho, _⟩ := rowElem_inv hv; obtain ⟨A', n', c', e⟩ := own_isSlice ho.1; exact ⟨(A', n', c'), e⟩) B w.heap.size n _ _ _ rfl hrg ?x1 ?x2)
    case x1 =>
      intro hc0 hl0
      have HMEM : Hid (∀ x : Int, x ∈ ss ↔ 0 ≤ x ∧ x < (g : Int)) := fun x => by
        rw [HC.out.2 x, ← HF.out x]
        constructor
        · rintro ⟨h1, _⟩ h2
          rw [HG.out.no x h2] at h1; cases h1
        · intro h1
          exact ⟨has_true_of_atKey (HG.out.at_ x h1), hl0 _⟩
      have hpos : 0 < ss.length := List.length_pos_of_mem ((HMEM.out 0).2 ⟨by omega, by omega⟩)
      have HMS := Lib.hid (mergeSort_range HC.out.1 HMEM.out)
      have hln2 : ss.length ≤ 1000 := by have := HLN.out; have := HSZ.out; omega
      rcases HROW.out.2 with ⟨_, h0⟩ | ⟨gg, cap, cur, hv, hbase, hgb, h1, h2, h3, h4⟩
      · omega
      · simp only [Value.slice.injEq] at hv
        obtain ⟨rfl, hn3, rfl⟩ := hv
        have HB := Lib.hid hb
        have HGB := Lib.hid hgb
        have hH : Holds (Value.int .i64) wr gg 0 ss.toArray := holds_of_blockI hgb (by rw [Nat.mul_one] at h4; exact h4)
        have HH := Lib.hid hH
        have hggl : gg < wr.heap.size := (Array.getElem?_eq_some_iff.1 hgb).1
        have HL := Lib.hid (List.length_mergeSort (le := fun x y : Int => decide (x ≤ y)) ss)
        subst hn3
        clear hb hgb hH h4 hl0
        go_wp2_with fail
        refine (Tryd.slices_Sort_int gg 0 c3 ss _ HH.out hggl (by omega)).mono ?_
        rintro e' w5 ⟨rfl, nn, os, hw5⟩
        have hgr : wr.grownBy w5 (some gg) := by rw [hw5]; exact grownBy_sortedI _
        have hsr := ownsRow_sortedI (w := wr) (base := w.heap.size + 1) (n := nn) (os := os) (ts := ss.mergeSort fun x y => decide (x ≤ y)) HL.out hbase HGB.out h1 h2 h3
        rw [← hw5, HMS.out] at hsr
        have hlg : ss.length = g := by
          have e1 := HL.out
          rw [HMS.out] at e1
          simpa using e1.symm
        have HLG := Lib.hid hlg
        clear hlg
        have hb5 : Below w.heap.size w w5 := HB.out.grown hgr (by omega) (fun j e => by cases e; omega)
        have HSR := Lib.hid hsr
        clear hw5 hsr hgr
        go_wp2_with fail
        go_ret
        refine ⟨_, rfl, OwnInts.of_made (own_base ?_ (Nat.le_succ _)), TurnIn.of_below hb5⟩
        have e2 := HSR.out
        have e3 : ((List.range g).map fun (i : Nat) => (i : Int)).length = ss.length := by rw [HLG.out]; simp
        rw [e3]
        exact e2
    case x2 =>
      intro x ca cn cc kl yd yp w2 cnt2 hkey hlk hv hat hrg2 hlt hg2 hs2 hen
      obtain ⟨x', ex, rfl, hwf⟩ := Maps.keyOf_int_inv Tryd.underlying3 hkey
      cases ex
      have hs2' : wr.heap.size ≤ w2.heap.size := by omega
      have HROW2 : Hid (w2.ownsRow (w.heap.size + 1) 3 1 (.slice A3 n3 c3) ss.length (ints ss)) := own_other HROW.out hg2 (fun g' e e2 => by cases e2; have := (HROW.out.lt _ e).1; omega)
      have HC2 := Lib.hid (HC.out.step hlk hat)
      have hln2 : ss.length ≤ 1000 := by have := HLN.out; have := HSZ.out; omega
      have HRG := Lib.hid hrg
      have HRG2 := Lib.hid hrg2
      have HB2 : Hid (Below w.heap.size w w2) := hb.grown hg2 hb.size (fun j e => by cases e; exact Nat.le_refl _)
      have HBS : Hid (∀ x, x < w.heap.size + 1 → (Value.slice A3 n3 c3).ownBlock ≠ some x) := fun x hx e => by have := (HROW.out.lt x e).1; omega
      clear hs2 hkey hv hat hlk hrg hrg2 hb hg2
      go_wp2_with (at_builtin; refine wpList_append1 rfl _ _ _ rfl (w.heap.size + 1) 3 _ _ Tryd.underlying97 infoIntG rfl _ ss.length _ rfl (HROW2.out.alloc _) w2.heap.size (.int .i64 x) rfl ?c1 rfl ?c2 ?c3 ?c4 ?_)
      case c1 => simp
      case c2 => omega
      case c3 => omega
      case c4 => first | omega | (simp; omega)
      intro v' w3 hown' hgrow hloc
      have hsz3 := hgrow.size
      have hrg3 := (HRG2.out.alloc (.cells #[.int .i64 x] 3)).kept hgrow (fun e => HBS.out B (by omega) e.symm) (fun e => HBS.out w.heap.size (by omega) e.symm)
      have hb3 : Below w.heap.size w w3 := (HB2.out.alloc HB2.out.size _).grown hgrow (by have := HB2.out.size; simp; omega) (fun j e => by have := (HROW2.out.lt j e).1; omega)
      rw [World.size_alloc] at hsz3
      have hown3 : w3.ownsRow (w.heap.size + 1) 3 1 v' (ss ++ [x]).length (ints (ss ++ [x])) := by rw [ints_append]; simpa [ints] using hown'
      have HR3 := Lib.hid hrg3
      have HO3 := Lib.hid hown3
      clear hown' hgrow hloc hrg3 hown3
      go_wp2_with fail
      go_roundw
      case rel => exact ⟨_, cnt2, ss ++ [x], HR3.out, HC2.out, HO3.out, hb3, by have := HLN.out; simp; omega, by omega⟩
      case measure => rw [HR3.out.left_eq, HRG.out.left_eq]; exact hlt

end Go.Proofs.YtlkoafnlklhaeaaDoor
