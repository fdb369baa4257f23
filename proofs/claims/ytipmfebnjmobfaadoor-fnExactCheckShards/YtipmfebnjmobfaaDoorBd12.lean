/- Joined texts: OpenShs, ShardHeld, TabOf. -/
import Derived.Test.YtipmfebnjmobfaaDoorProg
import Derived.Test.YtipmfebnjmobfaaDoorBd11
import Derived.Test.YtipmfebnjmobfaaDoorBd01
import Derived.Deep.SlicePairs
import Derived.Test.YtipmfebnjmobfaaDoorBd03
import Derived.Deep.RegionLaw
import Derived.Test.YtipmfebnjmobfaaDoorRows
import Derived.Test.YtipmfebnjmobfaaDoorBd02
set_option linter.unusedSimpArgs false
set_option linter.unusedVariables false
/- From the readings of a law's arguments to what its walk asks: slices of shards. -/
namespace G294
open Go Go.ChangeShapes Go.WideShapes Go.ChangeAt Go.RowKit Go.Deep
section
variable {H : Type} {enc : TypeId × Value → H} {P : Program} {W : World} {base : Nat} {t e : TypeId} {v : Value} {d : DataW H} {p : List MemPlace} {f0 f1 : Field}
theorem pairs_list (V0 V1 : Nat → Value) (len : Nat) (h : ∀ i, i < len → (∃ z, V0 i = .int .i64 z) ∧ ∃ s : List UInt8, V1 i = .string (str s) ∧ s.length ≤ maxLen) :
    ∃ l : List Sh, l.length = len ∧ (∀ s ∈ l, s.2.length ≤ maxLen) ∧ ∀ (i : Nat) (s : Sh), l[i]? = some s → V0 i = .int .i64 s.1 ∧ V1 i = .string (str s.2) := by
  induction len with
  | zero => exact ⟨[], rfl, fun s hs => by simp at hs, fun i s hs => by simp at hs⟩
  | succ n ih =>
    obtain ⟨l, h1, h2, h3⟩ := ih fun i hi => h i (by omega)
    obtain ⟨⟨z, hz⟩, s, hs, hsl⟩ := h n (by omega)
    refine ⟨l ++ [(z, s)], by simp [h1], fun x hx => ?_, fun i x hx => ?_⟩
    · rcases List.mem_append.1 hx with hx | hx
      · exact h2 x hx
      · simp at hx; subst hx; exact hsl
    · rcases Nat.lt_or_ge i l.length with hi | hi
      · rw [List.getElem?_append_left hi] at hx
        exact h3 i x hx
      · rw [List.getElem?_append_right hi] at hx
        have : i = n := by
          have := (List.getElem?_eq_some_iff.1 hx).1
          simp at this; omega
        subst this
        rw [← h1] at hx
        simp at hx
        subst hx
        exact ⟨hz, hs⟩
/-- a slice of shards that came in -/
theorem seen_shs (ht : P.underlying t = some (.slice e)) (he : P.underlying e = some (.struct #[f0, f1])) (ce : P.cellsOf e = 2) (o0 : f0.offset = 0) (o1 : f1.offset = 1) (c0 : P.cellsOf f0.type = 1) (c1 : P.cellsOf f1.type = 1)
    (u0 : P.underlying f0.type = some (.int .i64)) (u1 : P.underlying f1.type = some .string)
    (hv : Value.okWide P W .any base t v) (h : DataW.Trod enc P W 0 (fun _ => true) true t v d p) (hlt : ∀ x ∈ p, x.block < W.heap.size) : ∃ l : List Sh, SeenH W v l ∧ ∀ s ∈ l, s.2.length ≤ maxLen := by
  obtain ⟨a0, len, cap, rfl⟩ := okWide_slice ht hv
  obtain ⟨fuel, hf⟩ := h
  rcases open_slice_pairs ht he ce o0 o1 c0 c1 hf with ⟨hcs, hx⟩ | ⟨a, len', cap', m, n, V0, V1, D0, D1, P0, P1, hcs, _, hl, hm, hmm, hx, hcell⟩
  · have e1 : a0 = none ∧ len = 0 ∧ cap = 0 := by simpa [Value.cells] using hcs
    obtain ⟨rfl, rfl, rfl⟩ := e1
    exact ⟨[], SeenH.nil W, fun s hs => by simp at hs⟩
  · have e1 : a0 = some a ∧ len = len' ∧ cap = cap' := by simpa [Value.cells] using hcs
    obtain ⟨rfl, rfl, rfl⟩ := e1
    have hml : len ≤ m := by rw [hmm]; simp; exact hl
    obtain ⟨l, h1, h2, h3⟩ := pairs_list V0 V1 len fun i hi => by
      obtain ⟨_, _, t0, t1⟩ := hcell i (by omega)
      obtain ⟨z, hz, _⟩ := DataW.trod_int u0 t0
      obtain ⟨s, hs, _, hsl⟩ := DataW.trod_string u1 t1
      simp only [List.cons.injEq, and_true] at hz hs
      exact ⟨⟨z, hz⟩, s.data.toList, by rw [hs, ← str_eq], by rw [Array.length_toList]; exact hsl⟩
    refine ⟨l, ⟨some a, cap, by rw [h1], by omega, hm, fun hn => ?_⟩, h2⟩
    obtain ⟨b, off, spot⟩ := a
    have hspot : spot = none := by simpa [Addr.add] using World.cell?_spot (hcell 0 (by omega)).1
    subst hspot
    have e0 := (hcell 0 (by omega)).1
    rw [Go.WideShapes.add_plain] at e0
    refine ⟨b, off, rfl, World.block_lt_of_cell? W _ e0, fun i s hs => ?_⟩
    have hi : i < len := by have := (List.getElem?_eq_some_iff.1 hs).1; omega
    obtain ⟨e0, e1, _, _⟩ := hcell i (by omega)
    obtain ⟨g0, g1⟩ := h3 i s hs
    rw [Go.WideShapes.add_plain, g0] at e0
    rw [Go.WideShapes.add_plain, g1] at e1
    exact ⟨e0, by rw [Nat.add_assoc]; exact e1⟩
end
end G294

/- Marks on shards held. -/
namespace Go.Proofs.YtipmfebnjmobfaaDoor
open Go.RowKit G294

set_option maxRecDepth 100000 in
set_option maxHeartbeats 2000000 in
theorem heldShardS_own (v : Value) (k0 n : Nat) (w : World) (hv : SeenH w v (marksH k0 n)) (h1 : 0 < k0) (hk0 : k0 + n * 2 ≤ 1000000000000) :
    Calls Tryd.prog 52 #[v, .int .i64 k0] w (RetInt w ((k0 + n * 2 : Nat) : Int)) := by
  obtain ⟨A, c, rfl, hlc, hcm, hx⟩ := hv
  simp only [marksH_length] at hlc hx ⊢
  unfold maxLen at hcm
  go_enter Tryd.func52, Tryd.ntmps52
  go_wp2_with fail
  go_loopw [1, 5] (fun q i wr => ∃ k : Nat, k ≤ n ∧ i = .int .i64 k ∧ q = .int .i64 ((k0 + k * 2 : Nat) : Int) ∧ Below w.heap.size w wr)
    (fun _ i _ => n - (intOf i).toNat)
  case atStart => exact ⟨0, Nat.zero_le _, rfl, by simp, Below.refl _ _⟩
  case round =>
    obtain ⟨k, hk, rfl, rfl, hb⟩ := hrel
    by_cases hlt : k < n
    · obtain ⟨b, off, rfl, hbl, hcell⟩ := hx (by omega)
      have hbs := hb.size
      have hkl : k < (marksH k0 n).length := by simpa using hlt
      have hcc := hcell k _ (List.getElem?_eq_getElem hkl)
      rw [marksH_get] at hcc
      have hc1 := (hb.cell (p := ⟨b, off + k * 2, none⟩) hbl).trans hcc.1
      have hc2 := (hb.cell (p := ⟨b, off + k * 2 + 1, none⟩) hbl).trans hcc.2
      simp only at hc1 hc2
      clear hcell hx hcc hkl
      have hki : (k : Int) < (n : Int) := by omega
      have HC1 : Hid (((k0 + k * 2 + 1 : Nat) : Int) = ((k0 + k * 2 : Nat) : Int) + 1) := Int.natCast_add _ 1
      have hbb := str_same (mtext (k0 + k * 2 + 1))
      have HC : ∀ W, Calls Tryd.prog 66 #[.int .i64 (((k0 + k * 2 : Nat) : Int) + 1)] W (RetStr W (mtext (k0 + k * 2 + 1))) := fun W => HC1.out ▸ markText_ret (k0 + k * 2 + 1) W (by omega) (by omega)
      generalize hm : k0 + k * 2 = m at *
      have hm1 : m + 2 ≤ 1000000000000 := by omega
      have HM := Lib.hid hm
      have hnn : ((m : Int) != (m : Int)) = false := by simp
      have HCC := Lib.hid HC
      clear hm HC
      go_wp2_with fail
      go_region_law ((go_simp; go_at_call 66; refine (HCC.out _).mono ?_; rintro e w' ⟨rfl, ht⟩; have d2 := cell_turn ht (show wr.drew.cell? _ = _ from hc2) (show b < wr.heap.size by omega)))
      all_goals
        have hb2 : Below w.heap.size w w' := ht.base (below_drewN hb 1) (by simp; omega) (by omega)
        go_wp2_with fail
        go_roundw
        case rel => exact ⟨k + 1, by omega, by go_num, by have := HM.out; go_num, hb2⟩
        case measure => simp [intOf]; omega
    · obtain rfl : k = n := by omega
      go_wp2_with fail
      go_ret
      exact ⟨rfl, TurnIn.of_below hb⟩

end Go.Proofs.YtipmfebnjmobfaaDoor

/- The table of remainders, out of what a row lays. -/
namespace Go.Proofs.YtipmfebnjmobfaaDoor
open Go.ChangeShapes Go.WideShapes Go.ChangeAt Go.RowKit

theorem byte_of_wf {x : Int} (h : (Lit.int .u8 x).wf = true) : ∃ n : Nat, n < 256 ∧ x = n := by
  have hb := bounds_u8 h
  exact ⟨x.toNat, by omega, by omega⟩
theorem tab_of {laid : List (String × DataW Unit)} {W : World} (hpl : (laid.all fun x => x.2.handleName?.isNone) = true) (h : laidMetH Tryd.prog laid W) (i : Nat) {name : String}
    (hi : laid[i]? = some (name, Lib.tabData .u8 [27, 54, 108, 216, 171, 77, 154])) (hg : Tryd.prog.globalNamed name = some 1) : Tab W ∧ 1 < W.heap.size := by
  obtain ⟨hc, hs⟩ := G294.tab_of_laid hpl h i (g := 1) (t := 203) (e := 5) (n := 7) hi hg (by kernel_rfl) Tryd.underlying203 Tryd.underlying5 (by kernel_rfl) (by kernel_rfl)
  refine ⟨fun k hk => ?_, hs⟩
  have := hc k (by simpa using hk)
  rw [this]
  have : k = 0 ∨ k = 1 ∨ k = 2 ∨ k = 3 ∨ k = 4 ∨ k = 5 ∨ k = 6 := by omega
  rcases this with rfl | rfl | rfl | rfl | rfl | rfl | rfl <;> rfl

end Go.Proofs.YtipmfebnjmobfaaDoor
