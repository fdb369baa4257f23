/- Joined texts: HelpW, HelpI, OpenMsr, StrpMem, CloneT, FieldOps, Elim. -/
import Derived.Deep.RegionHeld3
import Derived.Test.YtbopocpmodpfcaaBd06
import Derived.Test.YtbopocpmodpfcaaProg
import Derived.Test.YtbopocpmodpfcaaBd00
import Derived.Test.YtbopocpmodpfcaaBd04
import Derived.Test.YtbopocpmodpfcaaBd03
import Derived.Lib.SmallJoins
import Derived.Lib.Strings
import Derived.Lib.Walk
import Derived.Lib.BufferWrite
import Derived.Lib.UnsafeStr
import Derived.Lib.Hide
import Derived.Laws.MakeOwn
import Derived.WalkKit
import Derived.Test.YtbopocpmodpfcaaBd05
import Derived.Test.YtbopocpmodpfcaaBd01
import Derived.BigRegion
import Derived.StillTailTactics
set_option linter.unusedSimpArgs false
set_option linter.unusedVariables false
/- HelpFor, the program's and the model's: pieces, helps. -/
namespace G294
open Go Go.RowKit
abbrev pieV (p : Int) (v : Value) : Value := .agg #[.int .i64 p, v]
def piOk (n k p : Int) (l : List UInt8) : Bool := nodeOk n k p && decide ((l.length : Int) = k - 1)
def helpOk (n k p : Int) (l : List UInt8) (i : Int) : Bool := piOk n k p l && nodeOk n k i && !(p == i)
def helpN (n k p : Int) (l : List UInt8) (i : Int) : Int := if helpOk n k p l i = true then p else 0
def helpB (n k p : Int) (l : List UInt8) (i : Int) : UInt8 := if helpOk n k p l i = true then dotL l (shortL (k - 1).toNat i.toNat) else 0
theorem helpN_no {n k p i : Int} {l : List UInt8} (h : helpOk n k p l i = false) : helpN n k p l i = 0 := if_neg (by rw [h]; simp)
theorem helpB_no {n k p i : Int} {l : List UInt8} (h : helpOk n k p l i = false) : helpB n k p l i = 0 := if_neg (by rw [h]; simp)
theorem helpN_yes {n k p i : Int} {l : List UInt8} (h : helpOk n k p l i = true) : helpN n k p l i = p := if_pos h
theorem helpB_yes {n p : Int} {a i : Nat} {l : List UInt8} (h : helpOk n ((a : Int) + 1) p l i = true) : helpB n ((a : Int) + 1) p l i = dotL l (shortL a i) := by unfold helpB; rw [if_pos h]; congr 2; omega
def RetHelp (w : World) (a : Int) (b : UInt8) (ok : Bool) (e : Ending) (w' : World) : Prop := e = .returned (.tuple #[.agg #[.int .i64 a, .int .u8 (b.toNat : Int)], .bool ok]) ∧ TurnIn 0 0 w w'
theorem hAlloc {w2 W : World} {a : Addr} {x : Value} (h : Below w2.heap.size w2 W ∧ W.cell? a = some x) (ha : a.block < w2.heap.size) (o : Obj) : Below w2.heap.size w2 (W.alloc o) ∧ (W.alloc o).cell? a = some x := by
  have hb := h.1.alloc h.1.size o
  exact ⟨hb, (((Below.refl _ W).alloc (Nat.le_refl _) o).cell (p := a) (Nat.lt_of_lt_of_le ha h.1.size)).trans h.2⟩
theorem hTurn {w2 W W' : World} {a : Addr} {x : Value} (h : Below w2.heap.size w2 W ∧ W.cell? a = some x) (ha : a.block < w2.heap.size) (k : TurnIn 0 0 W W') : Below w2.heap.size w2 W' ∧ W'.cell? a = some x :=
  ⟨k.base h.1 h.1.size (by omega), (k.to_below.cell (p := a) (Nat.lt_of_lt_of_le ha h.1.size)).trans h.2⟩
end G294
namespace Go.Proofs.Ytbopocpmodpfcaa
open Go.RowKit G294

end Go.Proofs.Ytbopocpmodpfcaa

/- HelpFor, the program's. -/
namespace G294
open Go Go.RowKit
theorem alloc_frz (w : World) (cs : Array Value) (T : TypeId) (o : Nat) : (w.alloc (.cells cs T)).frozen? ⟨w.heap.size, o, none⟩ = false := by simp
end G294
namespace Go.Proofs.Ytbopocpmodpfcaa
open Go.RowKit G294

end Go.Proofs.Ytbopocpmodpfcaa

/- From the readings of a law's arguments to what its walk asks: a struct of two ints. -/
namespace G294
open Go Go.ChangeShapes Go.WideShapes Go.ChangeAt Go.RowKit Go.Deep Go.Joins
section
variable {H : Type} {enc : TypeId × Value → H} {P : Program} {W : World} {base : Nat} {t : TypeId} {v : Value} {d : DataW H} {p : List MemPlace} {f0 f1 : Field}
theorem open_two (hs : P.underlying t = some (.struct #[f0, f1])) (hone : oneCellFields P #[f0, f1] = true) (hC : P.cellsOf t = 2) (u0 : P.underlying f0.type = some (.int .i64)) (u1 : P.underlying f1.type = some (.int .i64))
    (hv : Value.okWide P W .any base t v) (h : DataW.Trod enc P W 0 (fun _ => true) true t v d p) : ∃ g e : Int, v = .agg #[.int .i64 g, .int .i64 e] := by
  obtain ⟨v0, v1, y0, y1, n, rfl, _, _, h0, h1⟩ := open_agg2 hs hone hC hv h
  obtain ⟨g, hg, _⟩ := DataW.trod_int u0 h0
  obtain ⟨e, he, _⟩ := DataW.trod_int u1 h1
  simp only [List.cons.injEq, and_true] at hg he
  exact ⟨g, e, by rw [hg, he]⟩
end
end G294

/- Stripes in memory: two slices of texts. -/
namespace G294
open Go Go.RowKit
abbrev Strp := List (List UInt8) × List (List UInt8)
/-- a stripe of the call's own, its blocks from lo to hi: those of its data lie ahead of those of its parities -/
def OwnT (E : TypeId) (w : World) (lo hi : Nat) (v u : Value) (s : Strp) : Prop := ∃ mid, lo ≤ mid ∧ mid ≤ hi ∧ OwnStrs E w lo mid v s.1 ∧ OwnStrs E w mid hi u s.2
section
variable {w w' : World} {lo hi a b : Nat} {v u : Value} {l : List (List UInt8)} {s : Strp} {E : TypeId}
theorem OwnStrs.widerS {lo' hi' : Nat} (h : OwnStrs E w lo hi v l) (h1 : lo' ≤ lo) (h2 : hi ≤ hi') (h3 : hi' ≤ w.heap.size) : OwnStrs E w lo' hi' v l := by
  obtain ⟨o1, o2, o3⟩ := h
  refine ⟨⟨o1.1, ?_⟩, h3, fun g e => Nat.lt_of_lt_of_le (o3 g e) h2⟩
  rcases o1.2 with hn | ⟨g, cap, cur, rfl, hbg, rest⟩
  · exact .inl hn
  · exact .inr ⟨g, cap, cur, rfl, Nat.le_trans h1 hbg, rest⟩
theorem OwnT.keep (h : OwnT E w lo hi v u s) (t : TurnIn a b w w') (d : hi ≤ a ∨ b ≤ lo) : OwnT E w' lo hi v u s := by
  obtain ⟨mid, h1, h2, h3, h4⟩ := h
  exact ⟨mid, h1, h2, h3.keep t (by omega), h4.keep t (by omega)⟩
theorem OwnT.wider {lo' hi' : Nat} (h : OwnT E w lo hi v u s) (h1 : lo' ≤ lo) (h2 : hi ≤ hi') (h3 : hi' ≤ w.heap.size) : OwnT E w lo' hi' v u s := by
  obtain ⟨mid, g1, g2, g3, g4⟩ := h
  exact ⟨mid, by omega, by omega, g3.widerS h1 (Nat.le_refl _) (by omega), g4.widerS (Nat.le_refl _) h2 h3⟩
theorem OwnT.isSlice (h : OwnT E w lo hi v u s) : ∃ A n c A' n' c', v = .slice A n c ∧ u = .slice A' n' c' := by
  obtain ⟨mid, _, _, h3, h4⟩ := h
  obtain ⟨A, n, c, e⟩ := h3.isSlice
  obtain ⟨A', n', c', e'⟩ := h4.isSlice
  exact ⟨_, _, _, _, _, _, e, e'⟩
theorem OwnT.seen1 (h : OwnT E w lo hi v u s) : Seen w v (strs s.1) := by
  obtain ⟨mid, _, _, h3, h4⟩ := h
  exact h3.seen
theorem OwnT.seen2 (h : OwnT E w lo hi v u s) : Seen w u (strs s.2) := by
  obtain ⟨mid, _, _, h3, h4⟩ := h
  exact h4.seen
theorem OwnT.nil (E : TypeId) (w : World) (lo : Nat) (h : lo ≤ w.heap.size) : OwnT E w lo w.heap.size (.slice none 0 0) (.slice none 0 0) ([], []) :=
  ⟨w.heap.size, h, Nat.le_refl _, OwnStrs.nil E w lo, OwnStrs.nil E w _⟩
theorem OwnT.of {w1 : World} (h : OwnStrs E w1 w.heap.size w1.heap.size v s.1) (k : OwnStrs E w' w1.heap.size w'.heap.size u s.2) (t : TurnIn 0 0 w1 w') (hw : w.heap.size ≤ w1.heap.size) : OwnT E w' w.heap.size w'.heap.size v u s :=
  ⟨w1.heap.size, hw, t.size, h.keep t (by omega), k⟩
end
def RetT (E : TypeId) (w : World) (s : Strp) (e : Ending) (w' : World) : Prop := ∃ v u, e = .returned (.agg #[v, u]) ∧ OwnT E w' w.heap.size w'.heap.size v u s ∧ TurnIn 0 0 w w'
def RetTOk (E : TypeId) (w : World) (s : Strp) (ok : Bool) (e : Ending) (w' : World) : Prop := ∃ v u, e = .returned (.tuple #[.agg #[v, u], .bool ok]) ∧ OwnT E w' w.heap.size w'.heap.size v u s ∧ TurnIn 0 0 w w'
def marksT (k n m : Nat) : Strp := (marksS k n, marksS (k + n) m)
def RetMarkT (E : TypeId) (w : World) (lo hi : Nat) (v u : Value) (k n m : Nat) (e : Ending) (w' : World) : Prop :=
  e = .returned (.int .i64 ((k + (n + m) : Nat) : Int)) ∧ OwnT E w' lo hi v u (marksT k n m) ∧ TurnIn lo hi w w'
def totT (s : Strp) : Nat := (s.1.length + sizM s.1) + (s.2.length + sizM s.2)
theorem totT_le (s : Strp) : s.1.length ≤ totT s ∧ s.2.length ≤ totT s := by unfold totT; omega
end G294
namespace Go.Proofs.Ytbopocpmodpfcaa
open Go.RowKit G294

set_option maxRecDepth 100000 in
set_option maxHeartbeats 1000000 in
theorem szStripe_yes (v u : Value) (s : Strp) (left : Nat) (w : World) (hv : Seen w v (strs s.1)) (hu : Seen w u (strs s.2)) (hm1 : ∀ t ∈ s.1, t.length ≤ maxLen) (hm2 : ∀ t ∈ s.2, t.length ≤ maxLen) (h : totT s ≤ left) (hl : left ≤ 1048576) :
    Calls Try.prog 4 #[.agg #[v, u], .int .i64 left] w (RetInt w ((left - totT s : Nat) : Int)) := by
  obtain ⟨A, c, hvv⟩ := hv.len
  rw [strs_length] at hvv
  subst hvv
  obtain ⟨A2, c2, huu⟩ := hu.len
  rw [strs_length] at huu
  subst huu
  unfold totT at h ⊢
  have a1 := turn_alloc w (.cells #[.slice A s.1.length c, .slice A2 s.2.length c2] 24)
  have c0 := alloc_duo0 w (.slice A s.1.length c) (.slice A2 s.2.length c2) 24
  have c1 := alloc_duo1 w (.slice A s.1.length c) (.slice A2 s.2.length c2) 24
  have l1 := alloc_lt w (.cells #[.slice A s.1.length c, .slice A2 s.2.length c2] 24)
  have HS := Lib.hid (hv.touch a1)
  have HU := Lib.hid (hu.touch a1)
  have HM1 := Lib.hid hm1
  have HM2 := Lib.hid hm2
  clear hv hu hm1 hm2
  obtain ⟨t1, ht1⟩ : ∃ z, z = s.1.length + sizM s.1 := ⟨_, rfl⟩
  obtain ⟨t2, ht2⟩ : ∃ z, z = s.2.length + sizM s.2 := ⟨_, rfl⟩
  rw [← ht1, ← ht2] at h ⊢
  have HT1 := Lib.hid ht1
  have HT2 := Lib.hid ht2
  clear ht1 ht2
  obtain ⟨z1, hz1⟩ : ∃ z, z = left - t1 := ⟨_, rfl⟩
  obtain ⟨z2, hz2⟩ : ∃ z, z = left - (t1 + t2) := ⟨_, rfl⟩
  have hz10 : ¬ (z1 : Int) < 0 := by omega
  have hz20 : ¬ (z2 : Int) < 0 := by omega
  have hzz : z1 - t2 = z2 := by omega
  have hz1l : z1 ≤ 1048576 := by omega
  have hz12 : t2 ≤ z1 := by omega
  have hz11 : t1 ≤ left := by omega
  have HZ1 := Lib.hid hz1
  have HZZ := Lib.hid hzz
  rw [← hz2]
  clear hz1 hz2 hzz
  go_enter Try.func4, Try.ntmps4
  go_wp2_with fail
  refine (szStringS_yes _ s.1 left _ HS.out HM1.out (by rw [← HT1.out]; exact hz11) hl).mono ?_
  rintro e w2 ⟨rfl, k2⟩
  rw [← HT1.out, ← HZ1.out]
  replace c0 := cell_turn k2 c0 l1
  replace c1 := cell_turn k2 c1 l1
  have HU2 := Lib.hid (HU.out.touch k2)
  go_wp2_with fail
  refine (szStringS_yes _ s.2 z1 _ HU2.out HM2.out (by rw [← HT2.out]; exact hz12) hz1l).mono ?_
  rintro e w3 ⟨rfl, k3⟩
  rw [← HT2.out, HZZ.out]
  go_wp2_with fail
  go_ret
  exact ⟨rfl, turn_trans (turn_trans a1 k2 (by omega)) k3 (by omega)⟩

set_option maxRecDepth 100000 in
set_option maxHeartbeats 1000000 in
theorem szStripe_no (v u : Value) (s : Strp) (left : Nat) (w : World) (hv : Seen w v (strs s.1)) (hu : Seen w u (strs s.2)) (hm1 : ∀ t ∈ s.1, t.length ≤ maxLen) (hm2 : ∀ t ∈ s.2, t.length ≤ maxLen) (h : left < totT s) (hl : left ≤ 1048576) :
    Calls Try.prog 4 #[.agg #[v, u], .int .i64 left] w (RetInt w (-1)) := by
  obtain ⟨A, c, hvv⟩ := hv.len
  rw [strs_length] at hvv
  subst hvv
  obtain ⟨A2, c2, huu⟩ := hu.len
  rw [strs_length] at huu
  subst huu
  unfold totT at h
  have a1 := turn_alloc w (.cells #[.slice A s.1.length c, .slice A2 s.2.length c2] 24)
  have c0 := alloc_duo0 w (.slice A s.1.length c) (.slice A2 s.2.length c2) 24
  have c1 := alloc_duo1 w (.slice A s.1.length c) (.slice A2 s.2.length c2) 24
  have l1 := alloc_lt w (.cells #[.slice A s.1.length c, .slice A2 s.2.length c2] 24)
  have HS := Lib.hid (hv.touch a1)
  have HU := Lib.hid (hu.touch a1)
  have HM1 := Lib.hid hm1
  have HM2 := Lib.hid hm2
  clear hv hu hm1 hm2
  obtain ⟨t1, ht1⟩ : ∃ z, z = s.1.length + sizM s.1 := ⟨_, rfl⟩
  obtain ⟨t2, ht2⟩ : ∃ z, z = s.2.length + sizM s.2 := ⟨_, rfl⟩
  rw [← ht1, ← ht2] at h
  have HT1 := Lib.hid ht1
  have HT2 := Lib.hid ht2
  clear ht1 ht2
  by_cases hb : left < t1
  · go_enter Try.func4, Try.ntmps4
    go_wp2_with fail
    refine (szStringS_no _ s.1 left _ HS.out HM1.out (by rw [← HT1.out]; exact hb) hl).mono ?_
    rintro e w2 ⟨rfl, k2⟩
    go_wp2_with fail
    go_ret
    exact ⟨rfl, turn_trans a1 k2 (by omega)⟩
  · obtain ⟨z1, hz1⟩ : ∃ z, z = left - t1 := ⟨_, rfl⟩
    have hz10 : ¬ (z1 : Int) < 0 := by omega
    have hz1l : z1 ≤ 1048576 := by omega
    have hz12 : z1 < t2 := by omega
    have hz11 : t1 ≤ left := by omega
    have HZ1 := Lib.hid hz1
    clear hz1
    go_enter Try.func4, Try.ntmps4
    go_wp2_with fail
    refine (szStringS_yes _ s.1 left _ HS.out HM1.out (by rw [← HT1.out]; exact hz11) hl).mono ?_
    rintro e w2 ⟨rfl, k2⟩
    rw [← HT1.out, ← HZ1.out]
    replace c0 := cell_turn k2 c0 l1
    replace c1 := cell_turn k2 c1 l1
    have HU2 := Lib.hid (HU.out.touch k2)
    go_wp2_with fail
    refine (szStringS_no _ s.2 z1 _ HU2.out HM2.out (by rw [← HT2.out]; exact hz12) hz1l).mono ?_
    rintro e w3 ⟨rfl, k3⟩
    go_wp2_with fail
    go_ret
    exact ⟨rfl, turn_trans (turn_trans a1 k2 (by omega)) k3 (by omega)⟩

set_option maxRecDepth 100000 in
set_option maxHeartbeats 1000000 in
theorem eqStripe_same (v u v' u' : Value) (s : Strp) (w : World) (hv : Seen w v (strs s.1)) (hu : Seen w u (strs s.2)) (hv' : Seen w v' (strs s.1)) (hu' : Seen w u' (strs s.2)) :
    Calls Try.prog 8 #[.agg #[v, u], .agg #[v', u']] w (RetBool w true) := by
  obtain ⟨A, c, hvv⟩ := hv.len
  obtain ⟨B, d, huu⟩ := hu.len
  obtain ⟨A2, c2, hvv2⟩ := hv'.len
  obtain ⟨B2, d2, huu2⟩ := hu'.len
  rw [strs_length] at hvv huu hvv2 huu2
  subst hvv huu hvv2 huu2
  have kb : TurnIn 0 0 w ((w.alloc (.cells #[.slice A s.1.length c, .slice B s.2.length d] 27)).alloc (.cells #[.slice A2 s.1.length c2, .slice B2 s.2.length d2] 27)) := turn_trans (turn_alloc _ _) (turn_alloc _ _) (by omega)
  have z2 : ((w.alloc (.cells #[.slice A s.1.length c, .slice B s.2.length d] 27)).alloc (.cells #[.slice A2 s.1.length c2, .slice B2 s.2.length d2] 27)).heap.size = w.heap.size + 2 := by simp
  have c0 := cell_turn (turn_alloc (w.alloc (.cells #[.slice A s.1.length c, .slice B s.2.length d] 27)) (.cells #[.slice A2 s.1.length c2, .slice B2 s.2.length d2] 27)) (alloc_duo0 w (.slice A s.1.length c) (.slice B s.2.length d) 27) (alloc_lt _ _)
  have c1 := cell_turn (turn_alloc (w.alloc (.cells #[.slice A s.1.length c, .slice B s.2.length d] 27)) (.cells #[.slice A2 s.1.length c2, .slice B2 s.2.length d2] 27)) (alloc_duo1 w (.slice A s.1.length c) (.slice B s.2.length d) 27) (alloc_lt _ _)
  have d0 := alloc_duo0 (w.alloc (.cells #[.slice A s.1.length c, .slice B s.2.length d] 27)) (.slice A2 s.1.length c2) (.slice B2 s.2.length d2) 27
  have d1 := alloc_duo1 (w.alloc (.cells #[.slice A s.1.length c, .slice B s.2.length d] 27)) (.slice A2 s.1.length c2) (.slice B2 s.2.length d2) 27
  rw [World.size_alloc] at d0 d1
  have HV := Lib.hid (hv.touch kb)
  have HU := Lib.hid (hu.touch kb)
  have HV2 := Lib.hid (hv'.touch kb)
  have HU2 := Lib.hid (hu'.touch kb)
  clear hv hu hv' hu'
  go_enter Try.func8, Try.ntmps8
  go_wp2_with fail
  refine (eqStringS_same _ _ s.1 _ HV.out HV2.out).mono ?_
  rintro e w2 ⟨rfl, k2⟩
  replace c1 := cell_turn k2 c1 (by omega)
  replace d1 := cell_turn k2 d1 (by omega)
  have HU3 := Lib.hid (HU.out.touch k2)
  have HU4 := Lib.hid (HU2.out.touch k2)
  go_wp2_with fail
  refine (eqStringS_same _ _ s.2 _ HU3.out HU4.out).mono ?_
  rintro e w3 ⟨rfl, k3⟩
  go_wp2_with fail
  go_ret
  exact ⟨rfl, turn_trans (turn_trans kb k2 (by omega)) k3 (by omega)⟩

set_option maxRecDepth 100000 in
set_option maxHeartbeats 2000000 in
theorem toStripe_own (v u : Value) (s : Strp) (w : World) (hv : Seen w v (strs s.1)) (hu : Seen w u (strs s.2)) (hn1 : s.1.length ≤ 1048576) (hn2 : s.2.length ≤ 1048576) :
    Calls Try.prog 6 #[.agg #[v, u]] w (RetT 9 w s) := by
  obtain ⟨A, c, hvv⟩ := hv.len
  obtain ⟨B, d, huu⟩ := hu.len
  rw [strs_length] at hvv huu
  subst hvv huu
  have kb : TurnIn 0 0 w (((w.alloc (.cells #[.slice A s.1.length c, .slice B s.2.length d] 24)).alloc (.cells #[.slice none 0 0, .slice none 0 0] 27)).alloc (.cells #[.slice none 0 0, .slice none 0 0] 27)) := turn_trans (turn_trans (turn_alloc _ _) (turn_alloc _ _) (by omega)) (turn_alloc _ _) (by omega)
  have z0 : (((w.alloc (.cells #[.slice A s.1.length c, .slice B s.2.length d] 24)).alloc (.cells #[.slice none 0 0, .slice none 0 0] 27)).alloc (.cells #[.slice none 0 0, .slice none 0 0] 27)).heap.size = w.heap.size + 3 := by simp
  have kp := turn_trans (turn_alloc (w.alloc (.cells #[.slice A s.1.length c, .slice B s.2.length d] 24)) (.cells #[.slice none 0 0, .slice none 0 0] 27)) (turn_alloc _ (.cells #[.slice none 0 0, .slice none 0 0] 27)) (by omega)
  have p1 := cell_turn kp (alloc_duo1 w (.slice A s.1.length c) (.slice B s.2.length d) 24) (alloc_lt _ _)
  have kc := turn_alloc ((w.alloc (.cells #[.slice A s.1.length c, .slice B s.2.length d] 24)).alloc (.cells #[.slice none 0 0, .slice none 0 0] 27)) (.cells #[.slice none 0 0, .slice none 0 0] 27)
  have r0 := cell_turn kc (alloc_duo0 (w.alloc (.cells #[.slice A s.1.length c, .slice B s.2.length d] 24)) (.slice none 0 0) (.slice none 0 0) 27) (alloc_lt _ _)
  have r1 := cell_turn kc (alloc_duo1 (w.alloc (.cells #[.slice A s.1.length c, .slice B s.2.length d] 24)) (.slice none 0 0) (.slice none 0 0) 27) (alloc_lt _ _)
  have g0 := frozen_turn kc (alloc_frz (w.alloc (.cells #[.slice A s.1.length c, .slice B s.2.length d] 24)) #[.slice none 0 0, .slice none 0 0] 27 0) (alloc_lt _ _)
  have g1 := frozen_turn kc (alloc_frz (w.alloc (.cells #[.slice A s.1.length c, .slice B s.2.length d] 24)) #[.slice none 0 0, .slice none 0 0] 27 1) (alloc_lt _ _)
  have o0 := alloc_duo0 ((w.alloc (.cells #[.slice A s.1.length c, .slice B s.2.length d] 24)).alloc (.cells #[.slice none 0 0, .slice none 0 0] 27)) (.slice none 0 0) (.slice none 0 0) 27
  have o1 := alloc_duo1 ((w.alloc (.cells #[.slice A s.1.length c, .slice B s.2.length d] 24)).alloc (.cells #[.slice none 0 0, .slice none 0 0] 27)) (.slice none 0 0) (.slice none 0 0) 27
  have f0 := alloc_frz ((w.alloc (.cells #[.slice A s.1.length c, .slice B s.2.length d] 24)).alloc (.cells #[.slice none 0 0, .slice none 0 0] 27)) #[.slice none 0 0, .slice none 0 0] 27 0
  have f1 := alloc_frz ((w.alloc (.cells #[.slice A s.1.length c, .slice B s.2.length d] 24)).alloc (.cells #[.slice none 0 0, .slice none 0 0] 27)) #[.slice none 0 0, .slice none 0 0] 27 1
  rw [World.size_alloc] at r0 r1 g0 g1
  rw [World.size_alloc, World.size_alloc] at o0 o1 f0 f1
  clear kc kp
  have HS := Lib.hid (hv.touch kb)
  have HU := Lib.hid hu
  clear hv hu
  go_enter Try.func6, Try.ntmps6
  go_wp2_with fail
  refine (toStringS_own _ s.1 _ HS.out hn1).mono ?_
  rintro e w2 ⟨x, rfl, hx, k2⟩
  have s2 := k2.size
  replace p1 := cell_turn k2 p1 (by omega)
  replace r0 := cell_turn k2 r0 (by omega)
  replace r1 := cell_turn k2 r1 (by omega)
  replace g0 := frozen_turn k2 g0 (by omega)
  replace g1 := frozen_turn k2 g1 (by omega)
  replace o0 := cell_turn k2 o0 (by omega)
  replace o1 := cell_turn k2 o1 (by omega)
  replace f0 := frozen_turn k2 f0 (by omega)
  replace f1 := frozen_turn k2 f1 (by omega)
  obtain ⟨A2, n2, c2, rfl⟩ := hx.isSlice
  have ks := turn_setCell w2 (w.heap.size + 1 + 1) 0 (.slice A2 n2 c2)
  have hb2 := (turn_trans kb k2 (by omega)).to_below
  have hb3 : Below w.heap.size w (w2.setCell ⟨w.heap.size + 1 + 1, 0, none⟩ (.slice A2 n2 c2)) := hb2.setCell (show w.heap.size ≤ w.heap.size + 1 + 1 by omega) _
  have HX3 := Lib.hid (hx.keep ks (by omega))
  have q0 : (w2.setCell ⟨w.heap.size + 1 + 1, 0, none⟩ (.slice A2 n2 c2)).cell? ⟨w.heap.size + 1 + 1, 0, none⟩ = some (.slice A2 n2 c2) := World.cell?_setCell_same _ _ _ o0
  have q1 : (w2.setCell ⟨w.heap.size + 1 + 1, 0, none⟩ (.slice A2 n2 c2)).cell? ⟨w.heap.size + 1 + 1, 1, none⟩ = some (.slice none 0 0) := (World.cell?_setCell_other _ _ _ _ (by simp)).trans o1
  have q2 : (w2.setCell ⟨w.heap.size + 1 + 1, 0, none⟩ (.slice A2 n2 c2)).frozen? ⟨w.heap.size + 1 + 1, 1, none⟩ = false := by simp [f1]
  replace p1 := (cell_set_other w2 (B := w.heap.size + 1 + 1) (B' := w.heap.size) 0 1 (.slice A2 n2 c2) (by omega)).trans p1
  replace r0 := (cell_set_other w2 (B := w.heap.size + 1 + 1) (B' := w.heap.size + 1) 0 0 (.slice A2 n2 c2) (by omega)).trans r0
  replace r1 := (cell_set_other w2 (B := w.heap.size + 1 + 1) (B' := w.heap.size + 1) 0 1 (.slice A2 n2 c2) (by omega)).trans r1
  replace g0 := (frozen_set_other w2 (B := w.heap.size + 1 + 1) (B' := w.heap.size + 1) 0 0 (.slice A2 n2 c2) (by omega)).trans g0
  replace g1 := (frozen_set_other w2 (B := w.heap.size + 1 + 1) (B' := w.heap.size + 1) 0 1 (.slice A2 n2 c2) (by omega)).trans g1
  have s3 := ks.size
  have s3' : w.heap.size + 3 ≤ w2.heap.size := by omega
  have HU3 := Lib.hid (HU.out.below hb3)
  have HZ0 := Lib.hid z0
  clear hx hb2 z0 HS HU kb k2 ks
  go_wp2_with fail
  clear o0 o1 f0 f1
  generalize (w2.setCell ⟨w.heap.size + 1 + 1, 0, none⟩ (.slice A2 n2 c2)) = w3 at *
  refine (toStringS_own _ s.2 _ HU3.out hn2).mono ?_
  rintro e w4 ⟨y, rfl, hy, k4⟩
  have s4 := k4.size
  replace r0 := cell_turn k4 r0 (by omega)
  replace r1 := cell_turn k4 r1 (by omega)
  replace g0 := frozen_turn k4 g0 (by omega)
  replace g1 := frozen_turn k4 g1 (by omega)
  replace q0 := cell_turn k4 q0 (by omega)
  replace q1 := cell_turn k4 q1 (by omega)
  replace q2 := frozen_turn k4 q2 (by omega)
  obtain ⟨A4, n4, c4, rfl⟩ := hy.isSlice
  have hb4 := k4.base hb3 (by omega) (by omega)
  have ks := turn_setCell w4 (w.heap.size + 1 + 1) 1 (.slice A4 n4 c4)
  have hb5 : Below w.heap.size w (w4.setCell ⟨w.heap.size + 1 + 1, 1, none⟩ (.slice A4 n4 c4)) := hb4.setCell (show w.heap.size ≤ w.heap.size + 1 + 1 by omega) _
  have v1 : (w4.setCell ⟨w.heap.size + 1 + 1, 1, none⟩ (.slice A4 n4 c4)).cell? ⟨w.heap.size + 1 + 1, 1, none⟩ = some (.slice A4 n4 c4) := World.cell?_setCell_same _ _ _ q1
  have v0 : (w4.setCell ⟨w.heap.size + 1 + 1, 1, none⟩ (.slice A4 n4 c4)).cell? ⟨w.heap.size + 1 + 1, 0, none⟩ = some (.slice A2 n2 c2) := (World.cell?_setCell_other _ _ _ _ (by simp)).trans q0
  have t0 := (cell_set_other w4 (B := w.heap.size + 1 + 1) (B' := w.heap.size + 1) 1 0 (.slice A4 n4 c4) (by omega)).trans r0
  have t1 := (cell_set_other w4 (B := w.heap.size + 1 + 1) (B' := w.heap.size + 1) 1 1 (.slice A4 n4 c4) (by omega)).trans r1
  have u0 := (frozen_set_other w4 (B := w.heap.size + 1 + 1) (B' := w.heap.size + 1) 1 0 (.slice A4 n4 c4) (by omega)).trans g0
  have u1 := (frozen_set_other w4 (B := w.heap.size + 1 + 1) (B' := w.heap.size + 1) 1 1 (.slice A4 n4 c4) (by omega)).trans g1
  have HY := Lib.hid hy
  clear hy hb4
  go_wp2_with fail
  refine bodyPost_ret (v := .agg #[.slice A2 n2 c2, .slice A4 n4 c4]) (by simp [results, Try.results6, go_sem, t0, t1, u0, u1]) rfl ?_
  have kk0 := turn_setCell (w4.setCell ⟨w.heap.size + 1 + 1, 1, none⟩ (.slice A4 n4 c4)) (w.heap.size + 1) 0 (.slice A2 n2 c2)
  have kk1 := turn_setCell ((w4.setCell ⟨w.heap.size + 1 + 1, 1, none⟩ (.slice A4 n4 c4)).setCell ⟨w.heap.size + 1, 0, none⟩ (.slice A2 n2 c2)) (w.heap.size + 1) 1 (.slice A4 n4 c4)
  have h3 := HX3.out
  rw [HZ0.out] at h3
  have e1 := ks.size
  have e2 := kk0.size
  have e3 := kk1.size
  refine ⟨_, _, rfl, ⟨w3.heap.size, by omega, by omega, ((((h3.keep k4 (by omega)).keep ks (by omega)).keep kk0 (by omega)).keep kk1 (by omega)).widerS (by omega) (by omega) (by omega), (((HY.out.keep ks (by omega)).keep kk0 (by omega)).keep kk1 (by omega)).widerS (by omega) (by omega) (by omega)⟩, TurnIn.of_below ?_⟩
  exact (hb5.setCell (p := ⟨w.heap.size + 1, 0, none⟩) (show w.heap.size ≤ w.heap.size + 1 by omega) _).setCell (p := ⟨w.heap.size + 1, 1, none⟩) (show w.heap.size ≤ w.heap.size + 1 by omega) _

end Go.Proofs.Ytbopocpmodpfcaa

/- strings.Clone: the same bytes. -/
namespace Go.Proofs.Ytbopocpmodpfcaa
open Go.RowKit G294

end Go.Proofs.Ytbopocpmodpfcaa

/- The methods of field bytes. -/
namespace Go.Proofs.Ytbopocpmodpfcaa
open Go.RowKit G294
end Go.Proofs.Ytbopocpmodpfcaa

/- Elimination in place: pivotBelow, scaleRow, clearColumn, eliminate. -/
namespace Go.Proofs.Ytbopocpmodpfcaa
open Go.RowKit G294

def pivV (o : Option Nat) : Value := match o with
  | none => .tuple #[.int .i64 0, .bool false]
  | some k => .tuple #[.int .i64 k, .bool true]

/-- row k turns in place -/
def RowTurn (E EE : TypeId) (w : World) (lo hi : Nat) (v : Value) (L : Mat) (vs : List Value) (e : Ending) (w' : World) : Prop := e = .returned (.tuple #[]) ∧ OwnM E EE w' lo hi v L vs ∧ TurnIn lo hi w w'

theorem stilly {P : Program} {f : FuncId} {args : Array Value} {w : World} {v : Value} (h : Calls P f args w fun e w' => e = .returned v ∧ w = w') :
    Calls P f args w fun e w' => e = .returned v ∧ w' = w := h.mono fun _ _ ⟨he, hw⟩ => ⟨he, hw.symm⟩

/-- column j cleared in the rows ahead of k and in the first m columns of row k -/
def clK (a j k m : Nat) (F : Ents) : Ents := fun i jj => if i < k ∨ (i = k ∧ jj < m) then clF a (fun i => F i j) F i jj else F i jj
end Go.Proofs.Ytbopocpmodpfcaa
