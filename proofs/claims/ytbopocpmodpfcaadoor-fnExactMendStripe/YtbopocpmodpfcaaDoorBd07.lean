/- Joined texts: HelpW, HelpI, OpenMsr, StrpMem, CloneT, FieldOps, Elim. -/
import Derived.Deep.RegionHeld3
import Derived.Test.YtbopocpmodpfcaaDoorBd06
import Derived.Test.YtbopocpmodpfcaaDoorProg
import Derived.Test.YtbopocpmodpfcaaDoorBd00
import Derived.Test.YtbopocpmodpfcaaDoorBd04
import Derived.Test.YtbopocpmodpfcaaDoorBd03
import Derived.Lib.SmallJoins
import Derived.Lib.Strings
import Derived.Lib.Walk
import Derived.Lib.BufferWrite
import Derived.Lib.UnsafeStr
import Derived.Lib.Hide
import Derived.Laws.MakeOwn
import Derived.WalkKit
import Derived.Test.YtbopocpmodpfcaaDoorBd05
import Derived.Test.YtbopocpmodpfcaaDoorBd01
import Derived.BigRegion
import Derived.StillTailTactics
set_option linter.unusedSimpArgs false
set_option linter.unusedVariables false
/- HelpFor, the program's and the model's: pieces, helps. -/
namespace G294
open Go Go.RowKit
abbrev pieV (p : Int) (v : Value) : Value := .agg #[.int .i64 p, v]
def piOk (n k p : Int) (l : List UInt8) : Bool := nodeOk n k p && decide ((l.length : Int) = k - 1)
def helpOk (n k p : Int) (l : List UInt8) (i : Int) : Bool := piOk n k p l && nodeOk n k i && !(p == i)
def helpN (n k p : Int) (l : List UInt8) (i : Int) : Int := if helpOk n k p l i = true then p else 0
def helpB (n k p : Int) (l : List UInt8) (i : Int) : UInt8 := if helpOk n k p l i = true then dotL l (shortL (k - 1).toNat i.toNat) else 0
theorem helpN_no {n k p i : Int} {l : List UInt8} (h : helpOk n k p l i = false) : helpN n k p l i = 0 := if_neg (by rw [h]; simp)
theorem helpB_no {n k p i : Int} {l : List UInt8} (h : helpOk n k p l i = false) : helpB n k p l i = 0 := if_neg (by rw [h]; simp)
theorem helpN_yes {n k p i : Int} {l : List UInt8} (h : helpOk n k p l i = true) : helpN n k p l i = p := if_pos h
theorem helpB_yes {n p : Int} {a i : Nat} {l : List UInt8} (h : helpOk n ((a : Int) + 1) p l i = true) : helpB n ((a : Int) + 1) p l i = dotL l (shortL a i) := by unfold helpB; rw [if_pos h]; congr 2; omega
def RetHelp (w : World) (a : Int) (b : UInt8) (ok : Bool) (e : Ending) (w' : World) : Prop := e = .returned (.tuple #[.agg #[.int .i64 a, .int .u8 (b.toNat : Int)], .bool ok]) ∧ TurnIn 0 0 w w'
theorem hAlloc {w2 W : World} {a : Addr} {x : Value} (h : Below w2.heap.size w2 W ∧ W.cell? a = some x) (ha : a.block < w2.heap.size) (o : Obj) : Below w2.heap.size w2 (W.alloc o) ∧ (W.alloc o).cell? a = some x := by
  have hb := h.1.alloc h.1.size o
  exact ⟨hb, (((Below.refl _ W).alloc (Nat.le_refl _) o).cell (p := a) (Nat.lt_of_lt_of_le ha h.1.size)).trans h.2⟩
theorem hTurn {w2 W W' : World} {a : Addr} {x : Value} (h : Below w2.heap.size w2 W ∧ W.cell? a = some x) (ha : a.block < w2.heap.size) (k : TurnIn 0 0 W W') : Below w2.heap.size w2 W' ∧ W'.cell? a = some x :=
  ⟨k.base h.1 h.1.size (by omega), (k.to_below.cell (p := a) (Nat.lt_of_lt_of_le ha h.1.size)).trans h.2⟩
end G294
namespace Go.Proofs.YtbopocpmodpfcaaDoor
open Go.RowKit G294

end Go.Proofs.YtbopocpmodpfcaaDoor

/- HelpFor, the program's. -/
namespace G294
open Go Go.RowKit
theorem alloc_frz (w : World) (cs : Array Value) (T : TypeId) (o : Nat) : (w.alloc (.cells cs T)).frozen? ⟨w.heap.size, o, none⟩ = false := by simp
end G294
namespace Go.Proofs.YtbopocpmodpfcaaDoor
open Go.RowKit G294

end Go.Proofs.YtbopocpmodpfcaaDoor

/- From the readings of a law's arguments to what its walk asks: a struct of two ints. -/
namespace G294
open Go Go.ChangeShapes Go.WideShapes Go.ChangeAt Go.RowKit Go.Deep Go.Joins
section
variable {H : Type} {enc : TypeId × Value → H} {P : Program} {W : World} {base : Nat} {t : TypeId} {v : Value} {d : DataW H} {p : List MemPlace} {f0 f1 : Field}
theorem open_two (hs : P.underlying t = some (.struct #[f0, f1])) (hone : oneCellFields P #[f0, f1] = true) (hC : P.cellsOf t = 2) (u0 : P.underlying f0.type = some (.int .i64)) (u1 : P.underlying f1.type = some (.int .i64))
    (hv : Value.okWide P W .any base t v) (h : DataW.Trod enc P W 0 (fun _ => true) true t v d p) : ∃ g e : Int, v = .agg #[.int .i64 g, .int .i64 e] := by
  obtain ⟨v0, v1, y0, y1, n, rfl, _, _, h0, h1⟩ := open_agg2 hs hone hC hv h
  obtain ⟨g, hg, _⟩ := DataW.trod_int u0 h0
  obtain ⟨e, he, _⟩ := DataW.trod_int u1 h1
  simp only [List.cons.injEq, and_true] at hg he
  exact ⟨g, e, by rw [hg, he]⟩
end
end G294

/- Stripes in memory: two slices of texts. -/
namespace G294
open Go Go.RowKit
abbrev Strp := List (List UInt8) × List (List UInt8)
/-- a stripe of the call's own, its blocks from lo to hi: those of its data lie ahead of those of its parities -/
def OwnT (E : TypeId) (w : World) (lo hi : Nat) (v u : Value) (s : Strp) : Prop := ∃ mid, lo ≤ mid ∧ mid ≤ hi ∧ OwnStrs E w lo mid v s.1 ∧ OwnStrs E w mid hi u s.2
section
variable {w w' : World} {lo hi a b : Nat} {v u : Value} {l : List (List UInt8)} {s : Strp} {E : TypeId}
theorem OwnStrs.widerS {lo' hi' : Nat} (h : OwnStrs E w lo hi v l) (h1 : lo' ≤ lo) (h2 : hi ≤ hi') (h3 : hi' ≤ w.heap.size) : OwnStrs E w lo' hi' v l := by
  obtain ⟨o1, o2, o3⟩ := h
  refine ⟨⟨o1.1, ?_⟩, h3, fun g e => Nat.lt_of_lt_of_le (o3 g e) h2⟩
  rcases o1.2 with hn | ⟨g, cap, cur, rfl, hbg, rest⟩
  · exact .inl hn
  · exact .inr ⟨g, cap, cur, rfl, Nat.le_trans h1 hbg, rest⟩
theorem OwnT.keep (h : OwnT E w lo hi v u s) (t : TurnIn a b w w') (d : hi ≤ a ∨ b ≤ lo) : OwnT E w' lo hi v u s := by
  obtain ⟨mid, h1, h2, h3, h4⟩ := h
  exact ⟨mid, h1, h2, h3.keep t (by omega), h4.keep t (by omega)⟩
theorem OwnT.wider {lo' hi' : Nat} (h : OwnT E w lo hi v u s) (h1 : lo' ≤ lo) (h2 : hi ≤ hi') (h3 : hi' ≤ w.heap.size) : OwnT E w lo' hi' v u s := by
  obtain ⟨mid, g1, g2, g3, g4⟩ := h
  exact ⟨mid, by omega, by omega, g3.widerS h1 (Nat.le_refl _) (by omega), g4.widerS (Nat.le_refl _) h2 h3⟩
theorem OwnT.isSlice (h : OwnT E w lo hi v u s) : ∃ A n c A' n' c', v = .slice A n c ∧ u = .slice A' n' c' := by
  obtain ⟨mid, _, _, h3, h4⟩ := h
  obtain ⟨A, n, c, e⟩ := h3.isSlice
  obtain ⟨A', n', c', e'⟩ := h4.isSlice
  exact ⟨_, _, _, _, _, _, e, e'⟩
theorem OwnT.seen1 (h : OwnT E w lo hi v u s) : Seen w v (strs s.1) := by
  obtain ⟨mid, _, _, h3, h4⟩ := h
  exact h3.seen
theorem OwnT.seen2 (h : OwnT E w lo hi v u s) : Seen w u (strs s.2) := by
  obtain ⟨mid, _, _, h3, h4⟩ := h
  exact h4.seen
theorem OwnT.nil (E : TypeId) (w : World) (lo : Nat) (h : lo ≤ w.heap.size) : OwnT E w lo w.heap.size (.slice none 0 0) (.slice none 0 0) ([], []) :=
  ⟨w.heap.size, h, Nat.le_refl _, OwnStrs.nil E w lo, OwnStrs.nil E w _⟩
theorem OwnT.of {w1 : World} (h : OwnStrs E w1 w.heap.size w1.heap.size v s.1) (k : OwnStrs E w' w1.heap.size w'.heap.size u s.2) (t : TurnIn 0 0 w1 w') (hw : w.heap.size ≤ w1.heap.size) : OwnT E w' w.heap.size w'.heap.size v u s :=
  ⟨w1.heap.size, hw, t.size, h.keep t (by omega), k⟩
end
def RetT (E : TypeId) (w : World) (s : Strp) (e : Ending) (w' : World) : Prop := ∃ v u, e = .returned (.agg #[v, u]) ∧ OwnT E w' w.heap.size w'.heap.size v u s ∧ TurnIn 0 0 w w'
def RetTOk (E : TypeId) (w : World) (s : Strp) (ok : Bool) (e : Ending) (w' : World) : Prop := ∃ v u, e = .returned (.tuple #[.agg #[v, u], .bool ok]) ∧ OwnT E w' w.heap.size w'.heap.size v u s ∧ TurnIn 0 0 w w'
def marksT (k n m : Nat) : Strp := (marksS k n, marksS (k + n) m)
def RetMarkT (E : TypeId) (w : World) (lo hi : Nat) (v u : Value) (k n m : Nat) (e : Ending) (w' : World) : Prop :=
  e = .returned (.int .i64 ((k + (n + m) : Nat) : Int)) ∧ OwnT E w' lo hi v u (marksT k n m) ∧ TurnIn lo hi w w'
def totT (s : Strp) : Nat := (s.1.length + sizM s.1) + (s.2.length + sizM s.2)
theorem totT_le (s : Strp) : s.1.length ≤ totT s ∧ s.2.length ≤ totT s := by unfold totT; omega
end G294
namespace Go.Proofs.YtbopocpmodpfcaaDoor
open Go.RowKit G294

set_option maxRecDepth 100000 in
set_option maxHeartbeats 1000000 in
theorem szStripe_yes (v u : Value) (s : Strp) (left : Nat) (w : World) (hv : Seen w v (strs s.1)) (hu : Seen w u (strs s.2)) (hm1 : ∀ t ∈ s.1, t.length ≤ maxLen) (hm2 : ∀ t ∈ s.2, t.length ≤ maxLen) (h : totT s ≤ left) (hl : left ≤ 1048576) :
    Calls Tryd.prog 43 #[.agg #[v, u], .int .i64 left] w (RetInt w ((left - totT s : Nat) : Int)) := by
  obtain ⟨A, c, hvv⟩ := hv.len
  rw [strs_length] at hvv
  subst hvv
  obtain ⟨A2, c2, huu⟩ := hu.len
  rw [strs_length] at huu
  subst huu
  unfold totT at h ⊢
  have a1 := turn_alloc w (.cells #[.slice A s.1.length c, .slice A2 s.2.length c2] 58)
  have c0 := alloc_duo0 w (.slice A s.1.length c) (.slice A2 s.2.length c2) 58
  have c1 := alloc_duo1 w (.slice A s.1.length c) (.slice A2 s.2.length c2) 58
  have l1 := alloc_lt w (.cells #[.slice A s.1.length c, .slice A2 s.2.length c2] 58)
  have HS := Lib.hid (hv.touch a1)
  have HU := Lib.hid (hu.touch a1)
  have HM1 := Lib.hid hm1
  have HM2 := Lib.hid hm2
  clear hv hu hm1 hm2
  obtain ⟨t1, ht1⟩ : ∃ z, z = s.1.length + sizM s.1 := ⟨_, rfl⟩
  obtain ⟨t2, ht2⟩ : ∃ z, z = s.2.length + sizM s.2 := ⟨_, rfl⟩
  rw [← ht1, ← ht2] at h ⊢
  have HT1 := Lib.hid ht1
  have HT2 := Lib.hid ht2
  clear ht1 ht2
  obtain ⟨z1, hz1⟩ : ∃ z, z = left - t1 := ⟨_, rfl⟩
  obtain ⟨z2, hz2⟩ : ∃ z, z = left - (t1 + t2) := ⟨_, rfl⟩
  have hz10 : ¬ (z1 : Int) < 0 := by omega
  have hz20 : ¬ (z2 : Int) < 0 := by omega
  have hzz : z1 - t2 = z2 := by omega
  have hz1l : z1 ≤ 1048576 := by omega
  have hz12 : t2 ≤ z1 := by omega
  have hz11 : t1 ≤ left := by omega
  have HZ1 := Lib.hid hz1
  have HZZ := Lib.hid hzz
  rw [← hz2]
  clear hz1 hz2 hzz
  go_enter Tryd.func43, Tryd.ntmps43
  go_wp2_with fail
  refine (szStringS_yes _ s.1 left _ HS.out HM1.out (by rw [← HT1.out]; exact hz11) hl).mono ?_
  rintro e w2 ⟨rfl, k2⟩
  rw [← HT1.out, ← HZ1.out]
  replace c0 := cell_turn k2 c0 l1
  replace c1 := cell_turn k2 c1 l1
  have HU2 := Lib.hid (HU.out.touch k2)
  go_wp2_with fail
  refine (szStringS_yes _ s.2 z1 _ HU2.out HM2.out (by rw [← HT2.out]; exact hz12) hz1l).mono ?_
  rintro e w3 ⟨rfl, k3⟩
  rw [← HT2.out, HZZ.out]
  go_wp2_with fail
  go_ret
  exact ⟨rfl, turn_trans (turn_trans a1 k2 (by omega)) k3 (by omega)⟩

set_option maxRecDepth 100000 in
set_option maxHeartbeats 1000000 in
theorem szStripe_no (v u : Value) (s : Strp) (left : Nat) (w : World) (hv : Seen w v (strs s.1)) (hu : Seen w u (strs s.2)) (hm1 : ∀ t ∈ s.1, t.length ≤ maxLen) (hm2 : ∀ t ∈ s.2, t.length ≤ maxLen) (h : left < totT s) (hl : left ≤ 1048576) :
    Calls Tryd.prog 43 #[.agg #[v, u], .int .i64 left] w (RetInt w (-1)) := by
  obtain ⟨A, c, hvv⟩ := hv.len
  rw [strs_length] at hvv
  subst hvv
  obtain ⟨A2, c2, huu⟩ := hu.len
  rw [strs_length] at huu
  subst huu
  unfold totT at h
  have a1 := turn_alloc w (.cells #[.slice A s.1.length c, .slice A2 s.2.length c2] 58)
  have c0 := alloc_duo0 w (.slice A s.1.length c) (.slice A2 s.2.length c2) 58
  have c1 := alloc_duo1 w (.slice A s.1.length c) (.slice A2 s.2.length c2) 58
  have l1 := alloc_lt w (.cells #[.slice A s.1.length c, .slice A2 s.2.length c2] 58)
  have HS := Lib.hid (hv.touch a1)
  have HU := Lib.hid (hu.touch a1)
  have HM1 := Lib.hid hm1
  have HM2 := Lib.hid hm2
  clear hv hu hm1 hm2
  obtain ⟨t1, ht1⟩ : ∃ z, z = s.1.length + sizM s.1 := ⟨_, rfl⟩
  obtain ⟨t2, ht2⟩ : ∃ z, z = s.2.length + sizM s.2 := ⟨_, rfl⟩
  rw [← ht1, ← ht2] at h
  have HT1 := Lib.hid ht1
  have HT2 := Lib.hid ht2
  clear ht1 ht2
  by_cases hb : left < t1
  · go_enter Tryd.func43, Tryd.ntmps43
    go_wp2_with fail
    refine (szStringS_no _ s.1 left _ HS.out HM1.out (by rw [← HT1.out]; exact hb) hl).mono ?_
    rintro e w2 ⟨rfl, k2⟩
    go_wp2_with fail
    go_ret
    exact ⟨rfl, turn_trans a1 k2 (by omega)⟩
  · obtain ⟨z1, hz1⟩ : ∃ z, z = left - t1 := ⟨_, rfl⟩
    have hz10 : ¬ (z1 : Int) < 0 := by omega
    have hz1l : z1 ≤ 1048576 := by omega
    have hz12 : z1 < t2 := by omega
    have hz11 : t1 ≤ left := by omega
    have HZ1 := Lib.hid hz1
    clear hz1
    go_enter Tryd.func43, Tryd.ntmps43
    go_wp2_with fail
    refine (szStringS_yes _ s.1 left _ HS.out HM1.out (by rw [← HT1.out]; exact hz11) hl).mono ?_
    rintro e w2 ⟨rfl, k2⟩
    rw [← HT1.out, ← HZ1.out]
    replace c0 := cell_turn k2 c0 l1
    replace c1 := cell_turn k2 c1 l1
    have HU2 := Lib.hid (HU.out.touch k2)
    go_wp2_with fail
    refine (szStringS_no _ s.2 z1 _ HU2.out HM2.out (by rw [← HT2.out]; exact hz12) hz1l).mono ?_
    rintro e w3 ⟨rfl, k3⟩
    go_wp2_with fail
    go_ret
    exact ⟨rfl, turn_trans (turn_trans a1 k2 (by omega)) k3 (by omega)⟩

set_option maxRecDepth 100000 in
set_option maxHeartbeats 1000000 in
theorem eqStripe_same (v u v' u' : Value) (s : Strp) (w : World) (hv : Seen w v (strs s.1)) (hu : Seen w u (strs s.2)) (hv' : Seen w v' (strs s.1)) (hu' : Seen w u' (strs s.2)) :
    Calls Tryd.prog 38 #[.agg #[v, u], .agg #[v', u']] w (RetBool w true) := by
  obtain ⟨A, c, hvv⟩ := hv.len
  obtain ⟨B, d, huu⟩ := hu.len
  obtain ⟨A2, c2, hvv2⟩ := hv'.len
  obtain ⟨B2, d2, huu2⟩ := hu'.len
  rw [strs_length] at hvv huu hvv2 huu2
  subst hvv huu hvv2 huu2
  have kb : TurnIn 0 0 w ((w.alloc (.cells #[.slice A s.1.length c, .slice B s.2.length d] 25)).alloc (.cells #[.slice A2 s.1.length c2, .slice B2 s.2.length d2] 25)) := turn_trans (turn_alloc _ _) (turn_alloc _ _) (by omega)
  have z2 : ((w.alloc (.cells #[.slice A s.1.length c, .slice B s.2.length d] 25)).alloc (.cells #[.slice A2 s.1.length c2, .slice B2 s.2.length d2] 25)).heap.size = w.heap.size + 2 := by simp
  have c0 := cell_turn (turn_alloc (w.alloc (.cells #[.slice A s.1.length c, .slice B s.2.length d] 25)) (.cells #[.slice A2 s.1.length c2, .slice B2 s.2.length d2] 25)) (alloc_duo0 w (.slice A s.1.length c) (.slice B s.2.length d) 25) (alloc_lt _ _)
  have c1 := cell_turn (turn_alloc (w.alloc (.cells #[.slice A s.1.length c, .slice B s.2.length d] 25)) (.cells #[.slice A2 s.1.length c2, .slice B2 s.2.length d2] 25)) (alloc_duo1 w (.slice A s.1.length c) (.slice B s.2.length d) 25) (alloc_lt _ _)
  have d0 := alloc_duo0 (w.alloc (.cells #[.slice A s.1.length c, .slice B s.2.length d] 25)) (.slice A2 s.1.length c2) (.slice B2 s.2.length d2) 25
  have d1 := alloc_duo1 (w.alloc (.cells #[.slice A s.1.length c, .slice B s.2.length d] 25)) (.slice A2 s.1.length c2) (.slice B2 s.2.length d2) 25
  rw [World.size_alloc] at d0 d1
  have HV := Lib.hid (hv.touch kb)
  have HU := Lib.hid (hu.touch kb)
  have HV2 := Lib.hid (hv'.touch kb)
  have HU2 := Lib.hid (hu'.touch kb)
  clear hv hu hv' hu'
  go_enter Tryd.func38, Tryd.ntmps38
  go_wp2_with fail
  refine (eqStringS_same _ _ s.1 _ HV.out HV2.out).mono ?_
  rintro e w2 ⟨rfl, k2⟩
  replace c1 := cell_turn k2 c1 (by omega)
  replace d1 := cell_turn k2 d1 (by omega)
  have HU3 := Lib.hid (HU.out.touch k2)
  have HU4 := Lib.hid (HU2.out.touch k2)
  go_wp2_with fail
  refine (eqStringS_same _ _ s.2 _ HU3.out HU4.out).mono ?_
  rintro e w3 ⟨rfl, k3⟩
  go_wp2_with fail
  go_ret
  exact ⟨rfl, turn_trans (turn_trans kb k2 (by omega)) k3 (by omega)⟩

set_option maxRecDepth 100000 in
set_option maxHeartbeats 1000000 in
theorem markStripe_own (v u : Value) (s : Strp) (k0 lo hi : Nat) (w : World) (ho : OwnT 9 w lo hi v u s) (h1 : 0 < k0) (hk0 : k0 + (s.1.length + s.2.length) ≤ 1000000000000) :
    Calls Tryd.prog 41 #[.agg #[v, u], .int .i64 k0] w (RetMarkT 9 w lo hi v u k0 s.1.length s.2.length) := by
  obtain ⟨mid, hlm, hmh, o1, o2⟩ := ho
  obtain ⟨A, n, c, rfl⟩ := o1.isSlice
  obtain ⟨B, m, d, rfl⟩ := o2.isSlice
  have htop : hi ≤ w.heap.size := o2.2.1
  have a1 := turn_alloc w (.cells #[.slice A n c, .slice B m d] 25)
  have z1 := World.size_alloc w (.cells #[.slice A n c, .slice B m d] 25)
  have c0 := alloc_duo0 w (.slice A n c) (.slice B m d) 25
  have c1 := alloc_duo1 w (.slice A n c) (.slice B m d) 25
  have HO1 := Lib.hid (o1.keep a1 (by omega))
  have HO2 := Lib.hid (o2.keep a1 (by omega))
  clear o1 o2
  obtain ⟨y1, hy1⟩ : ∃ z, z = s.1.length := ⟨_, rfl⟩
  obtain ⟨y2, hy2⟩ : ∃ z, z = s.2.length := ⟨_, rfl⟩
  rw [← hy1, ← hy2] at hk0 ⊢
  have HY1 := Lib.hid hy1
  have HY2 := Lib.hid hy2
  clear hy1 hy2
  obtain ⟨k1, hk1⟩ : ∃ z, z = k0 + y1 := ⟨_, rfl⟩
  obtain ⟨k2, hk2⟩ : ∃ z, z = k0 + (y1 + y2) := ⟨_, rfl⟩
  have HK1 := Lib.hid hk1
  have HK2 := Lib.hid hk2
  have HK3 : Hid (k1 + y2 = k2) := by show k1 + y2 = k2; omega
  have hk1b : 0 < k1 := by omega
  have hk1c : k1 + y2 ≤ 1000000000000 := by omega
  have hk0c : k0 + y1 ≤ 1000000000000 := by omega
  clear hk1 hk2
  go_enter Tryd.func41, Tryd.ntmps41
  go_wp2_with fail
  refine (markStringS_own _ s.1 k0 lo mid _ HO1.out h1 (by rw [← HY1.out]; exact hk0c)).mono ?_
  rintro e w2 ⟨rfl, om1, t2⟩
  rw [← HY1.out] at om1 ⊢
  rw [← HK1.out]
  have s2 := t2.size
  replace c1 := cell_keepT c1 (by omega) t2 (by omega)
  have HO3 := Lib.hid (HO2.out.keep t2 (by omega))
  go_wp2_with fail
  refine (markStringS_own _ s.2 k1 mid hi _ HO3.out hk1b (by rw [← HY2.out]; exact hk1c)).mono ?_
  rintro e w3 ⟨rfl, om2, t3⟩
  rw [← HY2.out] at om2 ⊢
  rw [HK3.out]
  go_wp2_with fail
  go_ret
  refine ⟨by rw [HK2.out]; rfl, ⟨mid, hlm, hmh, om1.keep t3 (by omega), by rw [HK1.out] at om2; exact om2⟩, ?_⟩
  have t1' : TurnIn lo hi w (w.alloc (.cells #[.slice A n c, .slice B m d] 25)) := ⟨a1.os, a1.tape, a1.output, a1.size, fun i hi' _ => a1.block i hi' (by omega)⟩
  exact turn_trans (turn_trans t1' t2 (by omega)) t3 (by omega)

set_option maxRecDepth 100000 in
set_option maxHeartbeats 1000000 in
theorem heldStripe_own (v u : Value) (k0 n m : Nat) (w : World) (hv : Seen w v (strs (marksT k0 n m).1)) (hu : Seen w u (strs (marksT k0 n m).2)) (h1 : 0 < k0) (hk0 : k0 + (n + m) ≤ 1000000000000) :
    Calls Tryd.prog 42 #[.agg #[v, u], .int .i64 k0] w (RetInt w ((k0 + (n + m) : Nat) : Int)) := by
  obtain ⟨A, c, hvv⟩ := hv.len
  obtain ⟨B, d, huu⟩ := hu.len
  simp only [marksT, strs_length, marksS_length] at hvv huu
  subst hvv huu
  have a1 := turn_alloc w (.cells #[.slice A n c, .slice B m d] 25)
  have l1 := alloc_lt w (.cells #[.slice A n c, .slice B m d] 25)
  have c0 := alloc_duo0 w (.slice A n c) (.slice B m d) 25
  have c1 := alloc_duo1 w (.slice A n c) (.slice B m d) 25
  have HV : Hid (Seen _ _ (strs (marksS k0 n))) := Lib.hid (hv.touch a1)
  have HU : Hid (Seen _ _ (strs (marksS (k0 + n) m))) := Lib.hid (hu.touch a1)
  clear hv hu
  obtain ⟨k1, hk1⟩ : ∃ z, z = k0 + n := ⟨_, rfl⟩
  obtain ⟨k2, hk2⟩ : ∃ z, z = k0 + (n + m) := ⟨_, rfl⟩
  rw [← hk1] at HU
  rw [← hk2]
  have hn1 : ¬ (k1 : Int) < 0 := by omega
  have hn2 : ¬ (k2 : Int) < 0 := by omega
  have hk1b : 0 < k1 := by omega
  have hk1c : k1 + m ≤ 1000000000000 := by omega
  have hk0c : k0 + n ≤ 1000000000000 := by omega
  have HK1 := Lib.hid hk1
  have HK3 : Hid (k1 + m = k2) := by show k1 + m = k2; omega
  clear hk1 hk2
  go_enter Tryd.func42, Tryd.ntmps42
  go_wp2_with fail
  refine (heldStringS_own _ k0 n _ HV.out h1 hk0c).mono ?_
  rintro e w2 ⟨rfl, t2⟩
  rw [← HK1.out]
  replace c1 := cell_turn t2 c1 l1
  have HU3 := Lib.hid (HU.out.touch t2)
  go_wp2_with fail
  refine (heldStringS_own _ k1 m _ HU3.out hk1b hk1c).mono ?_
  rintro e w3 ⟨rfl, t3⟩
  rw [HK3.out]
  go_wp2_with fail
  go_ret
  exact ⟨rfl, turn_trans (turn_trans a1 t2 (by omega)) t3 (by omega)⟩

set_option maxRecDepth 100000 in
set_option maxHeartbeats 2000000 in
theorem toStripe_own (v u : Value) (s : Strp) (w : World) (hv : Seen w v (strs s.1)) (hu : Seen w u (strs s.2)) (hn1 : s.1.length ≤ 1048576) (hn2 : s.2.length ≤ 1048576) :
    Calls Tryd.prog 44 #[.agg #[v, u]] w (RetT 9 w s) := by
  obtain ⟨A, c, hvv⟩ := hv.len
  obtain ⟨B, d, huu⟩ := hu.len
  rw [strs_length] at hvv huu
  subst hvv huu
  have kb : TurnIn 0 0 w (((w.alloc (.cells #[.slice A s.1.length c, .slice B s.2.length d] 58)).alloc (.cells #[.slice none 0 0, .slice none 0 0] 25)).alloc (.cells #[.slice none 0 0, .slice none 0 0] 25)) := turn_trans (turn_trans (turn_alloc _ _) (turn_alloc _ _) (by omega)) (turn_alloc _ _) (by omega)
  have z0 : (((w.alloc (.cells #[.slice A s.1.length c, .slice B s.2.length d] 58)).alloc (.cells #[.slice none 0 0, .slice none 0 0] 25)).alloc (.cells #[.slice none 0 0, .slice none 0 0] 25)).heap.size = w.heap.size + 3 := by simp
  have kp := turn_trans (turn_alloc (w.alloc (.cells #[.slice A s.1.length c, .slice B s.2.length d] 58)) (.cells #[.slice none 0 0, .slice none 0 0] 25)) (turn_alloc _ (.cells #[.slice none 0 0, .slice none 0 0] 25)) (by omega)
  have p1 := cell_turn kp (alloc_duo1 w (.slice A s.1.length c) (.slice B s.2.length d) 58) (alloc_lt _ _)
  have kc := turn_alloc ((w.alloc (.cells #[.slice A s.1.length c, .slice B s.2.length d] 58)).alloc (.cells #[.slice none 0 0, .slice none 0 0] 25)) (.cells #[.slice none 0 0, .slice none 0 0] 25)
  have r0 := cell_turn kc (alloc_duo0 (w.alloc (.cells #[.slice A s.1.length c, .slice B s.2.length d] 58)) (.slice none 0 0) (.slice none 0 0) 25) (alloc_lt _ _)
  have r1 := cell_turn kc (alloc_duo1 (w.alloc (.cells #[.slice A s.1.length c, .slice B s.2.length d] 58)) (.slice none 0 0) (.slice none 0 0) 25) (alloc_lt _ _)
  have g0 := frozen_turn kc (alloc_frz (w.alloc (.cells #[.slice A s.1.length c, .slice B s.2.length d] 58)) #[.slice none 0 0, .slice none 0 0] 25 0) (alloc_lt _ _)
  have g1 := frozen_turn kc (alloc_frz (w.alloc (.cells #[.slice A s.1.length c, .slice B s.2.length d] 58)) #[.slice none 0 0, .slice none 0 0] 25 1) (alloc_lt _ _)
  have o0 := alloc_duo0 ((w.alloc (.cells #[.slice A s.1.length c, .slice B s.2.length d] 58)).alloc (.cells #[.slice none 0 0, .slice none 0 0] 25)) (.slice none 0 0) (.slice none 0 0) 25
  have o1 := alloc_duo1 ((w.alloc (.cells #[.slice A s.1.length c, .slice B s.2.length d] 58)).alloc (.cells #[.slice none 0 0, .slice none 0 0] 25)) (.slice none 0 0) (.slice none 0 0) 25
  have f0 := alloc_frz ((w.alloc (.cells #[.slice A s.1.length c, .slice B s.2.length d] 58)).alloc (.cells #[.slice none 0 0, .slice none 0 0] 25)) #[.slice none 0 0, .slice none 0 0] 25 0
  have f1 := alloc_frz ((w.alloc (.cells #[.slice A s.1.length c, .slice B s.2.length d] 58)).alloc (.cells #[.slice none 0 0, .slice none 0 0] 25)) #[.slice none 0 0, .slice none 0 0] 25 1
  rw [World.size_alloc] at r0 r1 g0 g1
  rw [World.size_alloc, World.size_alloc] at o0 o1 f0 f1
  clear kc kp
  have HS := Lib.hid (hv.touch kb)
  have HU := Lib.hid hu
  clear hv hu
  go_enter Tryd.func44, Tryd.ntmps44
  go_wp2_with fail
  refine (toStringS_own _ s.1 _ HS.out hn1).mono ?_
  rintro e w2 ⟨x, rfl, hx, k2⟩
  have s2 := k2.size
  replace p1 := cell_turn k2 p1 (by omega)
  replace r0 := cell_turn k2 r0 (by omega)
  replace r1 := cell_turn k2 r1 (by omega)
  replace g0 := frozen_turn k2 g0 (by omega)
  replace g1 := frozen_turn k2 g1 (by omega)
  replace o0 := cell_turn k2 o0 (by omega)
  replace o1 := cell_turn k2 o1 (by omega)
  replace f0 := frozen_turn k2 f0 (by omega)
  replace f1 := frozen_turn k2 f1 (by omega)
  obtain ⟨A2, n2, c2, rfl⟩ := hx.isSlice
  have ks := turn_setCell w2 (w.heap.size + 1 + 1) 0 (.slice A2 n2 c2)
  have hb2 := (turn_trans kb k2 (by omega)).to_below
  have hb3 : Below w.heap.size w (w2.setCell ⟨w.heap.size + 1 + 1, 0, none⟩ (.slice A2 n2 c2)) := hb2.setCell (show w.heap.size ≤ w.heap.size + 1 + 1 by omega) _
  have HX3 := Lib.hid (hx.keep ks (by omega))
  have q0 : (w2.setCell ⟨w.heap.size + 1 + 1, 0, none⟩ (.slice A2 n2 c2)).cell? ⟨w.heap.size + 1 + 1, 0, none⟩ = some (.slice A2 n2 c2) := World.cell?_setCell_same _ _ _ o0
  have q1 : (w2.setCell ⟨w.heap.size + 1 + 1, 0, none⟩ (.slice A2 n2 c2)).cell? ⟨w.heap.size + 1 + 1, 1, none⟩ = some (.slice none 0 0) := (World.cell?_setCell_other _ _ _ _ (by simp)).trans o1
  have q2 : (w2.setCell ⟨w.heap.size + 1 + 1, 0, none⟩ (.slice A2 n2 c2)).frozen? ⟨w.heap.size + 1 + 1, 1, none⟩ = false := by simp [f1]
  replace p1 := (cell_set_other w2 (B := w.heap.size + 1 + 1) (B' := w.heap.size) 0 1 (.slice A2 n2 c2) (by omega)).trans p1
  replace r0 := (cell_set_other w2 (B := w.heap.size + 1 + 1) (B' := w.heap.size + 1) 0 0 (.slice A2 n2 c2) (by omega)).trans r0
  replace r1 := (cell_set_other w2 (B := w.heap.size + 1 + 1) (B' := w.heap.size + 1) 0 1 (.slice A2 n2 c2) (by omega)).trans r1
  replace g0 := (frozen_set_other w2 (B := w.heap.size + 1 + 1) (B' := w.heap.size + 1) 0 0 (.slice A2 n2 c2) (by omega)).trans g0
  replace g1 := (frozen_set_other w2 (B := w.heap.size + 1 + 1) (B' := w.heap.size + 1) 0 1 (.slice A2 n2 c2) (by omega)).trans g1
  have s3 := ks.size
  have s3' : w.heap.size + 3 ≤ w2.heap.size := by omega
  have HU3 := Lib.hid (HU.out.below hb3)
  have HZ0 := Lib.hid z0
  clear hx hb2 z0 HS HU kb k2 ks
  go_wp2_with fail
  clear o0 o1 f0 f1
  generalize (w2.setCell ⟨w.heap.size + 1 + 1, 0, none⟩ (.slice A2 n2 c2)) = w3 at *
  refine (toStringS_own _ s.2 _ HU3.out hn2).mono ?_
  rintro e w4 ⟨y, rfl, hy, k4⟩
  have s4 := k4.size
  replace r0 := cell_turn k4 r0 (by omega)
  replace r1 := cell_turn k4 r1 (by omega)
  replace g0 := frozen_turn k4 g0 (by omega)
  replace g1 := frozen_turn k4 g1 (by omega)
  replace q0 := cell_turn k4 q0 (by omega)
  replace q1 := cell_turn k4 q1 (by omega)
  replace q2 := frozen_turn k4 q2 (by omega)
  obtain ⟨A4, n4, c4, rfl⟩ := hy.isSlice
  have hb4 := k4.base hb3 (by omega) (by omega)
  have ks := turn_setCell w4 (w.heap.size + 1 + 1) 1 (.slice A4 n4 c4)
  have hb5 : Below w.heap.size w (w4.setCell ⟨w.heap.size + 1 + 1, 1, none⟩ (.slice A4 n4 c4)) := hb4.setCell (show w.heap.size ≤ w.heap.size + 1 + 1 by omega) _
  have v1 : (w4.setCell ⟨w.heap.size + 1 + 1, 1, none⟩ (.slice A4 n4 c4)).cell? ⟨w.heap.size + 1 + 1, 1, none⟩ = some (.slice A4 n4 c4) := World.cell?_setCell_same _ _ _ q1
  have v0 : (w4.setCell ⟨w.heap.size + 1 + 1, 1, none⟩ (.slice A4 n4 c4)).cell? ⟨w.heap.size + 1 + 1, 0, none⟩ = some (.slice A2 n2 c2) := (World.cell?_setCell_other _ _ _ _ (by simp)).trans q0
  have t0 := (cell_set_other w4 (B := w.heap.size + 1 + 1) (B' := w.heap.size + 1) 1 0 (.slice A4 n4 c4) (by omega)).trans r0
  have t1 := (cell_set_other w4 (B := w.heap.size + 1 + 1) (B' := w.heap.size + 1) 1 1 (.slice A4 n4 c4) (by omega)).trans r1
  have u0 := (frozen_set_other w4 (B := w.heap.size + 1 + 1) (B' := w.heap.size + 1) 1 0 (.slice A4 n4 c4) (by omega)).trans g0
  have u1 := (frozen_set_other w4 (B := w.heap.size + 1 + 1) (B' := w.heap.size + 1) 1 1 (.slice A4 n4 c4) (by omega)).trans g1
  have HY := Lib.hid hy
  clear hy hb4
  go_wp2_with fail
  refine bodyPost_ret (v := .agg #[.slice A2 n2 c2, .slice A4 n4 c4]) (by simp [results, Tryd.results44, go_sem, t0, t1, u0, u1]) rfl ?_
  have kk0 := turn_setCell (w4.setCell ⟨w.heap.size + 1 + 1, 1, none⟩ (.slice A4 n4 c4)) (w.heap.size + 1) 0 (.slice A2 n2 c2)
  have kk1 := turn_setCell ((w4.setCell ⟨w.heap.size + 1 + 1, 1, none⟩ (.slice A4 n4 c4)).setCell ⟨w.heap.size + 1, 0, none⟩ (.slice A2 n2 c2)) (w.heap.size + 1) 1 (.slice A4 n4 c4)
  have h3 := HX3.out
  rw [HZ0.out] at h3
  have e1 := ks.size
  have e2 := kk0.size
  have e3 := kk1.size
  refine ⟨_, _, rfl, ⟨w3.heap.size, by omega, by omega, ((((h3.keep k4 (by omega)).keep ks (by omega)).keep kk0 (by omega)).keep kk1 (by omega)).widerS (by omega) (by omega) (by omega), (((HY.out.keep ks (by omega)).keep kk0 (by omega)).keep kk1 (by omega)).widerS (by omega) (by omega) (by omega)⟩, TurnIn.of_below ?_⟩
  exact (hb5.setCell (p := ⟨w.heap.size + 1, 0, none⟩) (show w.heap.size ≤ w.heap.size + 1 by omega) _).setCell (p := ⟨w.heap.size + 1, 1, none⟩) (show w.heap.size ≤ w.heap.size + 1 by omega) _

end Go.Proofs.YtbopocpmodpfcaaDoor

/- strings.Clone: the same bytes. -/
namespace Go.Proofs.YtbopocpmodpfcaaDoor
open Go.RowKit G294

set_option maxHeartbeats 4000000 in
set_option maxRecDepth 100000 in
theorem sliteClone_own (s : ByteArray) (w : World) (hlim : s.size ≤ 1000000) : Calls Tryd.prog 104 #[.string s] w fun e w' => e = .returned (.string s) ∧ TurnIn 0 0 w w' := by
  by_cases h0 : s.size = 0
  · have hs : s = ⟨#[]⟩ := by
      apply ByteArray.ext
      exact Array.eq_empty_of_size_eq_zero h0
    subst hs
    go_enter Tryd.func104, Tryd.ntmps104
    go_wp2_with fail
    go_ret
    exact ⟨rfl, TurnIn.refl _⟩
  · obtain ⟨i0, hi, hz0, hz1, hz2⟩ := info_parts infoByte
    have hinfo : (Tryd.prog.info? 5).map (·.size) = some 1 := by rw [hi]; simp [hz1]
    have hco : Tryd.prog.cellsOf 5 = 1 := by simp [Program.cellsOf, hi, hz1]
    obtain ⟨M, hM⟩ : ∃ M, M = madeCells (Value.int .u8 0).cells (((s.size : Nat) : Int).toNat * i0.size) := ⟨_, rfl⟩
    have hMs : M.size = s.size := by rw [hM, size_madeCells, hz1]; simp
    have hmk : ∀ W : World, (Instr.makeSlice 22 (.int .i64 (s.size : Int)) (.int .i64 (s.size : Int))).run Tryd.prog W = .ok (.slice (some ⟨W.heap.size, 0, none⟩) s.size s.size) (W.alloc (.cells M 5)) := fun W => by
      have h := run_make (P := Tryd.prog) W 22 5 i0 (.int .u8 0) Tryd.underlying22 hi hz0 .i64 .i64 (s.size : Int) (s.size : Int) (by omega) (by omega) (by rw [hz2]; omega) (by omega)
      rw [← hM] at h
      simpa using h
    clear hM
    have hcp := Lib.run_copy_row_string (P := Tryd.prog) (w.alloc (.cells M 5)) 22 9 3 5 w.heap.size 0 s.size s.size s M 5 Tryd.underlying22 hinfo (heap_alloc_new w _) (Nat.le_refl _) (by omega)
    obtain ⟨Y, hY⟩ : ∃ Y, Y = (M.toList.take 0 ++ Lib.byteCells s.data.toList ++ M.toList.drop (0 + s.size)).toArray := ⟨_, rfl⟩
    rw [← hY] at hcp
    have hYl : Y.toList = Lib.byteCells s.data.toList := by
      rw [hY, List.toList_toArray, List.take_zero, List.nil_append, List.drop_of_length_le (by rw [Array.length_toList]; omega), List.append_nil]
    have hYs : Y.size = s.size := by rw [← Array.length_toList, hYl, Lib.byteCells_length, ← Lib.size_eq]
    have hgY : ((w.alloc (.cells M 5)).setRow w.heap.size Y).heap[w.heap.size]? = some (.cells Y 5 (0, 0)) := setRow_heap _ _ M _ 5 (0, 0) (heap_alloc_new w _)
    have hne : s.data.toList ≠ [] := fun e => h0 (by rw [Lib.size_eq, e]; rfl)
    have hUS := Lib.run_unsafeString_row (P := Tryd.prog) ((w.alloc (.cells M 5)).setRow w.heap.size Y) 122 3 9 5 Tryd.underlying122 hco w.heap.size Y.size (by unfold World.shape?; rw [hgY]) s.data.toList hne (by rw [← Lib.size_eq]; omega) (by rw [← Lib.size_eq]; omega)
      (fun j x hx => Lib.cells_of_row hgY Y.size j _ (by rw [List.take_of_length_le (by rw [Array.length_toList]; exact Nat.le_refl _), hYl]; simp [Lib.byteCells, hx]))
    rw [← Lib.size_eq] at hUS
    clear hY
    go_enter Tryd.func104, Tryd.ntmps104
    go_wp2_with fail
    go_ret
    have hb1 : Below w.heap.size w (w.alloc (.cells M 5)) := (Below.refl _ w).alloc (Nat.le_refl _) _
    have hb2 : Below w.heap.size (w.alloc (.cells M 5)) ((w.alloc (.cells M 5)).setRow w.heap.size Y) := ⟨rfl, rfl, rfl, by simp, fun k hk => setRow_other _ _ _ _ (by omega)⟩
    exact ⟨rfl, TurnIn.of_below (Lib.below_freeze (hb1.trans hb2) (p := ⟨w.heap.size, 0, none⟩) (Nat.le_refl _) _)⟩

set_option maxHeartbeats 1000000 in
theorem clone_own (s : List UInt8) (w : World) (hl : s.length ≤ 1000000) : Calls Tryd.prog 79 #[.string (str s)] w (RetStr w s) := by
  have HC := Lib.hid (sliteClone_own (str s) w (by rw [str_size]; exact hl))
  go_enter Tryd.func79, Tryd.ntmps79
  go_wp2_with fail
  refine HC.out.mono ?_
  rintro e w' ⟨rfl, k⟩
  go_wp2_with fail
  go_ret
  exact ⟨rfl, k⟩

end Go.Proofs.YtbopocpmodpfcaaDoor

/- The methods of field bytes. -/
namespace Go.Proofs.YtbopocpmodpfcaaDoor
open Go.RowKit G294

set_option maxHeartbeats 400000 in
theorem fbTimes_any (a b : UInt8) (w : World) (ht : Tab w) :
    Calls Tryd.prog 160 #[.int .u8 (a.toNat : Int), .int .u8 (b.toNat : Int)] w fun e w' => e = .returned (.int .u8 ((gmul a b).toNat : Int)) ∧ w = w' := by
  go_enter Tryd.func160, Tryd.ntmps160
  go_wp2_with fail
  refine (times_u8 a b _ ht).mono ?_
  rintro e w' ⟨rfl, rfl⟩
  go_wp2_with fail
  go_ret
  exact ⟨rfl, rfl⟩

set_option maxHeartbeats 400000 in
theorem fbPlus_any (a b : UInt8) (w : World) :
    Calls Tryd.prog 159 #[.int .u8 (a.toNat : Int), .int .u8 (b.toNat : Int)] w fun e w' => e = .returned (.int .u8 ((a ^^^ b).toNat : Int)) ∧ w = w' := by
  have HX := Lib.hid (xor_u8 a b)
  go_enter Tryd.func159, Tryd.ntmps159
  go_wp2_with fail
  go_ret
  exact ⟨by rw [← HX.out]; rfl, rfl⟩

set_option maxHeartbeats 400000 in
theorem fbInverse_any (a : UInt8) (w : World) (ht : Tab w) :
    Calls Tryd.prog 158 #[.int .u8 (a.toNat : Int)] w fun e w' => e = .returned (.int .u8 ((ginv a).toNat : Int)) ∧ w = w' := by
  have HI := Lib.hid (ginv_toNat a)
  go_enter Tryd.func158, Tryd.ntmps158
  go_wp2_with fail
  refine (inverse_any a.toNat a.toNat_lt _ ht).mono ?_
  rintro e w' ⟨rfl, rfl⟩
  go_wp2_with fail
  go_ret
  exact ⟨by rw [HI.out]; rfl, rfl⟩

theorem methTimes (x : Int) (w : World) : (method 270 128 (.int .u8 x) "loop.example/g00294/impl.times").run Tryd.prog w = .ok (160, .int .u8 x) w := by kernel_rfl

theorem methPlus (x : Int) (w : World) : (method 270 128 (.int .u8 x) "loop.example/g00294/impl.plus").run Tryd.prog w = .ok (159, .int .u8 x) w := by kernel_rfl

theorem methInverse (x : Int) (w : World) : (method 270 128 (.int .u8 x) "loop.example/g00294/impl.inverse").run Tryd.prog w = .ok (158, .int .u8 x) w := by kernel_rfl
end Go.Proofs.YtbopocpmodpfcaaDoor

/- Elimination in place: pivotBelow, scaleRow, clearColumn, eliminate. -/
namespace Go.Proofs.YtbopocpmodpfcaaDoor
open Go.RowKit G294

def pivV (o : Option Nat) : Value := match o with
  | none => .tuple #[.int .i64 0, .bool false]
  | some k => .tuple #[.int .i64 k, .bool true]

set_option maxRecDepth 100000 in
set_option maxHeartbeats 1000000 in
theorem pivotBelow_any (r c a j : Nat) (F : Ents) (v : Value) (w : World) (hs : SeenM w v (mkM r c F)) (hr1 : 1 ≤ r) (hr : r ≤ 1000) (hc : c ≤ 1000) (ha : a ≤ r) (hj : j < c) :
    Calls Tryd.prog 138 #[v, .int .i64 a, .int .i64 j] w fun e w' => e = .returned (pivV (piv F r a j)) ∧ w = w' := by
  have HS := Lib.hid hs
  obtain ⟨A, cp, hvv, _, _⟩ := hs.len
  rw [mkM_length] at hvv
  subst hvv
  clear hs
  go_enter Tryd.func138, Tryd.ntmps138
  go_wp2_with fail
  go_loop [9] (fun i => ∃ k : Nat, a ≤ k ∧ k ≤ r ∧ i = .int .i64 k ∧ Hid (∀ i, a ≤ i → i < k → F i j = 0)) (fun i => r - (intOf i).toNat)
  case atStart => exact ⟨a, Nat.le_refl _, ha, rfl, fun i h1 h2 => by omega⟩
  case round =>
    obtain ⟨k, hak, hk, rfl, HK⟩ := hrel
    by_cases hlt : k < r
    · have hki : (k : Int) < (r : Int) := by omega
      have hji : (j : Int) < (c : Int) := by omega
      obtain ⟨bb, off, cp5, b', off', c', e6, hl5, h5, h6, h7, hl6, h8⟩ := HS.out.cellF k j hlt hj
      simp only [Value.slice.injEq] at e6
      obtain ⟨rfl, z9, rfl⟩ := e6
      clear z9
      unfold maxLen at hl5 hl6
      by_cases h0 : F k j = 0
      · have hb : (((F k j).toNat : Int) != 0) = false := by rw [h0]; rfl
        have HK2 : Hid (∀ i, a ≤ i → i < k + 1 → F i j = 0) := fun i h1 h2 => by
          by_cases e : i = k
          · rw [e]; exact h0
          · exact HK.out i h1 (by omega)
        clear h0
        go_wp2_with fail
        go_round
        case rel => exact ⟨k + 1, by omega, by omega, by go_num, HK2⟩
        case measure => simp [intOf]; omega
      · have hb : (((F k j).toNat : Int) != 0) = true := by
          rw [bne_iff_ne]; intro e
          exact h0 (u8_ext (by simpa using e))
        have HP := Lib.hid (piv_some hak hlt h0 HK.out)
        clear h0
        go_wp2_with fail
        go_ret2
        exact ⟨by rw [HP.out]; rfl, rfl⟩
    · obtain rfl : k = r := by omega
      have hki : ¬ (k : Int) < (k : Int) := by omega
      have HP := Lib.hid (piv_none HK.out)
      go_wp2_with fail
      go_ret2
      exact ⟨by rw [HP.out]; rfl, rfl⟩

/-- row k turns in place -/
def RowTurn (E EE : TypeId) (w : World) (lo hi : Nat) (v : Value) (L : Mat) (vs : List Value) (e : Ending) (w' : World) : Prop := e = .returned (.tuple #[]) ∧ OwnM E EE w' lo hi v L vs ∧ TurnIn lo hi w w'

set_option maxRecDepth 100000 in
set_option maxHeartbeats 1000000 in
theorem scaleRow_any (r c k lo hi : Nat) (F : Ents) (s : UInt8) (v u : Value) (vs : List Value) (w : World) (hM : OwnM 128 142 w lo hi v (mkM r c F) vs) (hk : k < r) (hu : vs[k]? = some u) (hc1 : 1 ≤ c) (hc : c ≤ 1000) (ht : Tab w) (h0 : 0 < lo) :
    Calls Tryd.prog 139 #[u, .int .u8 (s.toNat : Int)] w (RowTurn 128 142 w lo hi v (mkM r c (scF k s F)) vs) := by
  obtain ⟨bb, cp, hu2, e1, e2, e3, e4, e5, hfz, hcell⟩ := hM.rowF k hk hc1
  obtain rfl : u = .slice (some ⟨bb, 0, none⟩) c cp := Option.some.inj (hu.symm.trans hu2)
  have HU := Lib.hid hu
  have HM0 := Lib.hid (hM.congr (L' := mkM r c fun i j => if i = k ∧ j < 0 then gmul s (F k j) else F i j) (mkM_congr fun i j _ _ => by simp))
  have HT := Lib.hid ht
  have hm1 := methTimes
  unfold maxLen at e5
  clear hM hu hu2 hfz hcell ht
  go_enter Tryd.func139, Tryd.ntmps139
  go_wp2_with fail
  go_loopw [7] (fun i wr => ∃ m : Nat, m ≤ c ∧ i = .int .i64 m ∧ Hid (OwnM 128 142 wr lo hi v (mkM r c fun i j => if i = k ∧ j < m then gmul s (F k j) else F i j) vs) ∧ Hid (TurnIn lo hi w wr)) (fun i _ => c - (intOf i).toNat)
  case atStart => exact ⟨0, Nat.zero_le _, rfl, HM0, Lib.hid ⟨rfl, rfl, rfl, Nat.le_refl _, fun _ _ _ => rfl⟩⟩
  case round =>
    obtain ⟨m, hm, rfl, HM, HK⟩ := hrel
    by_cases hlm : m < c
    · have hmi : (m : Int) < (c : Int) := by omega
      obtain ⟨bb', cp', hu2, f1, f2, f3, f4, f5, hfz, hcell⟩ := HM.out.rowF k hk hc1
      obtain ⟨rfl, rfl⟩ : bb = bb' ∧ cp = cp' := by simpa using HU.out.symm.trans hu2
      have hcx := hcell m hlm
      have e : (if k = k ∧ m < m then gmul s (F k m) else F k m) = F k m := if_neg (by omega)
      rw [e] at hcx
      have hfr := hfz m
      have htr : Tab wr := fun i hi => (World.cell?_of_block (HK.out.block 0 (by have := HM0.out.top; omega) (by omega))).trans (HT.out i hi)
      have HTR := Lib.hid htr
      have HM2 := Lib.hid ((HM.out.storeF (j := m) (x := gmul s (F k m)) hk HU.out).congr (L' := mkM r c fun i j => if i = k ∧ j < m + 1 then gmul s (F k j) else F i j) (mkM_congr fun i j _ _ => by
        by_cases a1 : i = k
        · subst a1
          by_cases a2 : j = m
          · subst a2; simp
          · by_cases a3 : j < m
            · simp [a2, a3]; omega
            · simp [a2, a3]; omega
        · simp [a1]))
      have HK2 := Lib.hid (turn_trans HK.out (turn_setCell wr bb m (.int .u8 ((gmul s (F k m)).toNat : Int))) (by omega))
      have HC := Lib.hid (gmul_comm (F k m) s)
      clear hcell hfz hu2 f3 f5 htr e
      go_wp2_with fail
      refine (fbTimes_any (F k m) s _ HTR.out).mono ?_
      rintro e w' ⟨rfl, rfl⟩
      rw [HC.out]
      go_wp2_with fail
      go_roundw
      case rel => exact ⟨m + 1, by omega, by go_num, HM2, HK2⟩
      case measure => simp [intOf]; omega
    · obtain rfl : m = c := by omega
      have hmi : ¬ (m : Int) < (m : Int) := by omega
      go_wp2_with fail
      go_end0
      exact ⟨rfl, HM.out.congr (mkM_congr fun i j _ hj => by
        unfold scF
        by_cases a1 : i = k
        · subst a1; simp [hj]
        · simp [a1]), HK.out⟩

theorem stilly {P : Program} {f : FuncId} {args : Array Value} {w : World} {v : Value} (h : Calls P f args w fun e w' => e = .returned v ∧ w = w') :
    Calls P f args w fun e w' => e = .returned v ∧ w' = w := h.mono fun _ _ ⟨he, hw⟩ => ⟨he, hw.symm⟩

/-- column j cleared in the rows ahead of k and in the first m columns of row k -/
def clK (a j k m : Nat) (F : Ents) : Ents := fun i jj => if i < k ∨ (i = k ∧ jj < m) then clF a (fun i => F i j) F i jj else F i jj

set_option maxRecDepth 100000 in
set_option maxHeartbeats 2000000 in
theorem clearColumn_any (r c a j lo hi : Nat) (F : Ents) (v : Value) (vs : List Value) (w : World) (hM : OwnM 128 142 w lo hi v (mkM r c F) vs) (ha : a < r) (hj : j < c) (hr : r ≤ 1000) (hc : c ≤ 1000) (ht : Tab w) (h0 : 0 < lo) :
    Calls Tryd.prog 140 #[v, .int .i64 a, .int .i64 j] w (RowTurn 128 142 w lo hi v (mkM r c (clF a (fun i => F i j) F)) vs) := by
  obtain ⟨g, cp, rfl, hg1, hg2, hg3, hg4⟩ := hM.sliceF (by omega)
  have HM0 := Lib.hid (hM.congr (L' := mkM r c (clK a j 0 0 F)) (mkM_congr fun i jj _ _ => by simp [clK]))
  have HT := Lib.hid ht
  have hm1 := methTimes
  have hm2 := methPlus
  unfold maxLen at hg4
  clear hM ht
  go_enter Tryd.func140, Tryd.ntmps140
  go_wp2_with fail
  go_loopw [11] (fun i wr => ∃ k : Nat, k ≤ r ∧ i = .int .i64 k ∧ Hid (OwnM 128 142 wr lo hi (.slice (some ⟨g, 0, none⟩) r cp) (mkM r c (clK a j k 0 F)) vs) ∧ Hid (TurnIn lo hi w wr)) (fun i _ => r - (intOf i).toNat)
  case atStart => exact ⟨0, Nat.zero_le _, rfl, HM0, Lib.hid ⟨rfl, rfl, rfl, Nat.le_refl _, fun _ _ _ => rfl⟩⟩
  case round =>
    obtain ⟨k, hk, rfl, HM, HK⟩ := hrel
    by_cases hlt : k < r
    · have hki : (k : Int) < (r : Int) := by omega
      by_cases hka : k = a
      · have hbb : ((k : Int) == (a : Int)) = true := by simp [hka]
        have HM2 := Lib.hid (HM.out.congr (L' := mkM r c (clK a j (k + 1) 0 F)) (mkM_congr fun i jj _ _ => by
          unfold clK
          by_cases a1 : i = k
          · subst a1; simp [clF, hka]
          · by_cases a2 : i < k
            · simp [a2, show i < k + 1 by omega]
            · simp [a1, a2, show ¬ i < k + 1 by omega]))
        clear hka
        go_wp2_with fail
        go_roundw
        case rel => exact ⟨k + 1, by omega, by go_num, HM2, HK⟩
        case measure => simp [intOf]; omega
      · have hbb : ((k : Int) == (a : Int)) = false := by simp; omega
        obtain ⟨bk, ck, huk, k1, k2, k3, k4, k5, kfz, kcell⟩ := HM.out.rowF k hlt (by omega)
        obtain ⟨ba, ca, hua, a1, a2, a3, a4, a5, afz, acell⟩ := HM.out.rowF a ha (by omega)
        have hck := HM.out.cellAt huk
        have hcf := kcell j hj
        have ef : clK a j k 0 F k j = F k j := by simp [clK]
        rw [ef] at hcf
        have hne : bk ≠ ba := fun e => hka ((HM.out.apart a _ ba hua rfl).2 k _ huk (by rw [e]; rfl))
        have HUK := Lib.hid huk
        have HUA := Lib.hid hua
        have n1 : g ≠ bk := fun e => k3 (by rw [e]; rfl)
        have n2 : g ≠ ba := fun e => a3 (by rw [e]; rfl)
        have hji : (j : Int) < (c : Int) := by omega
        unfold maxLen at k5 a5
        have HKA := Lib.hid hka
        clear kcell acell kfz afz huk hua k3 a3 ef hka
        go_wp2_with fail
        go_loopw [29] (fun i wq => ∃ m : Nat, m ≤ c ∧ i = .int .i64 m ∧ Hid (OwnM 128 142 wq lo hi (.slice (some ⟨g, 0, none⟩) r cp) (mkM r c (clK a j k m F)) vs) ∧ Hid (TurnIn lo hi w wq)) (fun i _ => c - (intOf i).toNat)
        case atStart => exact ⟨0, Nat.zero_le _, rfl, HM, HK⟩
        case round =>
          obtain ⟨m, hm, rfl, HM, HK⟩ := hrel
          clear hck hcf
          by_cases hlm : m < c
          · have hmi : (m : Int) < (c : Int) := by omega
            have hk0 : (0 : Int) ≤ (k : Int) := Int.natCast_nonneg _
            have hm0 : (0 : Int) ≤ (m : Int) := Int.natCast_nonneg _
            have ha0 : (0 : Int) ≤ (a : Int) := Int.natCast_nonneg _
            have hai : (a : Int) < (r : Int) := by omega
            obtain ⟨bk', ck', huk, _, _, _, _, _, kfz, kcell⟩ := HM.out.rowF k hlt (by omega)
            obtain ⟨rfl, rfl⟩ : bk = bk' ∧ ck = ck' := by simpa using HUK.out.symm.trans huk
            obtain ⟨ba', ca', hua, _, _, _, _, _, afz, acell⟩ := HM.out.rowF a ha (by omega)
            obtain ⟨rfl, rfl⟩ : ba = ba' ∧ ca = ca' := by simpa using HUA.out.symm.trans hua
            have hck := HM.out.cellAt HUK.out
            have hca := HM.out.cellAt HUA.out
            have hcx := kcell m hlm
            have hcy := acell m hlm
            have hfr := kfz m
            have ex : clK a j k m F k m = F k m := by simp [clK]
            have ey : clK a j k m F a m = F a m := by unfold clK clF; split <;> simp
            rw [ex] at hcx
            rw [ey] at hcy
            have htr : Tab wr := fun i hi => (World.cell?_of_block (HK.out.block 0 (by have := HM0.out.top; omega) (by omega))).trans (HT.out i hi)
            have htd : Tab wr.drew := htr
            have HTR := Lib.hid htd
            obtain ⟨y, hyy⟩ : ∃ y : UInt8, y = F k m ^^^ gmul (F k j) (F a m) := ⟨_, rfl⟩
            have HPL : Hid (∀ W, Calls Tryd.prog 159 #[.int .u8 ((F k m).toNat : Int), .int .u8 ((gmul (F k j) (F a m)).toNat : Int)] W fun e w' => e = .returned (.int .u8 (y.toNat : Int)) ∧ w' = W) := by
              intro W
              rw [hyy]
              exact stilly (fbPlus_any (F k m) (gmul (F k j) (F a m)) W)
            have HM2 := Lib.hid (((HM.out.storeF (j := m) (x := y) hlt HUK.out).congr (L' := mkM r c (clK a j k (m + 1) F)) (mkM_congr fun i jj _ _ => by
              unfold clK
              by_cases b1 : i = k
              · subst b1
                by_cases b2 : jj = m
                · subst b2
                  have : ¬ i = a := HKA.out
                  simp [clF, this, hyy]
                · by_cases b3 : jj < m
                  · simp [b2, b3, show jj < m + 1 by omega]
                  · simp [b2, b3, show ¬ jj < m + 1 by omega]
              · simp [b1])).drewN 1)
            have hk2 := turn_trans HK.out (turn_setCell wr bk m (.int .u8 (y.toNat : Int))) (by omega)
            have HK2 : Hid (TurnIn lo hi w (wr.setCell ⟨bk, m, none⟩ (.int .u8 (y.toNat : Int))).drew) := ⟨hk2.os, hk2.tape, hk2.output, hk2.size, hk2.block⟩
            clear kcell acell kfz afz huk hua ex ey htr htd hk2 hyy
            go_wp2_with fail
            refine wp_region_still_tail 25 (by kernel_rfl) (by kernel_rfl) ?_
            simp only [List.take_succ_cons, List.take_zero, List.drop_succ_cons, List.drop_zero]
            repeat (first | still_step | still_call (stilly (fbTimes_any (F k j) (F a m) _ HTR.out)) | still_call (HPL.out _))
            refine wpStill_nil ?_
            go_wp2_with fail
            go_roundw
            case rel => exact ⟨m + 1, by omega, by go_num, HM2, HK2⟩
            case measure => simp [intOf]; omega
          · obtain rfl : m = c := by omega
            have hmi : ¬ (m : Int) < (m : Int) := by omega
            go_wp2_with fail
            go_roundw
            case rel => exact ⟨k + 1, by omega, by go_num, Lib.hid (HM.out.congr (mkM_congr fun i jj _ hjj => by
              unfold clK
              by_cases b1 : i = k
              · subst b1; simp [hjj]
              · by_cases b2 : i < k
                · simp [b2, show i < k + 1 by omega]
                · simp [b1, b2, show ¬ i < k + 1 by omega])), HK⟩
            case measure => simp [intOf]; omega
    · obtain rfl : k = r := by omega
      have hki : ¬ (k : Int) < (k : Int) := by omega
      go_wp2_with fail
      go_end0
      exact ⟨rfl, HM.out.congr (mkM_congr fun i j hi _ => by simp [clK, hi]), HK.out⟩
end Go.Proofs.YtbopocpmodpfcaaDoor
