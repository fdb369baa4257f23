/- Joined texts: OpenLoc, OpenMsr, StrpMem, Cur6, CloneT, TextsBy, SpecSides. -/
import Derived.Test.YtjgmegfbfjmnfaaDoorProg
import Derived.Test.YtjgmegfbfjmnfaaDoorBd00
import Derived.Test.YtjgmegfbfjmnfaaDoorBd13
import Derived.Lib.SmallJoins
import Derived.Test.YtjgmegfbfjmnfaaDoorBd12
import Derived.Test.YtjgmegfbfjmnfaaDoorBd02
import Derived.Test.YtjgmegfbfjmnfaaDoorBd04
import Derived.Test.YtjgmegfbfjmnfaaDoorBd01
import Derived.Lib.Strings
import Derived.Lib.Walk
import Derived.Lib.BufferWrite
import Derived.Lib.UnsafeStr
import Derived.Lib.Hide
import Derived.Laws.MakeOwn
import Derived.WalkKit
import Derived.Test.YtjgmegfbfjmnfaaDoorBd09
import Derived.Test.YtjgmegfbfjmnfaaDoorBd07
import Derived.Test.YtjgmegfbfjmnfaaDoorBd05
set_option linter.unusedSimpArgs false
set_option linter.unusedVariables false
/- From the readings of a law's arguments to what its walk asks: a struct of three ints. -/
namespace G294
open Go Go.ChangeShapes Go.WideShapes Go.ChangeAt Go.RowKit Go.Deep Go.Joins
section
variable {H : Type} {enc : TypeId × Value → H} {P : Program} {W : World} {base : Nat} {t : TypeId} {v : Value} {d : DataW H} {p : List MemPlace} {f0 f1 f2 : Field}
theorem open_three (hs : P.underlying t = some (.struct #[f0, f1, f2])) (hone : oneCellFields P #[f0, f1, f2] = true) (hC : P.cellsOf t = 3) (u0 : P.underlying f0.type = some (.int .i64)) (u1 : P.underlying f1.type = some (.int .i64)) (u2 : P.underlying f2.type = some (.int .i64))
    (hv : Value.okWide P W .any base t v) (h : DataW.Trod enc P W 0 (fun _ => true) true t v d p) : ∃ g e q : Int, v = .agg #[.int .i64 g, .int .i64 e, .int .i64 q] := by
  obtain ⟨v0, v1, v2, y0, y1, y2, n, rfl, _, _, h0, h1, h2⟩ := open_agg3 hs hone hC hv h
  obtain ⟨g, hg, _⟩ := DataW.trod_int u0 h0
  obtain ⟨e, he, _⟩ := DataW.trod_int u1 h1
  obtain ⟨q, hq, _⟩ := DataW.trod_int u2 h2
  simp only [List.cons.injEq, and_true] at hg he hq
  exact ⟨g, e, q, by rw [hg, he, hq]⟩
end
theorem alloc_tri0 (w : World) (x y z : Value) (T : TypeId) : (w.alloc (.cells #[x, y, z] T)).cell? ⟨w.heap.size, 0, none⟩ = some x := by simp
theorem alloc_tri1 (w : World) (x y z : Value) (T : TypeId) : (w.alloc (.cells #[x, y, z] T)).cell? ⟨w.heap.size, 1, none⟩ = some y := by simp
theorem alloc_tri2 (w : World) (x y z : Value) (T : TypeId) : (w.alloc (.cells #[x, y, z] T)).cell? ⟨w.heap.size, 2, none⟩ = some z := by simp
theorem alloc_ltT (w : World) (o : Obj) : w.heap.size < (w.alloc o).heap.size := by simp
theorem cell_keepT {w w' : World} {B o a b : Nat} {x : Value} (h : w.cell? ⟨B, o, none⟩ = some x) (hl : B < w.heap.size) (t : TurnIn a b w w') (d : B < a ∨ b ≤ B) : w'.cell? ⟨B, o, none⟩ = some x :=
  (World.cell?_of_block (t.block B hl (by omega))).trans h
end G294

/- From the readings of a law's arguments to what its walk asks: a struct of two ints. -/
namespace G294
open Go Go.ChangeShapes Go.WideShapes Go.ChangeAt Go.RowKit Go.Deep Go.Joins
section
variable {H : Type} {enc : TypeId × Value → H} {P : Program} {W : World} {base : Nat} {t : TypeId} {v : Value} {d : DataW H} {p : List MemPlace} {f0 f1 : Field}
theorem open_two (hs : P.underlying t = some (.struct #[f0, f1])) (hone : oneCellFields P #[f0, f1] = true) (hC : P.cellsOf t = 2) (u0 : P.underlying f0.type = some (.int .i64)) (u1 : P.underlying f1.type = some (.int .i64))
    (hv : Value.okWide P W .any base t v) (h : DataW.Trod enc P W 0 (fun _ => true) true t v d p) : ∃ g e : Int, v = .agg #[.int .i64 g, .int .i64 e] := by
  obtain ⟨v0, v1, y0, y1, n, rfl, _, _, h0, h1⟩ := open_agg2 hs hone hC hv h
  obtain ⟨g, hg, _⟩ := DataW.trod_int u0 h0
  obtain ⟨e, he, _⟩ := DataW.trod_int u1 h1
  simp only [List.cons.injEq, and_true] at hg he
  exact ⟨g, e, by rw [hg, he]⟩
end
end G294

/- Stripes in memory: two slices of texts. -/
namespace G294
open Go Go.RowKit
abbrev Strp := List (List UInt8) × List (List UInt8)
/-- a stripe of the call's own, its blocks from lo to hi: those of its data lie ahead of those of its parities -/
def OwnT (E : TypeId) (w : World) (lo hi : Nat) (v u : Value) (s : Strp) : Prop := ∃ mid, lo ≤ mid ∧ mid ≤ hi ∧ OwnStrs E w lo mid v s.1 ∧ OwnStrs E w mid hi u s.2
section
variable {w w' : World} {lo hi a b : Nat} {v u : Value} {l : List (List UInt8)} {s : Strp} {E : TypeId}
theorem OwnStrs.widerS {lo' hi' : Nat} (h : OwnStrs E w lo hi v l) (h1 : lo' ≤ lo) (h2 : hi ≤ hi') (h3 : hi' ≤ w.heap.size) : OwnStrs E w lo' hi' v l := by
  obtain ⟨o1, o2, o3⟩ := h
  refine ⟨⟨o1.1, ?_⟩, h3, fun g e => Nat.lt_of_lt_of_le (o3 g e) h2⟩
  rcases o1.2 with hn | ⟨g, cap, cur, rfl, hbg, rest⟩
  · exact .inl hn
  · exact .inr ⟨g, cap, cur, rfl, Nat.le_trans h1 hbg, rest⟩
theorem OwnT.keep (h : OwnT E w lo hi v u s) (t : TurnIn a b w w') (d : hi ≤ a ∨ b ≤ lo) : OwnT E w' lo hi v u s := by
  obtain ⟨mid, h1, h2, h3, h4⟩ := h
  exact ⟨mid, h1, h2, h3.keep t (by omega), h4.keep t (by omega)⟩
theorem OwnT.wider {lo' hi' : Nat} (h : OwnT E w lo hi v u s) (h1 : lo' ≤ lo) (h2 : hi ≤ hi') (h3 : hi' ≤ w.heap.size) : OwnT E w lo' hi' v u s := by
  obtain ⟨mid, g1, g2, g3, g4⟩ := h
  exact ⟨mid, by omega, by omega, g3.widerS h1 (Nat.le_refl _) (by omega), g4.widerS (Nat.le_refl _) h2 h3⟩
theorem OwnT.isSlice (h : OwnT E w lo hi v u s) : ∃ A n c A' n' c', v = .slice A n c ∧ u = .slice A' n' c' := by
  obtain ⟨mid, _, _, h3, h4⟩ := h
  obtain ⟨A, n, c, e⟩ := h3.isSlice
  obtain ⟨A', n', c', e'⟩ := h4.isSlice
  exact ⟨_, _, _, _, _, _, e, e'⟩
theorem OwnT.seen1 (h : OwnT E w lo hi v u s) : Seen w v (strs s.1) := by
  obtain ⟨mid, _, _, h3, h4⟩ := h
  exact h3.seen
theorem OwnT.seen2 (h : OwnT E w lo hi v u s) : Seen w u (strs s.2) := by
  obtain ⟨mid, _, _, h3, h4⟩ := h
  exact h4.seen
theorem OwnT.nil (E : TypeId) (w : World) (lo : Nat) (h : lo ≤ w.heap.size) : OwnT E w lo w.heap.size (.slice none 0 0) (.slice none 0 0) ([], []) :=
  ⟨w.heap.size, h, Nat.le_refl _, OwnStrs.nil E w lo, OwnStrs.nil E w _⟩
theorem OwnT.of {w1 : World} (h : OwnStrs E w1 w.heap.size w1.heap.size v s.1) (k : OwnStrs E w' w1.heap.size w'.heap.size u s.2) (t : TurnIn 0 0 w1 w') (hw : w.heap.size ≤ w1.heap.size) : OwnT E w' w.heap.size w'.heap.size v u s :=
  ⟨w1.heap.size, hw, t.size, h.keep t (by omega), k⟩
end
def RetT (E : TypeId) (w : World) (s : Strp) (e : Ending) (w' : World) : Prop := ∃ v u, e = .returned (.agg #[v, u]) ∧ OwnT E w' w.heap.size w'.heap.size v u s ∧ TurnIn 0 0 w w'
def RetTOk (E : TypeId) (w : World) (s : Strp) (ok : Bool) (e : Ending) (w' : World) : Prop := ∃ v u, e = .returned (.tuple #[.agg #[v, u], .bool ok]) ∧ OwnT E w' w.heap.size w'.heap.size v u s ∧ TurnIn 0 0 w w'
def marksT (k n m : Nat) : Strp := (marksS k n, marksS (k + n) m)
def RetMarkT (E : TypeId) (w : World) (lo hi : Nat) (v u : Value) (k n m : Nat) (e : Ending) (w' : World) : Prop :=
  e = .returned (.int .i64 ((k + (n + m) : Nat) : Int)) ∧ OwnT E w' lo hi v u (marksT k n m) ∧ TurnIn lo hi w w'
def totT (s : Strp) : Nat := (s.1.length + sizM s.1) + (s.2.length + sizM s.2)
theorem totT_le (s : Strp) : s.1.length ≤ totT s ∧ s.2.length ≤ totT s := by unfold totT; omega
end G294
namespace Go.Proofs.YtjgmegfbfjmnfaaDoor
open Go.RowKit G294

end Go.Proofs.YtjgmegfbfjmnfaaDoor

/- The laws' comparison of stripes; the cursor's chosen. -/
namespace Go.Proofs.YtjgmegfbfjmnfaaDoor
open Go.RowKit G294

set_option maxRecDepth 100000 in
set_option maxHeartbeats 1000000 in
theorem sameStripes_same (v u v2 u2 : Value) (s : Strp) (w : World) (hv : Seen w v (strs s.1)) (hu : Seen w u (strs s.2)) (hv2 : Seen w v2 (strs s.1)) (hu2 : Seen w u2 (strs s.2)) : Calls Tryd.prog 12 #[.agg #[v, u], .agg #[v2, u2]] w (RetBool w true) := by
  obtain ⟨A, c, hvv⟩ := hv.len
  obtain ⟨B, d, huu⟩ := hu.len
  obtain ⟨A2, c2, hvv2⟩ := hv2.len
  obtain ⟨B2, d2, huu2⟩ := hu2.len
  rw [strs_length] at hvv huu hvv2 huu2
  subst hvv huu hvv2 huu2
  generalize hn : s.1.length = n at *
  generalize hm : s.2.length = m at *
  clear hn hm
  have a1 := turn_alloc w (.cells #[.slice A n c, .slice B m d] 25)
  have a2 := turn_alloc (w.alloc (.cells #[.slice A n c, .slice B m d] 25)) (.cells #[.slice A2 n c2, .slice B2 m d2] 25)
  have c0 := cell_turn a2 (alloc_duo0 w (.slice A n c) (.slice B m d) 25) (alloc_lt _ _)
  have c1 := cell_turn a2 (alloc_duo1 w (.slice A n c) (.slice B m d) 25) (alloc_lt _ _)
  have e0 := alloc_duo0 (w.alloc (.cells #[.slice A n c, .slice B m d] 25)) (.slice A2 n c2) (.slice B2 m d2) 25
  have e1 := alloc_duo1 (w.alloc (.cells #[.slice A n c, .slice B m d] 25)) (.slice A2 n c2) (.slice B2 m d2) 25
  rw [World.size_alloc] at e0 e1
  have k2 := turn_trans a1 a2 (by omega)
  have z2 : w.heap.size + 2 ≤ ((w.alloc (.cells #[.slice A n c, .slice B m d] 25)).alloc (.cells #[.slice A2 n c2, .slice B2 m d2] 25)).heap.size := by simp
  have HA := Lib.hid (sameTexts_same _ _ s.1 _ (hv.touch k2) (hv2.touch k2))
  have HU := Lib.hid (hu.touch k2)
  have HU2 := Lib.hid (hu2.touch k2)
  have HK := Lib.hid k2
  clear hv hu hv2 hu2 a1 a2 k2
  go_enter Tryd.func12, Tryd.ntmps12
  go_wp2_with fail
  refine HA.out.mono ?_
  rintro e w3 ⟨rfl, k3⟩
  have s3 := k3.size
  replace c0 := cell_turn k3 c0 (by omega)
  replace c1 := cell_turn k3 c1 (by omega)
  replace e0 := cell_turn k3 e0 (by omega)
  replace e1 := cell_turn k3 e1 (by omega)
  have HB := Lib.hid (sameTexts_same _ _ s.2 w3 (HU.out.touch k3) (HU2.out.touch k3))
  go_wp2_with fail
  refine HB.out.mono ?_
  rintro e w4 ⟨rfl, k4⟩
  go_wp2_with fail
  go_ret
  exact ⟨rfl, turn_trans (turn_trans HK.out k3 (by omega)) k4 (by omega)⟩

/-- some ints are drawn -/
def DrawsInts (w : World) (g : Nat) (cv : Value) (m : Nat) (e : Ending) (w' : World) : Prop := ∃ (v : Value) (l : List Int), e = .returned v ∧ w'.ownsRow w.heap.size 3 1 v l.length (ints l) ∧ CurAt w' g cv m ∧ TurnIn g (g + 1) w w'

end Go.Proofs.YtjgmegfbfjmnfaaDoor

/- strings.Clone: the same bytes. -/
namespace Go.Proofs.YtjgmegfbfjmnfaaDoor
open Go.RowKit G294

set_option maxHeartbeats 4000000 in
set_option maxRecDepth 100000 in
theorem sliteClone_own (s : ByteArray) (w : World) (hlim : s.size ≤ 1000000) : Calls Tryd.prog 118 #[.string s] w fun e w' => e = .returned (.string s) ∧ TurnIn 0 0 w w' := by
  by_cases h0 : s.size = 0
  · have hs : s = ⟨#[]⟩ := by
      apply ByteArray.ext
      exact Array.eq_empty_of_size_eq_zero h0
    subst hs
    go_enter Tryd.func118, Tryd.ntmps118
    go_wp2_with fail
    go_ret
    exact ⟨rfl, TurnIn.refl _⟩
  · obtain ⟨i0, hi, hz0, hz1, hz2⟩ := info_parts infoByte
    have hinfo : (Tryd.prog.info? 5).map (·.size) = some 1 := by rw [hi]; simp [hz1]
    have hco : Tryd.prog.cellsOf 5 = 1 := by simp [Program.cellsOf, hi, hz1]
    obtain ⟨M, hM⟩ : ∃ M, M = madeCells (Value.int .u8 0).cells (((s.size : Nat) : Int).toNat * i0.size) := ⟨_, rfl⟩
    have hMs : M.size = s.size := by rw [hM, size_madeCells, hz1]; simp
    have hmk : ∀ W : World, (Instr.makeSlice 22 (.int .i64 (s.size : Int)) (.int .i64 (s.size : Int))).run Tryd.prog W = .ok (.slice (some ⟨W.heap.size, 0, none⟩) s.size s.size) (W.alloc (.cells M 5)) := fun W => by
      have h := run_make (P := Tryd.prog) W 22 5 i0 (.int .u8 0) Tryd.underlying22 hi hz0 .i64 .i64 (s.size : Int) (s.size : Int) (by omega) (by omega) (by rw [hz2]; omega) (by omega)
      rw [← hM] at h
      simpa using h
    clear hM
    have hcp := Lib.run_copy_row_string (P := Tryd.prog) (w.alloc (.cells M 5)) 22 9 3 5 w.heap.size 0 s.size s.size s M 5 Tryd.underlying22 hinfo (heap_alloc_new w _) (Nat.le_refl _) (by omega)
    obtain ⟨Y, hY⟩ : ∃ Y, Y = (M.toList.take 0 ++ Lib.byteCells s.data.toList ++ M.toList.drop (0 + s.size)).toArray := ⟨_, rfl⟩
    rw [← hY] at hcp
    have hYl : Y.toList = Lib.byteCells s.data.toList := by
      rw [hY, List.toList_toArray, List.take_zero, List.nil_append, List.drop_of_length_le (by rw [Array.length_toList]; omega), List.append_nil]
    have hYs : Y.size = s.size := by rw [← Array.length_toList, hYl, Lib.byteCells_length, ← Lib.size_eq]
    have hgY : ((w.alloc (.cells M 5)).setRow w.heap.size Y).heap[w.heap.size]? = some (.cells Y 5 (0, 0)) := setRow_heap _ _ M _ 5 (0, 0) (heap_alloc_new w _)
    have hne : s.data.toList ≠ [] := fun e => h0 (by rw [Lib.size_eq, e]; rfl)
    have hUS := Lib.run_unsafeString_row (P := Tryd.prog) ((w.alloc (.cells M 5)).setRow w.heap.size Y) 161 3 9 5 Tryd.underlying161 hco w.heap.size Y.size (by unfold World.shape?; rw [hgY]) s.data.toList hne (by rw [← Lib.size_eq]; omega) (by rw [← Lib.size_eq]; omega)
      (fun j x hx => Lib.cells_of_row hgY Y.size j _ (by rw [List.take_of_length_le (by rw [Array.length_toList]; exact Nat.le_refl _), hYl]; simp [Lib.byteCells, hx]))
    rw [← Lib.size_eq] at hUS
    clear hY
    go_enter Tryd.func118, Tryd.ntmps118
    go_wp2_with fail
    go_ret
    have hb1 : Below w.heap.size w (w.alloc (.cells M 5)) := (Below.refl _ w).alloc (Nat.le_refl _) _
    have hb2 : Below w.heap.size (w.alloc (.cells M 5)) ((w.alloc (.cells M 5)).setRow w.heap.size Y) := ⟨rfl, rfl, rfl, by simp, fun k hk => setRow_other _ _ _ _ (by omega)⟩
    exact ⟨rfl, TurnIn.of_below (Lib.below_freeze (hb1.trans hb2) (p := ⟨w.heap.size, 0, none⟩) (Nat.le_refl _) _)⟩

set_option maxHeartbeats 1000000 in
theorem clone_own (s : List UInt8) (w : World) (hl : s.length ≤ 1000000) : Calls Tryd.prog 107 #[.string (str s)] w (RetStr w s) := by
  have HC := Lib.hid (sliteClone_own (str s) w (by rw [str_size]; exact hl))
  go_enter Tryd.func107, Tryd.ntmps107
  go_wp2_with fail
  refine HC.out.mono ?_
  rintro e w' ⟨rfl, k⟩
  go_wp2_with fail
  go_ret
  exact ⟨rfl, k⟩

end Go.Proofs.YtjgmegfbfjmnfaaDoor

/- textsBy: a list of texts by a method value; copies, products, sums. -/
namespace G294
open Go Go.RowKit
/-- the function value g, bound to rcv, hands back F i at i; it turns nothing old -/
def TextAt (P : Program) (g : Nat) (rcv : Value) (n : Nat) (F : Nat → List UInt8) (w : World) : Prop :=
  ∀ (W : World) (i : Nat), Below w.heap.size w W → i < n → Calls P g #[rcv, .int .i64 i] W (RetStr W (F i))
theorem TextAt.later {P : Program} {g : Nat} {rcv : Value} {n : Nat} {F : Nat → List UInt8} {w W : World} (h : TextAt P g rcv n F w) (hb : Below w.heap.size w W) : TextAt P g rcv n F W :=
  fun W' i hb' hi => h W' i (hb.trans (hb'.mono hb.size)) hi
def textsF (n : Nat) (F : Nat → List UInt8) : List (List UInt8) := (List.range n).map F
@[simp] theorem textsF_length (n : Nat) (F : Nat → List UInt8) : (textsF n F).length = n := by simp [textsF]
theorem textsF_get (n : Nat) (F : Nat → List UInt8) (k : Nat) (h : k < n) : (strs (textsF n F))[k]? = some (.string (str (F k))) := by simp [textsF, strs, h]
theorem textsF_getD (n : Nat) (F : Nat → List UInt8) (k : Nat) (h : k < n) : (textsF n F).getD k [] = F k := by simp [textsF, List.getD, h]
theorem textsF_self (L : List (List UInt8)) : textsF L.length (fun i => L.getD i []) = L := by
  refine List.ext_getElem (by simp) fun i h1 h2 => ?_
  simp [textsF, List.getD, h2]
theorem textsF_congr {n : Nat} {F G : Nat → List UInt8} (h : ∀ i, i < n → F i = G i) : textsF n F = textsF n G := by
  refine List.map_congr_left fun i hi => h i (by simpa using hi)
theorem textsF_rows (r c n : Nat) (F : Ents) (T : List (List UInt8)) : textsF r (fun i => comb c n (F i) T) = rowsT r c n F T := by
  simp [textsF, rowsT, mkM, comb]
end G294
namespace Go.Proofs.YtjgmegfbfjmnfaaDoor
open Go.RowKit G294

set_option maxRecDepth 100000 in
set_option maxHeartbeats 2000000 in
theorem textsBy_own (n g : Nat) (rcv : Value) (F : Nat → List UInt8) (w : World) (eg : ∀ args w, (callFunc g args).run Tryd.prog w = .ok (.enter g args) w) (hat : TextAt Tryd.prog g rcv n F w) (hn : n ≤ 1000) :
    Calls Tryd.prog 37 #[.int .i64 n, .func (.func g) #[rcv] #[]] w (RetStrs 9 w (textsF n F)) := by
  obtain ⟨i0, hi0, hz0, hz1, hz2⟩ := info_parts infoStr
  have HAT := Lib.hid hat
  clear hat
  go_enter Tryd.func37, Tryd.ntmps37
  go_wp2_with (at_make; refine wpList_make_full _ rfl _ _ _ rfl w.heap.size _ i0 _ 1 Tryd.underlying23 hi0 hz0 hz1 _ _ _ _ n rfl rfl rfl rfl ?b2 ?b3 ?b4 ?_)
  case b2 => rw [hz2]; omega
  case b3 => unfold maxLen; omega
  case b4 => exact Nat.le_refl _
  intro w1 hown1 hg1
  have hb1 : Below w.heap.size w w1 := below_of_grown hg1 (Nat.le_refl _) (by simp)
  rw [toList_madeCells_one] at hown1
  clear hg1
  go_wp2_with fail
  go_loopw [11] (fun i wr => ∃ k : Nat, k ≤ n ∧ i = .int .i64 k ∧ wr.ownsRow w.heap.size 9 1 (.slice (some ⟨w.heap.size, 0, none⟩) n n) n ((strs (textsF n F)).take k ++ List.replicate (n - k) (.string ⟨#[]⟩)) ∧ Below w.heap.size w wr)
    (fun i _ => n - (intOf i).toNat)
  case atStart => exact ⟨0, Nat.zero_le _, rfl, by simpa using hown1, hb1⟩
  case round =>
    obtain ⟨k, hk, rfl, hown, hb⟩ := hrel
    clear hown1 hb1
    by_cases hlt : k < n
    · have hki : (k : Int) < (n : Int) := by omega
      have HC := Lib.hid (HAT.out wr k hb hlt)
      have HOW := Lib.hid hown
      have hsz := hb.size
      clear hown
      go_wp2_with fail
      refine HC.out.mono ?_
      rintro e w2 ⟨rfl, ht⟩
      have hown := owns_turn0 HOW.out ht
      have hb2 : Below w.heap.size w w2 := ht.base hb hsz (by omega)
      have hco : w2.cell? ⟨w.heap.size, k, none⟩ = some (.string ⟨#[]⟩) := by
        have ht : ((strs (textsF n F)).take k).length = k := by simp; omega
        rw [hown.cellAt k (by omega), List.getElem?_append_right (by omega), ht, Nat.sub_self, List.getElem?_replicate, if_pos (by omega)]
      have hfr := hown.frozenAt k
      have hst := (hown.stored k (.string (str (F k)))).1
      rw [take_set_next (strs (textsF n F)) _ k _ (textsF_get n F k hlt) (by simp; omega)] at hst
      have HST : Hid ((w2.setCell ⟨w.heap.size, k, none⟩ (.string (str (F k)))).ownsRow w.heap.size 9 1 (.slice (some ⟨w.heap.size, 0, none⟩) n n) n ((strs (textsF n F)).take (k + 1) ++ List.replicate (n - (k + 1)) (.string ⟨#[]⟩))) := Lib.hid (by simpa [Nat.sub_sub] using hst)
      clear hst hown
      go_wp2_with fail
      go_roundw
      case rel => exact ⟨k + 1, by omega, by go_num, HST.out, hb2.setCell (Nat.le_refl _) _⟩
      case measure => simp [intOf]; omega
    · obtain rfl : k = n := by omega
      have hki : ¬ (k : Int) < (k : Int) := by omega
      go_wp2_with fail
      go_ret
      refine ⟨_, rfl, OwnStrs.of_made ?_, TurnIn.of_below hb⟩
      rw [List.take_of_length_le (by simp), Nat.sub_self] at hown
      simpa using hown

set_option maxRecDepth 100000 in
set_option maxHeartbeats 1000000 in
theorem copied_own (v : Value) (L : List (List UInt8)) (i : Nat) (w : World) (hv : Seen w v (strs L)) (hi : i < L.length) (hl : ∀ t ∈ L, t.length ≤ 1000000) : Calls Tryd.prog 82 #[v, .int .i64 i] w (RetStr w (L.getD i [])) := by
  obtain ⟨A, c, rfl, hlc, hcm, hx⟩ := hv
  rw [strs_length] at hlc hx
  simp only [strs_length]
  unfold maxLen at hcm
  obtain ⟨b, off, rfl, hbl, hcell⟩ := hx (by omega)
  have hcx := hcell i _ (strs_get L i hi)
  have HG : Hid (L.getD i [] = L[i]) := by show _ = _; simp [List.getD, hi]
  have HC := Lib.hid (clone_own L[i] w (hl _ (List.getElem_mem hi)))
  rw [HG.out]
  generalize L[i] = t at *
  have hki : (i : Int) < (L.length : Int) := by omega
  generalize L.length = n at *
  clear hcell hx hl HG
  go_enter Tryd.func82, Tryd.ntmps82
  go_wp2_with fail
  refine HC.out.mono ?_
  rintro e w2 ⟨rfl, k⟩
  go_wp2_with fail
  go_ret
  exact ⟨rfl, k⟩

set_option maxRecDepth 100000 in
set_option maxHeartbeats 1000000 in
theorem copiesOf_own (v : Value) (L : List (List UInt8)) (w : World) (hv : Seen w v (strs L)) (hn : L.length ≤ 1000) (hl : ∀ t ∈ L, t.length ≤ 1000000) : Calls Tryd.prog 35 #[v] w (RetStrs 9 w L) := by
  have eg := enters_of Tryd.func82 (by kernel_rfl) rfl
  have HT := Lib.hid (textsBy_own L.length 82 v (fun i => L.getD i []) w eg (fun W i hb hi => copied_own v L i W (hv.below hb) hi hl) hn)
  rw [textsF_self] at HT
  obtain ⟨A, c, hvv⟩ := hv.len
  rw [strs_length] at hvv
  subst hvv
  clear hv hl
  generalize L.length = n at *
  go_enter Tryd.func35, Tryd.ntmps35
  go_wp2_with fail
  refine HT.out.mono ?_
  rintro e w2 ⟨u, rfl, ho, k⟩
  go_wp2_with fail
  go_ret
  exact ⟨u, rfl, ho, k⟩

end Go.Proofs.YtjgmegfbfjmnfaaDoor

/- The model's Identity, Vandermonde and Cauchy. -/
namespace Go.Proofs.YtjgmegfbfjmnfaaDoor
open Go.RowKit G294

end Go.Proofs.YtjgmegfbfjmnfaaDoor
