/- Joined texts: StrMem, OpenStrs, OpenStrp, FieldWalks, FieldWalksB, Shape, Loc. -/
import Derived.Test.YtbopocpmodpfcaaDoorBd01
import Derived.Test.YtbopocpmodpfcaaDoorProg
import Derived.Test.YtbopocpmodpfcaaDoorBd00
import Derived.SliceStrings
import Derived.ChangeMaps5
import Derived.WalkKit
import Derived.WalkSpells
import Derived.WalkLawsBesides
import Derived.Lib.Hide
set_option linter.unusedSimpArgs false
set_option linter.unusedVariables false
/- Texts in memory: a slice of strings that is seen, or of the call's own; the texts that a mark writes. -/
namespace G294
open Go Go.RowKit
theorem str_size (l : List UInt8) : (str l).size = l.length := by
  show l.toArray.size = _
  simp
theorem str_eq (s : ByteArray) : s = str s.data.toList := by cases s; rfl
theorem str_inj {a b : List UInt8} (h : str a = str b) : a = b := by
  have := congrArg ByteArray.toList h
  rwa [str_toList, str_toList] at this
theorem str_append (a b : List UInt8) : str a ++ str b = str (a ++ b) := by
  unfold str
  rw [ByteArray.mk_append_mk]
theorem str_nil : str [] = ⟨#[]⟩ := rfl
theorem str_same (s : List UInt8) : ((str s).toList == (str s).toList) = true := by simp
/-- texts as the cells of memory -/
def strs (l : List (List UInt8)) : List Value := l.map fun s => .string (str s)
@[simp] theorem strs_length (l : List (List UInt8)) : (strs l).length = l.length := by simp [strs]
theorem strs_append (l m : List (List UInt8)) : strs (l ++ m) = strs l ++ strs m := by simp [strs]
theorem strs_get (l : List (List UInt8)) (i : Nat) (h : i < l.length) : (strs l)[i]? = some (.string (str l[i])) := by simp [strs, h]
theorem strs_oneC (l : List (List UInt8)) : ∀ y, y ∈ strs l → y.oneCell' = true := by
  intro y hy
  simp only [strs, List.mem_map] at hy
  obtain ⟨x, _, rfl⟩ := hy
  rfl
/-- a row of texts of the call's own, its block from lo to hi -/
def OwnStrs (E : TypeId) (w : World) (lo hi : Nat) (v : Value) (l : List (List UInt8)) : Prop := w.ownsRow lo E 1 v l.length (strs l) ∧ hi ≤ w.heap.size ∧ ∀ g, v.ownBlock = some g → g < hi
section
variable {w w' : World} {lo hi a b : Nat} {v : Value} {l : List (List UInt8)} {E : TypeId}
theorem OwnStrs.keep (h : OwnStrs E w lo hi v l) (t : TurnIn a b w w') (d : hi ≤ a ∨ b ≤ lo) : OwnStrs E w' lo hi v l := by
  obtain ⟨h1, h2, h3⟩ := h
  have hs := t.size
  refine ⟨⟨h1.1, ?_⟩, by omega, h3⟩
  rcases h1.2 with hn | ⟨g, cap, cur, rfl, hbg, hg, rest⟩
  · exact .inl hn
  · refine .inr ⟨g, cap, cur, rfl, hbg, ?_, rest⟩
    have := h3 g rfl
    rw [t.block g (Array.getElem?_eq_some_iff.1 hg).1 (by omega)]
    exact hg
theorem OwnStrs.seen (h : OwnStrs E w lo hi v l) : Seen w v (strs l) := Seen.of_own h.1
theorem OwnStrs.nil (E : TypeId) (w : World) (lo : Nat) : OwnStrs E w lo w.heap.size (.slice none 0 0) [] := ⟨World.ownsRow_nil _ _ _ _, Nat.le_refl _, fun g h => by simp [Value.ownBlock] at h⟩
theorem OwnStrs.of_made (h : w'.ownsRow w.heap.size E 1 v l.length (strs l)) : OwnStrs E w' w.heap.size w'.heap.size v l := ⟨h, Nat.le_refl _, fun g hg => (h.lt g hg).2⟩
theorem OwnStrs.isSlice (h : OwnStrs E w lo hi v l) : ∃ A n c, v = .slice A n c := by
  rcases h.1.2 with ⟨hh, _⟩ | ⟨g, cap, cur, hh, _⟩ <;> exact ⟨_, _, _, hh⟩
theorem owns_turn0 {size n : Nat} {xs : List Value} {base : Nat} {e : TypeId} (h : w.ownsRow base e size v n xs) (t : TurnIn 0 0 w w') : w'.ownsRow base e size v n xs := own_below h t.to_below
end
def RetStrs (E : TypeId) (w : World) (l : List (List UInt8)) (e : Ending) (w' : World) : Prop := ∃ v, e = .returned v ∧ OwnStrs E w' w.heap.size w'.heap.size v l ∧ TurnIn 0 0 w w'
def RetStrsOk (E : TypeId) (w : World) (l : List (List UInt8)) (ok : Bool) (e : Ending) (w' : World) : Prop := ∃ v, e = .returned (.tuple #[v, .bool ok]) ∧ OwnStrs E w' w.heap.size w'.heap.size v l ∧ TurnIn 0 0 w w'
def RetStr (w : World) (s : List UInt8) (e : Ending) (w' : World) : Prop := e = .returned (.string (str s)) ∧ TurnIn 0 0 w w'
def RetStrOk (w : World) (s : List UInt8) (ok : Bool) (e : Ending) (w' : World) : Prop := e = .returned (.tuple #[.string (str s), .bool ok]) ∧ TurnIn 0 0 w w'
/-- what is left of a bound -/
def szV (left n : Nat) : Int := if n ≤ left then (left : Int) - n else -1
theorem szV_yes {left n : Nat} (h : n ≤ left) : szV left n = ((left - n : Nat) : Int) := by unfold szV; rw [if_pos h]; omega
theorem szV_no {left n : Nat} (h : left < n) : szV left n = -1 := by unfold szV; rw [if_neg (by omega)]
/-- the decimal digits of k, ahead of acc -/
def mdig (k : Nat) (acc : List UInt8) : List UInt8 := if h : k = 0 then acc else mdig (k / 10) (UInt8.ofNat (48 + k % 10) :: acc)
termination_by k
decreasing_by omega
def mtext (k : Nat) : List UInt8 := 109 :: mdig k []
theorem mdig_zero (acc : List UInt8) : mdig 0 acc = acc := by unfold mdig; simp
theorem mdig_pos {k : Nat} (h : 0 < k) (acc : List UInt8) : mdig k acc = mdig (k / 10) (UInt8.ofNat (48 + k % 10) :: acc) := by
  rw [mdig, dif_neg (by omega)]
/-- the texts of the marks k, k + 1, .. -/
def marksS (k n : Nat) : List (List UInt8) := (List.range n).map fun i => mtext (k + i)
@[simp] theorem marksS_length (k n : Nat) : (marksS k n).length = n := by simp [marksS]
theorem marksS_get (k n i : Nat) (h : i < n) : (strs (marksS k n))[i]? = some (.string (str (mtext (k + i)))) := by simp [strs, marksS, h]
def RetMarkS (E : TypeId) (w : World) (lo hi : Nat) (v : Value) (k n : Nat) (e : Ending) (w' : World) : Prop :=
  e = .returned (.int .i64 ((k + n : Nat) : Int)) ∧ OwnStrs E w' lo hi v (marksS k n) ∧ TurnIn lo hi w w'
end G294

/- From the readings of a law's arguments to what its walk asks: strings and slices of strings. -/
namespace G294
open Go Go.ChangeShapes Go.WideShapes Go.ChangeAt Go.RowKit
section
variable {H : Type} {enc : TypeId × Value → H} {P : Program} {W : World} {base : Nat} {t e q : TypeId} {v : Value} {d : DataW H} {p : List MemPlace}
/-- a slice of strings that came in -/
theorem seen_strs (ht : P.underlying t = some (.slice e)) (he : P.underlying e = some .string) (hc : P.cellsOf e = 1)
    (hv : Value.okWide P W .any base t v) (h : DataW.Trod enc P W 0 (fun _ => true) true t v d p) (hlt : ∀ x ∈ p, x.block < W.heap.size) : ∃ l : List (List UInt8), Seen W v (strs l) ∧ ∀ s ∈ l, s.length ≤ maxLen := by
  obtain ⟨a0, len, cap, rfl⟩ := okWide_slice ht hv
  obtain ⟨fuel, hf⟩ := h
  rcases open_strings ht he hc hf with ⟨hcs, hx⟩ | ⟨a, len', cap', ss, hcs, _, hl, hm, hz, hx, hcell, hwz⟩
  · have e1 : a0 = none ∧ len = 0 ∧ cap = 0 := by simpa [Value.cells] using hcs
    obtain ⟨rfl, rfl, rfl⟩ := e1
    exact ⟨[], Seen.nil W, fun s hs => by simp at hs⟩
  · have e1 : a0 = some a ∧ len = len' ∧ cap = cap' := by simpa [Value.cells] using hcs
    obtain ⟨rfl, rfl, rfl⟩ := e1
    have hz' : ss.length = cap := by simpa using hz
    have hlen : (ss.take len).length = len := by rw [List.length_take]; omega
    have es : strs ((ss.take len).map fun s => s.data.toList) = (ss.take len).map Value.string := by
      simp only [strs, List.map_map]
      exact List.map_congr_left fun s _ => by simp only [Function.comp]; rw [← str_eq]
    refine ⟨(ss.take len).map fun s => s.data.toList, ⟨some a, cap, by simp [hlen, hl, hz'], by simp [hl, hz'], hm, fun hn => ?_⟩, fun s hs => ?_⟩
    rotate_left
    · obtain ⟨b, hb, rfl⟩ := List.mem_map.1 hs
      have := hwz b (List.mem_of_mem_take hb)
      rw [Array.length_toList]
      exact this
    rw [strs_length, List.length_map, hlen] at hn
    obtain ⟨b, off, spot⟩ := a
    have hspot : spot = none := by simpa [Addr.add] using World.cell?_spot (hcell 0 (by omega))
    subst hspot
    have hc' : ∀ i, i < ss.length → W.cell? ⟨b, off + i, none⟩ = some (.string (ss.getD i ByteArray.empty)) := fun i hi => by
      rw [← Go.WideShapes.add_plain]; exact hcell i hi
    refine ⟨b, off, rfl, World.block_lt_of_cell? W _ (hc' 0 (by omega)), fun i u hu => ?_⟩
    rw [es, List.getElem?_map] at hu
    have hi : i < len := by
      rcases Nat.lt_or_ge i len with h | h
      · exact h
      · rw [List.getElem?_eq_none (by omega)] at hu; simp at hu
    rw [List.getElem?_take, if_pos hi, List.getElem?_eq_getElem (by omega)] at hu
    simp only [Option.map_some, Option.some.injEq] at hu
    rw [hc' i (by omega), ← hu]
    simp [List.getD, show i < ss.length by omega]
theorem open_text (ht : P.underlying t = some .string) (hv : Value.okWide P W .any base t v) (h : DataW.Trod enc P W 0 (fun _ => true) true t v d p) : ∃ l : List UInt8, v = .string (str l) := by
  obtain ⟨s, rfl, _⟩ := Go.ChangeMaps.open_string ht hv h
  exact ⟨s.data.toList, by rw [← str_eq]⟩
end
end G294

/- From the readings of a law's arguments to what its walk asks: a struct of two slices of strings. -/
namespace G294
open Go Go.ChangeShapes Go.WideShapes Go.ChangeAt Go.RowKit Go.Deep Go.Joins
section
variable {H : Type} {enc : TypeId × Value → H} {P : Program} {W : World} {base : Nat} {t e q s : TypeId} {v : Value} {d : DataW H} {p : List MemPlace} {f0 f1 : Field}
theorem seen_strs1 {held : Bool} {fuel : Nat} {x : DataW H × List MemPlace} (ht : P.underlying t = some (.slice e)) (he : P.underlying e = some .string) (hc : P.cellsOf e = 1)
    (h : DataW.trod enc P W 0 (fun _ => true) held fuel t [v] = some x) : ∃ l : List (List UInt8), Seen W v (strs l) ∧ ∀ s ∈ l, s.length ≤ maxLen := by
  rcases open_strings ht he hc h with ⟨hcs, hx⟩ | ⟨a, len, cap, ss, hcs, _, hl, hm, hz, hx, hcell, hwz⟩
  · obtain rfl : v = .slice none 0 0 := by simpa using hcs
    exact ⟨[], Seen.nil W, fun s hs => by simp at hs⟩
  · obtain rfl : v = .slice (some a) len cap := by simpa using hcs
    have hz' : ss.length = cap := by simpa using hz
    have hlen : (ss.take len).length = len := by rw [List.length_take]; omega
    have es : strs ((ss.take len).map fun s => s.data.toList) = (ss.take len).map Value.string := by
      simp only [strs, List.map_map]
      exact List.map_congr_left fun s _ => by simp only [Function.comp]; rw [← str_eq]
    refine ⟨(ss.take len).map fun s => s.data.toList, ⟨some a, cap, by simp [hlen, hl, hz'], by simp [hl, hz'], hm, fun hn => ?_⟩, fun s hs => ?_⟩
    rotate_left
    · obtain ⟨b, hb, rfl⟩ := List.mem_map.1 hs
      have := hwz b (List.mem_of_mem_take hb)
      rw [Array.length_toList]
      exact this
    rw [strs_length, List.length_map, hlen] at hn
    obtain ⟨b, off, spot⟩ := a
    have hspot : spot = none := by simpa [Addr.add] using World.cell?_spot (hcell 0 (by omega))
    subst hspot
    have hc' : ∀ i, i < ss.length → W.cell? ⟨b, off + i, none⟩ = some (.string (ss.getD i ByteArray.empty)) := fun i hi => by
      rw [← Go.WideShapes.add_plain]; exact hcell i hi
    refine ⟨b, off, rfl, World.block_lt_of_cell? W _ (hc' 0 (by omega)), fun i u hu => ?_⟩
    rw [es, List.getElem?_map] at hu
    have hi : i < len := by
      rcases Nat.lt_or_ge i len with h | h
      · exact h
      · rw [List.getElem?_eq_none (by omega)] at hu; simp at hu
    rw [List.getElem?_take, if_pos hi, List.getElem?_eq_getElem (by omega)] at hu
    simp only [Option.map_some, Option.some.injEq] at hu
    rw [hc' i (by omega), ← hu]
    simp [List.getD, show i < ss.length by omega]
theorem seen_strp (hs : P.underlying s = some (.struct #[f0, f1])) (hone : oneCellFields P #[f0, f1] = true) (hC : P.cellsOf s = 2) (h0 : P.underlying f0.type = some (.slice e)) (h1 : P.underlying f1.type = some (.slice e)) (he : P.underlying e = some .string) (hc : P.cellsOf e = 1)
    (hv : Value.okWide P W .any base s v) (h : DataW.Trod enc P W 0 (fun _ => true) true s v d p) : ∃ (x u : Value) (l m : List (List UInt8)), v = .agg #[x, u] ∧ Seen W x (strs l) ∧ Seen W u (strs m) ∧ (∀ s ∈ l, s.length ≤ maxLen) ∧ ∀ s ∈ m, s.length ≤ maxLen := by
  obtain ⟨v0, v1, y0, y1, n, rfl, _, _, g0, g1⟩ := open_agg2 hs hone hC hv h
  obtain ⟨l, hl, ml⟩ := seen_strs1 h0 he hc g0
  obtain ⟨m, hm, mm⟩ := seen_strs1 h1 he hc g1
  exact ⟨v0, v1, l, m, rfl, hl, hm, ml, mm⟩
end
end G294

/- Contracts of chapter 1's functions, the program's and the model's: what each call returns; the world is left as it was. -/
namespace Go.Proofs.YtbopocpmodpfcaaDoor
open Go.RowKit

/-- the table of remainders, as the program's text lays it -/
def Tab (w : World) : Prop := ∀ k, k < 7 → w.cell? ⟨0, k, none⟩ = some (.int .u8 (G294.tabN k : Nat))
theorem Tab.below {w w' : World} (h : Tab w) (hb : Below w.heap.size w w') (h0 : 0 < w.heap.size) : Tab w' := fun k hk => (hb.cell (p := ⟨0, k, none⟩) h0).trans (h k hk)
theorem ret_int {k : IntKind} {a b : Int} (h : a = b) : Ending.returned (.int k a) = .returned (.int k b) := by rw [h]

theorem and1_u8 (b : Nat) (hb : b < 256) (k : Nat) : bits BinOp.and IntKind.u8 ((b : Int) / 2 ^ k) 1 = ((G294.bit b k : Nat) : Int) := by
  have h1 : ((b : Int) / 2 ^ k) = ((b / 2 ^ k : Nat) : Int) := by simp
  have h2 : b / 2 ^ k < 256 := Nat.lt_of_le_of_lt (Nat.div_le_self _ _) hb
  rw [h1]
  have := u8_and_nat (b / 2 ^ k) 1 h2 (by omega)
  rw [show ((1 : Nat) : Int) = 1 from rfl] at this
  rw [this]; simp [G294.bit, Nat.and_one_is_mod]
theorem and1_u16 (b : Nat) (hb : b < 65536) (k : Nat) : bits BinOp.and IntKind.u16 ((b : Int) / 2 ^ k) 1 = ((G294.bit b k : Nat) : Int) := by
  have h1 : ((b : Int) / 2 ^ k) = ((b / 2 ^ k : Nat) : Int) := by simp
  have h2 : b / 2 ^ k < 65536 := Nat.lt_of_le_of_lt (Nat.div_le_self _ _) hb
  rw [h1]
  have := u16_and_nat (b / 2 ^ k) 1 h2 (by omega)
  rw [show ((1 : Nat) : Int) = 1 from rfl] at this
  rw [this]; simp [G294.bit, Nat.and_one_is_mod]
theorem test_bit {b k : Nat} {x : Bool} (e : (((G294.bit b k : Nat) : Int) == 1) = x) : (x = true ∧ G294.bit b k = 1) ∨ (x = false ∧ ¬ G294.bit b k = 1) := by
  cases x
  · right; exact ⟨rfl, by intro h; simp [h] at e⟩
  · left; refine ⟨rfl, ?_⟩; have := beq_iff_eq.1 e; omega

theorem pp_yes {a b k : Nat} (ha : a < 256) (hb : b < 256) (hk : k < 8) (h : (bits BinOp.and IntKind.u8 ((b : Int) / 2 ^ k) 1 == 1) = true) :
    bits BinOp.xor IntKind.u16 ((G294.pp a b k : Nat) : Int) (IntKind.u16.wrap ((a : Int) * 2 ^ k)) = ((G294.pp a b (k + 1) : Nat) : Int) := by
  rw [and1_u8 b hb] at h
  have hbit : G294.bit b k = 1 := by have := beq_iff_eq.1 h; omega
  have h1 : ((a : Int) * 2 ^ k) = ((a * 2 ^ k : Nat) : Int) := by simp
  have h2 := G294.shl_lt ha hk
  rw [h1, IntKind.wrap_u16]
  have h3 : ((a * 2 ^ k : Nat) : Int) % 65536 = ((a * 2 ^ k : Nat) : Int) := by omega
  rw [h3, u16_xor_nat _ _ (G294.pp_lt ha b k (by omega)) h2]
  simp [G294.pp, hbit]
theorem pp_no {a b k : Nat} (hb : b < 256) (h : (bits BinOp.and IntKind.u8 ((b : Int) / 2 ^ k) 1 == 1) = false) :
    ((G294.pp a b k : Nat) : Int) = ((G294.pp a b (k + 1) : Nat) : Int) := by
  rw [and1_u8 b hb] at h
  have hbit : ¬ G294.bit b k = 1 := by intro e; simp [e] at h
  simp [G294.pp, hbit]

set_option maxHeartbeats 400000 in
theorem pp_any (a b : Nat) (ha : a < 256) (hb : b < 256) (w : World) :
    Calls Tryd.prog 126 #[.int .u8 a, .int .u8 b] w fun e w' => e = .returned (.int .u16 (G294.pp a b 8 : Nat)) ∧ w = w' := by
  go_enter Tryd.func126, Tryd.ntmps126
  go_wp2
  go_loop [5, 7] (fun p i => ∃ k : Nat, k ≤ 8 ∧ i = .int .i64 k ∧ p = .int .u16 (G294.pp a b k : Nat)) (fun _ i => 8 - (intOf i).toNat)
  case atStart => exact ⟨0, by omega, rfl, rfl⟩
  case round =>
    obtain ⟨k, hk, rfl, rfl⟩ := hrel
    by_cases hlt : k < 8
    · go_wp2
      · have hy := pp_yes ha hb hlt ‹_›
        go_round
        case rel => exact ⟨k + 1, by omega, by go_num, by rw [hy]⟩
        case measure => simp [intOf]; omega
      · have hy := pp_no (a := a) hb ‹_›
        go_round
        case rel => exact ⟨k + 1, by omega, by go_num, by rw [hy]⟩
        case measure => simp [intOf]; omega
    · obtain rfl : k = 8 := by omega
      go_wp2
      go_ret
      exact ⟨rfl, rfl⟩

theorem rd_yes {p k : Nat} (hp : p < 65536) (hk : k < 7) (h : (bits BinOp.and IntKind.u16 ((p : Int) / 2 ^ (8 + k)) 1 == 1) = true) :
    bits BinOp.xor IntKind.u8 ((G294.rd p k : Nat) : Int) ((G294.tabN k : Nat) : Int) = ((G294.rd p (k + 1) : Nat) : Int) := by
  rw [and1_u16 p hp] at h
  have hbit : G294.bit p (8 + k) = 1 := by have := beq_iff_eq.1 h; omega
  rw [u8_xor_nat _ _ (G294.rd_lt p k) (G294.tabN_lt k)]
  simp [G294.rd, hbit]
theorem rd_no {p k : Nat} (hp : p < 65536) (h : (bits BinOp.and IntKind.u16 ((p : Int) / 2 ^ (8 + k)) 1 == 1) = false) :
    ((G294.rd p k : Nat) : Int) = ((G294.rd p (k + 1) : Nat) : Int) := by
  rw [and1_u16 p hp] at h
  have hbit : ¬ G294.bit p (8 + k) = 1 := by intro e; simp [e] at h
  simp [G294.rd, hbit]

set_option maxHeartbeats 400000 in
theorem rd_any (p : Nat) (hp : p < 65536) (w : World) (ht : Tab w) :
    Calls Tryd.prog 125 #[.int .u16 p] w fun e w' => e = .returned (.int .u8 (G294.rd p 7 : Nat)) ∧ w = w' := by
  go_enter Tryd.func125, Tryd.ntmps125
  go_wp2
  go_loop [3, 7] (fun r i => ∃ k : Nat, k ≤ 7 ∧ i = .int .i64 k ∧ r = .int .u8 (G294.rd p k : Nat)) (fun _ i => 7 - (intOf i).toNat)
  case atStart => exact ⟨0, by omega, rfl, by simp [G294.rd]⟩
  case round =>
    obtain ⟨k, hk, rfl, rfl⟩ := hrel
    by_cases hlt : k < 7
    · have hc := ht k hlt
      go_wp2
      · have hy := rd_yes hp hlt ‹_›
        go_round
        case rel => exact ⟨k + 1, by omega, by go_num, by rw [hy]⟩
        case measure => simp [intOf]; omega
      · have hy := rd_no hp ‹_›
        go_round
        case rel => exact ⟨k + 1, by omega, by go_num, by rw [hy]⟩
        case measure => simp [intOf]; omega
    · obtain rfl : k = 7 := by omega
      go_wp2
      go_ret
      exact ⟨rfl, rfl⟩

set_option maxHeartbeats 400000 in
theorem times_any (a b : Nat) (ha : a < 256) (hb : b < 256) (w : World) (ht : Tab w) :
    Calls Tryd.prog 114 #[.int .u8 a, .int .u8 b] w fun e w' => e = .returned (.int .u8 (G294.gm a b : Nat)) ∧ w = w' := by
  have hr := G294.rd_pp8 ha b
  have HR := Lib.hid hr
  clear hr
  go_enter Tryd.func114, Tryd.ntmps114
  go_wp2_with fail
  refine (pp_any a b ha hb _).mono ?_
  rintro e w' ⟨rfl, rfl⟩
  go_wp2_with fail
  refine (rd_any _ (G294.pp_lt ha b 8 (by omega)) _ ht).mono ?_
  rintro e w' ⟨rfl, rfl⟩
  go_wp2_with fail
  go_ret
  exact ⟨ret_int (by rw [HR.out]), rfl⟩

theorem bit_i64 {n : Nat} (hn : n < 9223372036854775808) : bits BinOp.and IntKind.i64 (n : Int) 1 = ((n % 2 : Nat) : Int) := by
  have ho : ∀ a : Nat, a < 9223372036854775808 → (BitVec.ofInt 64 (a : Int)).toNat = a := fun a ha => by
    rw [BitVec.ofInt_natCast, BitVec.toNat_ofNat]; exact Nat.mod_eq_of_lt (by omega)
  show IntKind.i64.wrap ((BitVec.ofInt 64 (n : Int) &&& BitVec.ofInt 64 ((1 : Nat) : Int)).toNat : Int) = _
  rw [BitVec.toNat_and, ho n hn, ho 1 (by omega), IntKind.wrap_i64, Nat.and_one_is_mod]
  omega

set_option maxHeartbeats 1000000 in
theorem powerOf_any (a n : Nat) (ha : a < 256) (hn : n ≤ 10000) (w : World) (ht : Tab w) :
    Calls Tryd.prog 101 #[.int .u8 a, .int .i64 n] w fun e w' => e = .returned (.int .u8 (G294.gp a n : Nat)) ∧ w = w' := by
  go_enter Tryd.func101, Tryd.ntmps101
  go_wp2
  go_loop [0, 1, 5] (fun x y p => ∃ b m q : Nat, b < 256 ∧ m ≤ 10000 ∧ q < 256 ∧ x = .int .u8 b ∧ y = .int .i64 m ∧ p = .int .u8 q ∧ Hid (G294.gm q (G294.gp b m) = G294.gp a n)) (fun _ y _ => (intOf y).toNat)
  case atStart => exact ⟨a, n, 1, ha, hn, by omega, rfl, rfl, rfl, by rw [G294.gm_one_left (G294.gp_lt ha n)]; rfl⟩
  case round =>
    obtain ⟨b, m, q, hb, hm, hq, rfl, rfl, rfl, HE⟩ := hrel
    by_cases hlt : 0 < m
    · have HS := Lib.hid (G294.gp_step (a := b) (n := m) (p := q) hb hq hlt)
      by_cases hodd : m % 2 = 1
      · have hbit : (bits BinOp.and IntKind.i64 (m : Int) 1 == 1) = true := by rw [bit_i64 (by omega), hodd]; rfl
        have HO := Lib.hid hodd
        clear hodd
        go_wp2_with fail
        refine (times_any q b hq hb _ ht).mono ?_
        rintro e w' ⟨rfl, rfl⟩
        go_wp2_with fail
        refine (times_any b b hb hb _ ht).mono ?_
        rintro e w' ⟨rfl, rfl⟩
        go_wp2_with fail
        go_round
        case rel => exact ⟨G294.gm b b, m / 2, G294.gm q b, G294.gm_lt hb b, by omega, G294.gm_lt hq b, rfl, by go_num, rfl, by have h := HS.out; rw [HE.out, if_pos HO.out] at h; exact h.symm⟩
        case measure => simp [intOf]; omega
      · have hbit : (bits BinOp.and IntKind.i64 (m : Int) 1 == 1) = false := by
          have : m % 2 = 0 := by omega
          rw [bit_i64 (by omega), this]; rfl
        have HO := Lib.hid hodd
        clear hodd
        go_wp2_with fail
        refine (times_any b b hb hb _ ht).mono ?_
        rintro e w' ⟨rfl, rfl⟩
        go_wp2_with fail
        go_round
        case rel => exact ⟨G294.gm b b, m / 2, q, G294.gm_lt hb b, by omega, hq, rfl, by go_num, rfl, by have h := HS.out; rw [HE.out, if_neg HO.out] at h; exact h.symm⟩
        case measure => simp [intOf]; omega
    · obtain rfl : m = 0 := by omega
      go_wp2_with fail
      go_ret
      exact ⟨ret_int (by have h := HE.out; simp only [G294.gp, G294.gm_one_right] at h; rw [h]), rfl⟩

set_option maxHeartbeats 400000 in
theorem inverse_any (a : Nat) (ha : a < 256) (w : World) (ht : Tab w) :
    Calls Tryd.prog 161 #[.int .u8 a] w fun e w' => e = .returned (.int .u8 (G294.gi a : Nat)) ∧ w = w' := by
  go_enter Tryd.func161, Tryd.ntmps161
  go_wp2_with fail
  refine (powerOf_any a 254 ha (by omega) _ ht).mono ?_
  rintro e w' ⟨rfl, rfl⟩
  go_wp2_with fail
  go_ret
  exact ⟨rfl, rfl⟩
end Go.Proofs.YtbopocpmodpfcaaDoor

/- Contracts of chapter 1: LogOf, and the model's functions. -/
namespace Go.Proofs.YtbopocpmodpfcaaDoor
open Go.RowKit

/-- what LogOf returns -/
def logV (a : Nat) : Value := if a = 0 then .tuple #[.int .i64 0, .bool false] else .tuple #[.int .i64 (G294.gl a : Nat), .bool true]

theorem xor_i64 {a b : Nat} (ha : a < 9223372036854775808) (hb : b < 9223372036854775808) : bits BinOp.xor IntKind.i64 (a : Int) (b : Int) = ((a ^^^ b : Nat) : Int) := by
  have ho : ∀ a : Nat, a < 9223372036854775808 → (BitVec.ofInt 64 (a : Int)).toNat = a := fun a ha => by
    rw [BitVec.ofInt_natCast, BitVec.toNat_ofNat]; exact Nat.mod_eq_of_lt (by omega)
  have hx : a ^^^ b < 2 ^ 63 := Nat.xor_lt_two_pow (by omega) (by omega)
  show IntKind.i64.wrap ((BitVec.ofInt 64 (a : Int) ^^^ BitVec.ofInt 64 (b : Int)).toNat : Int) = _
  rw [BitVec.toNat_xor, ho a ha, ho b hb, IntKind.wrap_i64]
  omega

set_option maxHeartbeats 1000000 in
theorem l1Times_any (a b : Nat) (ha : a < 256) (hb : b < 256) (w : World) :
    Calls Tryd.prog 96 #[.int .u8 a, .int .u8 b] w fun e w' => e = .returned (.int .u8 (G294.gm a b : Nat)) ∧ w = w' := by
  go_enter Tryd.func96, Tryd.ntmps96
  go_wp2
  go_loop [5, 6, 7] (fun o x y => ∃ k q p m : Nat, k ≤ 8 ∧ q < 256 ∧ p < 256 ∧ m < 256 ∧ o = .int .i64 q ∧ x = .int .i64 p ∧ y = .int .i64 m ∧ Hid (q = G294.st a b k) ∧ Hid (p = G294.xts k a) ∧ Hid (m = b / 2 ^ k)) (fun _ _ y => (intOf y).toNat)
  case atStart => exact ⟨0, 0, a, b, by omega, by omega, ha, hb, rfl, by simp, by simp, rfl, rfl, by show b = b / 2 ^ 0; omega⟩
  case round =>
    obtain ⟨k, q, p, m, hk, hq, hp, hm, rfl, rfl, rfl, HQ, HP, HM⟩ := hrel
    by_cases hlt : 0 < m
    · have hk8 : k < 8 := G294.k_lt_8 hb (by rw [← HM.out]; exact hlt)
      have HX := Lib.hid (xor_i64 (a := q) (b := p) (by omega) (by omega))
      have HXs := Lib.hid (G294.xs_xt p hp)
      have HX2 := Lib.hid (xor_i64 (a := p * 2) (b := 283) (by omega) (by omega))
      have hqp : q ^^^ p < 256 := G294.xor_lt hq hp
      have HM2 : Hid (m / 2 = b / 2 ^ (k + 1)) := by show m / 2 = _; rw [HM.out, G294.div_step]
      have HB : Hid (G294.bit b k = m % 2) := by show G294.bit b k = _; rw [HM.out]; rfl
      by_cases hodd : m % 2 = 1
      · have hbit : (bits BinOp.and IntKind.i64 (m : Int) 1 == 1) = true := by rw [bit_i64 (by omega), hodd]; rfl
        have HQ2 : Hid (q ^^^ p = G294.st a b (k + 1)) := by
          show q ^^^ p = _
          rw [G294.st, if_pos (by rw [HB.out]; exact hodd), ← HQ.out, ← HP.out]
        clear hodd
        by_cases hov : 255 < p * 2
        · have HPn : Hid (bits BinOp.xor IntKind.i64 ((p : Int) * 2) 283 = ((G294.xt p : Nat) : Int)) := by
            show bits BinOp.xor IntKind.i64 ((p : Int) * 2) 283 = _
            have h := HX2.out
            rw [← HXs.out, G294.xs, if_pos hov, ← h]; rfl
          go_wp2_with fail
          go_round
          case rel => exact ⟨k + 1, q ^^^ p, G294.xt p, m / 2, by omega, hqp, G294.xt_lt p, by omega, by rw [HX.out], by rw [HPn.out], by go_num, HQ2, by show G294.xt p = _; rw [HP.out]; rfl, HM2⟩
          case measure => simp [intOf]; omega
        · have HPn : Hid ((p : Int) * 2 = ((G294.xt p : Nat) : Int)) := by
            show (p : Int) * 2 = _
            rw [← HXs.out, G294.xs, if_neg hov]; simp
          go_wp2_with fail
          go_round
          case rel => exact ⟨k + 1, q ^^^ p, G294.xt p, m / 2, by omega, hqp, G294.xt_lt p, by omega, by rw [HX.out], by rw [HPn.out], by go_num, HQ2, by show G294.xt p = _; rw [HP.out]; rfl, HM2⟩
          case measure => simp [intOf]; omega
      · have hbit : (bits BinOp.and IntKind.i64 (m : Int) 1 == 1) = false := by
          have : m % 2 = 0 := by omega
          rw [bit_i64 (by omega), this]; rfl
        have HQ2 : Hid (q = G294.st a b (k + 1)) := by
          show q = _
          rw [G294.st, if_neg (by rw [HB.out]; exact hodd), ← HQ.out]
        clear hodd
        by_cases hov : 255 < p * 2
        · have HPn : Hid (bits BinOp.xor IntKind.i64 ((p : Int) * 2) 283 = ((G294.xt p : Nat) : Int)) := by
            show bits BinOp.xor IntKind.i64 ((p : Int) * 2) 283 = _
            have h := HX2.out
            rw [← HXs.out, G294.xs, if_pos hov, ← h]; rfl
          go_wp2_with fail
          go_round
          case rel => exact ⟨k + 1, q, G294.xt p, m / 2, by omega, hq, G294.xt_lt p, by omega, rfl, by rw [HPn.out], by go_num, HQ2, by show G294.xt p = _; rw [HP.out]; rfl, HM2⟩
          case measure => simp [intOf]; omega
        · have HPn : Hid ((p : Int) * 2 = ((G294.xt p : Nat) : Int)) := by
            show (p : Int) * 2 = _
            rw [← HXs.out, G294.xs, if_neg hov]; simp
          go_wp2_with fail
          go_round
          case rel => exact ⟨k + 1, q, G294.xt p, m / 2, by omega, hq, G294.xt_lt p, by omega, rfl, by rw [HPn.out], by go_num, HQ2, by show G294.xt p = _; rw [HP.out]; rfl, HM2⟩
          case measure => simp [intOf]; omega
    · obtain rfl : m = 0 := by omega
      go_wp2_with fail
      go_ret
      exact ⟨ret_int (by rw [HQ.out, G294.st_end a b k hk HM.out.symm]), rfl⟩

set_option maxHeartbeats 400000 in
theorem l1Power_any (a n : Nat) (ha : a < 256) (hn : n ≤ 10000) (w : World) :
    Calls Tryd.prog 56 #[.int .u8 a, .int .i64 n] w fun e w' => e = .returned (.int .u8 (G294.gp a n : Nat)) ∧ w = w' := by
  go_enter Tryd.func56, Tryd.ntmps56
  go_wp2
  go_loop [1, 5] (fun y p => ∃ m q : Nat, m ≤ n ∧ q < 256 ∧ y = .int .i64 m ∧ p = .int .u8 q ∧ Hid (q = G294.gp a (n - m))) (fun y _ => (intOf y).toNat)
  case atStart => exact ⟨n, 1, by omega, by omega, rfl, rfl, by show 1 = _; rw [Nat.sub_self]; rfl⟩
  case round =>
    obtain ⟨m, q, hm, hq, rfl, rfl, HQ⟩ := hrel
    by_cases hlt : 0 < m
    · have HQ2 : Hid (G294.gm q a = G294.gp a (n - (m - 1))) := by
        show G294.gm q a = _
        rw [HQ.out, show n - (m - 1) = (n - m) + 1 by omega]; rfl
      go_wp2_with fail
      refine (l1Times_any q a hq ha _).mono ?_
      rintro e w' ⟨rfl, rfl⟩
      go_wp2_with fail
      go_round
      case rel => exact ⟨m - 1, G294.gm q a, by omega, G294.gm_lt hq a, by go_num, rfl, HQ2⟩
      case measure => simp [intOf]; omega
    · obtain rfl : m = 0 := by omega
      go_wp2_with fail
      go_ret
      exact ⟨ret_int (by rw [HQ.out]; rfl), rfl⟩

set_option maxHeartbeats 400000 in
theorem l1Inverse_any (a : Nat) (ha : a < 256) (w : World) :
    Calls Tryd.prog 122 #[.int .u8 a] w fun e w' => e = .returned (.int .u8 (G294.gi a : Nat)) ∧ w = w' := by
  by_cases h0 : a = 0
  · subst h0
    have HZ := Lib.hid G294.gi_zero
    go_enter Tryd.func122, Tryd.ntmps122
    go_wp2_with fail
    go_ret
    exact ⟨ret_int (by rw [HZ.out]; rfl), rfl⟩
  · have hb : ((a : Int) == 0) = false := by simp; omega
    clear h0
    go_enter Tryd.func122, Tryd.ntmps122
    go_wp2_with fail
    refine (l1Power_any a 254 ha (by omega) _).mono ?_
    rintro e w' ⟨rfl, rfl⟩
    go_wp2_with fail
    go_ret
    exact ⟨rfl, rfl⟩

/-- l1In -/
def inB (n lo hi : Int) : Bool := decide (lo ≤ n ∧ n ≤ hi)
set_option maxHeartbeats 400000 in
theorem l1In_any (n lo hi : Int) (w : World) :
    Calls Tryd.prog 73 #[.int .i64 n, .int .i64 lo, .int .i64 hi] w fun e w' => e = .returned (.bool (inB n lo hi)) ∧ w = w' := by
  by_cases h1 : lo ≤ n
  · have hd : decide (lo ≤ n) = true := by simpa using h1
    by_cases h2 : n ≤ hi
    · have HV : Hid (inB n lo hi = true) := by show inB n lo hi = true; simp [inB, h1, h2]
      go_enter Tryd.func73, Tryd.ntmps73
      go_wp2_with fail
      go_ret
      exact ⟨by rw [HV.out]; simp [h2], rfl⟩
    · have HV : Hid (inB n lo hi = false) := by show inB n lo hi = false; simp [inB, h2]
      go_enter Tryd.func73, Tryd.ntmps73
      go_wp2_with fail
      go_ret
      exact ⟨by rw [HV.out]; simp [h2], rfl⟩
  · have hd : decide (lo ≤ n) = false := by simpa using h1
    have HV : Hid (inB n lo hi = false) := by show inB n lo hi = false; simp [inB, h1]
    go_enter Tryd.func73, Tryd.ntmps73
    go_wp2_with fail
    go_ret
    exact ⟨by rw [HV.out]; rfl, rfl⟩
end Go.Proofs.YtbopocpmodpfcaaDoor

/- Shapes of codes: the program's goodDataCount and GoodShape, the model's GoodShape. -/
namespace G294
open Go Go.RowKit
def dataOk (k : Int) : Bool := decide (1 ≤ k ∧ k ≤ 8)
def shapeOk (k m : Int) : Bool := dataOk k && decide (1 ≤ m ∧ m ≤ 6)
theorem shapeOk_b {k m : Int} (h : shapeOk k m = true) : (1 ≤ k ∧ k ≤ 8) ∧ 1 ≤ m ∧ m ≤ 6 := by simpa [shapeOk, dataOk] using h
end G294
namespace Go.Proofs.YtbopocpmodpfcaaDoor
open Go.RowKit G294

end Go.Proofs.YtbopocpmodpfcaaDoor

/- Local codes: their numbers; the program's and the model's GoodLocal. -/
namespace G294
open Go Go.RowKit
def numOk (n : Int) : Bool := decide (1 ≤ n ∧ n ≤ 4)
def locOk (g e q : Int) : Bool := numOk g && numOk e && numOk q && decide (g * e ≤ 8)
/-- a local code as a value -/
abbrev locV (g e q : Int) : Value := .agg #[.int .i64 g, .int .i64 e, .int .i64 q]
theorem mul_bd {a b : Int} (h1 : 1 ≤ a ∧ a ≤ 4) (h2 : 1 ≤ b ∧ b ≤ 4) : 1 ≤ a * b ∧ a * b ≤ 16 := by
  obtain ⟨h1, h1'⟩ := h1
  obtain ⟨h2, h2'⟩ := h2
  have e1 : a = 1 ∨ a = 2 ∨ a = 3 ∨ a = 4 := by omega
  rcases e1 with rfl | rfl | rfl | rfl <;> omega
theorem numOk_b {n : Int} (h : numOk n = true) : 1 ≤ n ∧ n ≤ 4 := by simpa [numOk] using h
theorem locOk_b {g e q : Int} (h : locOk g e q = true) : ((1 ≤ g ∧ g ≤ 4) ∧ (1 ≤ e ∧ e ≤ 4)) ∧ (1 ≤ q ∧ q ≤ 4) ∧ 1 ≤ g * e ∧ g * e ≤ 8 := by
  have h' : (((1 ≤ g ∧ g ≤ 4) ∧ (1 ≤ e ∧ e ≤ 4)) ∧ (1 ≤ q ∧ q ≤ 4)) ∧ g * e ≤ 8 := by simpa [locOk, numOk] using h
  exact ⟨h'.1.1, h'.1.2, (mul_bd h'.1.1.1 h'.1.1.2).1, h'.2⟩
end G294
namespace Go.Proofs.YtbopocpmodpfcaaDoor
open Go.RowKit G294

end Go.Proofs.YtbopocpmodpfcaaDoor
