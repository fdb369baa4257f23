/- Joined texts: MtfMath, RecX, MvfX. -/
import Derived.Test.YtdbgkpmdimapdaaBd05
import Derived.Test.YtdbgkpmdimapdaaBd03
import Derived.Test.YtdbgkpmdimapdaaBd04
import Derived.Handy
import Derived.Test.YtdbgkpmdimapdaaBd07
import Derived.Test.YtdbgkpmdimapdaaBd01
import Derived.Test.YtdbgkpmdimapdaaBd00
set_option linter.unusedSimpArgs false
set_option linter.unusedVariables false
/- Move-to-front: lists of bytes by recency, kept as moves; what the indexes and the bytes are; they undo each other. -/
namespace G294
/-- a list of all bytes by recency: the increasing one, or one behind a byte moved to the front from a place -/
inductive Rec where
  | inc : Rec
  | mv : UInt8 → UInt8 → Rec → Rec
def ixOf : Rec → UInt8 → UInt8
  | .inc, b => b
  | .mv f k r, b => if b = f then 0 else if ixOf r b < k then ixOf r b + 1 else ixOf r b
def atOf : Rec → UInt8 → UInt8
  | .inc, i => i
  | .mv f k r, i => if i = 0 then f else if i ≤ k then atOf r (i - 1) else atOf r i
def isFront : Rec → UInt8 → Bool
  | .inc, _ => false
  | .mv f _ _, b => decide (f = b)
def frontR (b : UInt8) (r : Rec) : Rec := if isFront r b = true then r else .mv b (ixOf r b) r
def mfR : Rec → List UInt8 → List UInt8
  | _, [] => []
  | r, b :: s => ixOf r b :: mfR (frontR b r) s
def mbR : Rec → List UInt8 → List UInt8
  | _, [] => []
  | r, i :: l => atOf r i :: mbR (frontR (atOf r i) r) l
/-- the list behind the moves of a text -/
def lastR : Rec → List UInt8 → Rec
  | r, [] => r
  | r, b :: s => lastR (frontR b r) s
def moved (s : List UInt8) : List UInt8 := mfR .inc s
def unmoved (l : List UInt8) : List UInt8 := mbR .inc l
structure OkR (r : Rec) : Prop where
  at_ix : ∀ b, atOf r (ixOf r b) = b
  ix_at : ∀ i, ixOf r (atOf r i) = i
theorem okR_inc : OkR .inc := ⟨fun _ => rfl, fun _ => rfl⟩
theorem u8_lt_iff (a b : UInt8) : a < b ↔ a.toNat < b.toNat := Iff.rfl
theorem u8_succ {a k : UInt8} (h : a < k) : (a + 1).toNat = a.toNat + 1 := by
  have h1 := (u8_lt_iff a k).1 h
  have h2 := k.toNat_lt
  rw [UInt8.toNat_add, show (1 : UInt8).toNat = 1 from rfl, Nat.mod_eq_of_lt (by omega)]
theorem u8_pred {i : UInt8} (h : i ≠ 0) : (i - 1).toNat + 1 = i.toNat := by
  have h0 : i.toNat ≠ 0 := fun e => h (UInt8.toNat_inj.1 (by rw [e]; rfl))
  have h2 := i.toNat_lt
  rw [UInt8.toNat_sub, show (1 : UInt8).toNat = 1 from rfl]
  omega
theorem u8_ne {a b : UInt8} (h : a ≠ b) : a.toNat ≠ b.toNat := fun e => h (UInt8.toNat_inj.1 e)
theorem ix_inj {r : Rec} (h : OkR r) {b c : UInt8} (e : ixOf r b = ixOf r c) : b = c := by rw [← h.at_ix b, e, h.at_ix]
theorem okR_mv {r : Rec} (h : OkR r) (f : UInt8) : OkR (.mv f (ixOf r f) r) := by
  constructor
  · intro b
    by_cases hb : b = f
    · simp [ixOf, atOf, hb]
    · have hne : ixOf r b ≠ ixOf r f := fun e => hb (ix_inj h e)
      by_cases hl : ixOf r b < ixOf r f
      · have hs := u8_succ hl
        have h1 := (u8_lt_iff _ _).1 hl
        have e : ixOf (.mv f (ixOf r f) r) b = ixOf r b + 1 := by simp [ixOf, hb, hl]
        rw [e]
        have h0 : ixOf r b + 1 ≠ 0 := fun e => by rw [e] at hs; simp at hs
        have hle : ixOf r b + 1 ≤ ixOf r f := by rw [UInt8.le_iff_toNat_le, hs]; omega
        have e2 : ixOf r b + 1 - 1 = ixOf r b := UInt8.toNat_inj.1 (by have := u8_pred h0; omega)
        show (if ixOf r b + 1 = 0 then f else if ixOf r b + 1 ≤ ixOf r f then atOf r (ixOf r b + 1 - 1) else atOf r (ixOf r b + 1)) = b
        rw [if_neg h0, if_pos hle, e2, h.at_ix]
      · have e : ixOf (.mv f (ixOf r f) r) b = ixOf r b := by simp [ixOf, hb, hl]
        rw [e]
        have h1 : ixOf r f < ixOf r b := by
          rw [u8_lt_iff] at hl ⊢
          have := u8_ne hne
          omega
        have h0 : ixOf r b ≠ 0 := fun e => by rw [e, u8_lt_iff] at h1; simp at h1
        have hle : ¬ ixOf r b ≤ ixOf r f := by rw [UInt8.le_iff_toNat_le]; rw [u8_lt_iff] at h1; omega
        show (if ixOf r b = 0 then f else if ixOf r b ≤ ixOf r f then atOf r (ixOf r b - 1) else atOf r (ixOf r b)) = b
        rw [if_neg h0, if_neg hle, h.at_ix]
  · intro i
    by_cases h0 : i = 0
    · subst h0; simp [ixOf, atOf]
    · by_cases hle : i ≤ ixOf r f
      · have e : atOf (.mv f (ixOf r f) r) i = atOf r (i - 1) := by simp [atOf, h0, hle]
        rw [e]
        have hp := u8_pred h0
        have hl : i - 1 < ixOf r f := by rw [u8_lt_iff]; rw [UInt8.le_iff_toNat_le] at hle; omega
        have hne : atOf r (i - 1) ≠ f := fun e => by rw [← e, h.ix_at, u8_lt_iff] at hl; omega
        show (if atOf r (i - 1) = f then 0 else if ixOf r (atOf r (i - 1)) < ixOf r f then ixOf r (atOf r (i - 1)) + 1 else ixOf r (atOf r (i - 1))) = i
        rw [if_neg hne, h.ix_at, if_pos hl]
        exact UInt8.toNat_inj.1 (by rw [u8_succ hl]; omega)
      · have e : atOf (.mv f (ixOf r f) r) i = atOf r i := by simp [atOf, h0, hle]
        rw [e]
        have hl : ¬ i < ixOf r f := by rw [u8_lt_iff]; rw [UInt8.le_iff_toNat_le] at hle; omega
        have hne : atOf r i ≠ f := fun e => hle (by rw [← e, h.ix_at]; exact UInt8.le_iff_toNat_le.2 (Nat.le_refl _))
        show (if atOf r i = f then 0 else if ixOf r (atOf r i) < ixOf r f then ixOf r (atOf r i) + 1 else ixOf r (atOf r i)) = i
        rw [if_neg hne, h.ix_at, if_neg hl]
theorem okR_front {r : Rec} (h : OkR r) (b : UInt8) : OkR (frontR b r) := by
  unfold frontR
  split
  · exact h
  · exact okR_mv h b
theorem ix_front (b : UInt8) (r : Rec) : ixOf (frontR b r) b = 0 := by
  unfold frontR
  split
  · rename_i h
    cases r with
    | inc => simp [isFront] at h
    | mv f k r => simp only [isFront, decide_eq_true_eq] at h; subst h; simp [ixOf]
  · simp [ixOf]
theorem at_front (b : UInt8) (r : Rec) : atOf (frontR b r) 0 = b := by
  unfold frontR
  split
  · rename_i h
    cases r with
    | inc => simp [isFront] at h
    | mv f k r => simp only [isFront, decide_eq_true_eq] at h; subst h; simp [atOf]
  · simp [atOf]
@[simp] theorem mfR_length : ∀ (r : Rec) (s : List UInt8), (mfR r s).length = s.length
  | _, [] => rfl
  | r, b :: s => by simp [mfR, mfR_length (frontR b r) s]
@[simp] theorem mbR_length : ∀ (r : Rec) (l : List UInt8), (mbR r l).length = l.length
  | _, [] => rfl
  | r, i :: l => by simp [mbR, mbR_length (frontR (atOf r i) r) l]
theorem mb_mf : ∀ {r : Rec} (h : OkR r) (s : List UInt8), mbR r (mfR r s) = s
  | _, _, [] => rfl
  | r, h, b :: s => by simp only [mfR, mbR, h.at_ix, mb_mf (okR_front h b) s]
theorem mf_mb : ∀ {r : Rec} (h : OkR r) (l : List UInt8), mfR r (mbR r l) = l
  | _, _, [] => rfl
  | r, h, i :: l => by simp only [mfR, mbR, h.ix_at, mf_mb (okR_front h (atOf r i)) l]
theorem okR_last : ∀ {r : Rec} (h : OkR r) (s : List UInt8), OkR (lastR r s)
  | _, h, [] => h
  | r, h, b :: s => okR_last (okR_front h b) s
theorem lastR_append (r : Rec) (s t : List UInt8) : lastR r (s ++ t) = lastR (lastR r s) t := by
  induction s generalizing r with
  | nil => rfl
  | cons b s ih => exact ih _
theorem lastR_snoc (r : Rec) (s : List UInt8) (b : UInt8) : lastR r (s ++ [b]) = frontR b (lastR r s) := by rw [lastR_append]; rfl
theorem mfR_append (r : Rec) (s t : List UInt8) : mfR r (s ++ t) = mfR r s ++ mfR (lastR r s) t := by
  induction s generalizing r with
  | nil => rfl
  | cons b s ih => simp only [List.cons_append, mfR, lastR, ih]
theorem mfR_snoc (r : Rec) (s : List UInt8) (b : UInt8) : mfR r (s ++ [b]) = mfR r s ++ [ixOf (lastR r s) b] := by rw [mfR_append]; rfl
theorem mbR_append (r : Rec) (s t : List UInt8) : mbR r (s ++ t) = mbR r s ++ mbR (lastR r (mbR r s)) t := by
  induction s generalizing r with
  | nil => rfl
  | cons b s ih => simp only [List.cons_append, mbR, lastR, ih]
theorem mbR_snoc (r : Rec) (s : List UInt8) (i : UInt8) : mbR r (s ++ [i]) = mbR r s ++ [atOf (lastR r (mbR r s)) i] := by rw [mbR_append]; rfl
theorem moved_take {s : List UInt8} {k : Nat} (h : k < s.length) : moved (s.take (k + 1)) = moved (s.take k) ++ [ixOf (lastR .inc (s.take k)) s[k]] := by
  unfold moved
  rw [List.take_succ_eq_append_getElem h, mfR_snoc]
theorem last_take {s : List UInt8} {k : Nat} (h : k < s.length) : lastR .inc (s.take (k + 1)) = frontR s[k] (lastR .inc (s.take k)) := by
  rw [List.take_succ_eq_append_getElem h, lastR_snoc]
theorem unmoved_take {s : List UInt8} {k : Nat} (h : k < s.length) : unmoved (s.take (k + 1)) = unmoved (s.take k) ++ [atOf (lastR .inc (unmoved (s.take k))) s[k]] := by
  unfold unmoved
  rw [List.take_succ_eq_append_getElem h, mbR_snoc]
/-- an element is 0 exactly where the byte is the one before -/
theorem zero_front {r : Rec} (h : OkR r) (b c : UInt8) : ixOf (frontR b r) c = 0 ↔ c = b := by
  constructor
  · intro e
    exact ix_inj (okR_front h b) (by rw [e, ix_front])
  · rintro rfl
    exact ix_front _ _
theorem moved_zero (s : List UInt8) (i : Nat) (h : i + 1 < s.length) : (moved s).getD (i + 1) 0 = 0 ↔ s.getD (i + 1) 0 = s.getD i 0 := by
  have e : moved s = moved (s.take (i + 1)) ++ mfR (lastR .inc (s.take (i + 1))) (s.drop (i + 1)) := by
    unfold moved
    rw [← mfR_append, List.take_append_drop]
  have el : (moved (s.take (i + 1))).length = i + 1 := by simp [moved]; omega
  rw [List.getD_eq_getElem?_getD, List.getD_eq_getElem?_getD, List.getD_eq_getElem?_getD, e, List.getElem?_append_right (by omega), el, Nat.sub_self]
  rw [List.drop_eq_getElem_cons h, last_take (by omega)]
  rw [List.getElem?_eq_getElem h, List.getElem?_eq_getElem (show i < s.length by omega)]
  show ixOf (frontR s[i] _) s[i + 1] = 0 ↔ s[i + 1] = s[i]
  exact zero_front (okR_last okR_inc _) _ _
/-! the model's: a row of all bytes -/
structure Rowed (r : Rec) (row : List UInt8) : Prop where
  len : row.length = 256
  nth : ∀ i : UInt8, row[i.toNat]? = some (atOf r i)
def row0 : List UInt8 := (List.range 256).map UInt8.ofNat
theorem rowed0 : Rowed .inc row0 := by
  refine ⟨by simp [row0], fun i => ?_⟩
  have := i.toNat_lt
  simp [row0, atOf, List.getElem?_range (show i.toNat < 256 from this)]
def moveTo (row : List UInt8) (k : Nat) : List UInt8 := row.getD k 0 :: (row.take k ++ row.drop (k + 1))
theorem rowed_get {r : Rec} {row : List UInt8} (h : Rowed r row) {k : Nat} (hk : k < 256) : row[k]? = some (atOf r (UInt8.ofNat k)) := by
  have := h.nth (UInt8.ofNat k)
  rwa [UInt8.toNat_ofNat', Nat.mod_eq_of_lt (show k < 2 ^ 8 by omega)] at this
theorem rowed_getD {r : Rec} {row : List UInt8} (h : Rowed r row) {k : Nat} (hk : k < 256) : row.getD k 0 = atOf r (UInt8.ofNat k) := by
  rw [List.getD_eq_getElem?_getD, rowed_get h hk]; rfl
/-- where a byte stands -/
theorem rowed_ix {r : Rec} {row : List UInt8} (h : Rowed r row) (o : OkR r) (b : UInt8) : row.getD (ixOf r b).toNat 0 = b := by
  rw [List.getD_eq_getElem?_getD, h.nth, o.at_ix]; rfl
theorem rowed_before {r : Rec} {row : List UInt8} (h : Rowed r row) (o : OkR r) {b : UInt8} {k : Nat} (hk : k < (ixOf r b).toNat) : row.getD k 0 ≠ b := by
  have := (ixOf r b).toNat_lt
  rw [rowed_getD h (by omega)]
  rintro rfl
  rw [o.ix_at, UInt8.toNat_ofNat'] at hk
  omega
theorem moveTo_length {row : List UInt8} {k : Nat} (h : k < row.length) : (moveTo row k).length = row.length := by simp [moveTo]; omega
theorem rowed_mv {r : Rec} {row : List UInt8} (h : Rowed r row) (b : UInt8) (o : OkR r) : Rowed (.mv b (ixOf r b) r) (moveTo row (ixOf r b).toNat) := by
  have hk := (ixOf r b).toNat_lt
  refine ⟨by rw [moveTo_length (by rw [h.len]; omega), h.len], fun i => ?_⟩
  by_cases h0 : i = 0
  · subst h0
    show some (row.getD (ixOf r b).toNat 0) = _
    rw [rowed_ix h o]
    simp [atOf]
  · have hp := u8_pred h0
    have hil := i.toNat_lt
    show (row.getD (ixOf r b).toNat 0 :: (row.take (ixOf r b).toNat ++ row.drop ((ixOf r b).toNat + 1)))[i.toNat]? = some (if i = 0 then b else if i ≤ ixOf r b then atOf r (i - 1) else atOf r i)
    rw [if_neg h0, ← hp, List.getElem?_cons_succ]
    by_cases hle : i ≤ ixOf r b
    · rw [if_pos hle]
      rw [UInt8.le_iff_toNat_le] at hle
      rw [List.getElem?_append_left (by simp [h.len]; omega), List.getElem?_take_of_lt (by omega), h.nth]
    · rw [if_neg hle]
      rw [UInt8.le_iff_toNat_le] at hle
      have hl : (row.take (ixOf r b).toNat).length = (ixOf r b).toNat := by simp [h.len]; omega
      rw [List.getElem?_append_right (by omega), hl, List.getElem?_drop, show (ixOf r b).toNat + 1 + ((i - 1).toNat - (ixOf r b).toNat) = i.toNat by omega, h.nth]
theorem rowed_front {r : Rec} {row : List UInt8} (h : Rowed r row) (b : UInt8) (o : OkR r) : Rowed (frontR b r) (moveTo row (ixOf r b).toNat) := by
  unfold frontR
  by_cases hf : isFront r b = true
  · rw [if_pos hf]
    cases r with
    | inc => simp [isFront] at hf
    | mv f k r =>
      simp only [isFront, decide_eq_true_eq] at hf
      subst hf
      have e : ixOf (.mv f k r) f = 0 := by simp [ixOf]
      rw [e]
      have hd : moveTo row (0 : UInt8).toNat = row := by
        have hl := h.len
        cases row with
        | nil => simp at hl
        | cons x row => simp [moveTo]
      rw [hd]
      exact h
  · rw [if_neg hf]
    exact rowed_mv h b o
/-- the model's row behind a text -/
def rowN (s : List UInt8) : Nat → List UInt8
  | 0 => row0
  | k + 1 => moveTo (rowN s k) (ixOf (lastR .inc (s.take k)) (s.getD k 0)).toNat
theorem rowN_ok (s : List UInt8) : ∀ k, k ≤ s.length → Rowed (lastR .inc (s.take k)) (rowN s k)
  | 0, _ => rowed0
  | k + 1, h => by
    have ih := rowN_ok s k (by omega)
    have hk : k < s.length := by omega
    rw [last_take hk]
    have e : s.getD k 0 = s[k] := by rw [List.getD_eq_getElem?_getD, List.getElem?_eq_getElem hk]; rfl
    show Rowed _ (moveTo (rowN s k) (ixOf (lastR .inc (s.take k)) (s.getD k 0)).toNat)
    rw [e]
    exact rowed_front ih s[k] (okR_last okR_inc _)
/-- how many are below a bound -/
def smallN (l : List UInt8) (below : Int) : Nat := (l.filter fun b => decide ((b.toNat : Int) < below)).length
theorem smallN_take {l : List UInt8} {k : Nat} (below : Int) (h : k < l.length) : smallN (l.take (k + 1)) below = smallN (l.take k) below + (if (l[k].toNat : Int) < below then 1 else 0) := by
  unfold smallN
  rw [List.take_succ_eq_append_getElem h, List.filter_append, List.length_append]
  congr 1
  by_cases hb : (l[k].toNat : Int) < below <;> simp [hb]
theorem smallN_le (l : List UInt8) (below : Int) : smallN l below ≤ l.length := List.length_filter_le _ _
theorem smallN_all (l : List UInt8) : smallN l 256 = l.length := by
  unfold smallN
  rw [List.filter_eq_self.2]
  intro b _
  have := b.toNat_lt
  simp only [decide_eq_true_eq]
  omega
end G294

/- Chapter 12: the program's lists by recency: values behind an interface; indexOf, byteAt, withFront. -/
namespace G294
open Go Go.RowKit
theorem ub_eq {a b : UInt8} : ((a.toNat : Int) == (b.toNat : Int)) = decide (a = b) := by
  by_cases h : a = b
  · subst h; simp
  · rw [decide_eq_false h, beq_eq_false_iff_ne]
    intro e
    exact h (UInt8.toNat_inj.1 (by omega))
theorem ub_succ {a k : UInt8} (h : a.toNat < k.toNat) : ((a + 1).toNat : Int) = (a.toNat : Int) + 1 := by
  have := u8_succ (show a < k from h)
  omega
theorem ub_pred {i : UInt8} (h : i ≠ 0) : ((i - 1).toNat : Int) = (i.toNat : Int) - 1 := by
  have := u8_pred h
  omega
theorem alloc_t0 (w : World) (x y z : Value) (T : TypeId) : (w.alloc (.cells #[x, y, z] T)).cell? ⟨w.heap.size, 0, none⟩ = some x := by simp
theorem alloc_t1 (w : World) (x y z : Value) (T : TypeId) : (w.alloc (.cells #[x, y, z] T)).cell? ⟨w.heap.size, 1, none⟩ = some y := by simp
theorem alloc_t2 (w : World) (x y z : Value) (T : TypeId) : (w.alloc (.cells #[x, y, z] T)).cell? ⟨w.heap.size, 2, none⟩ = some z := by simp
theorem alloc_tL (w : World) (o : Obj) : w.heap.size < (w.alloc o).heap.size := by rw [World.size_alloc]; omega
end G294
namespace Go.Proofs.Ytdbgkpmdimapdaa
open Go.RowKit G294

def tyR : Rec → TypeId
  | .inc => 77
  | .mv _ _ _ => 101

def payR : Rec → Value
  | .inc => .agg #[]
  | .mv f k r => .agg #[.int .u8 (f.toNat : Int), .int .u8 (k.toNat : Int), .iface (tyR r) (payR r)]

def ixF : Rec → FuncId
  | .inc => 144
  | .mv _ _ _ => 146

def atF : Rec → FuncId
  | .inc => 143
  | .mv _ _ _ => 145

theorem methIxI (x : Value) (w : World) : (method 250 77 x "loop.example/g00294/impl.indexOf").run Try.prog w = .ok (144, x) w := by kernel_rfl

theorem methIxM (x : Value) (w : World) : (method 250 101 x "loop.example/g00294/impl.indexOf").run Try.prog w = .ok (146, x) w := by kernel_rfl

theorem methAtI (x : Value) (w : World) : (method 250 77 x "loop.example/g00294/impl.byteAt").run Try.prog w = .ok (143, x) w := by kernel_rfl

theorem methAtM (x : Value) (w : World) : (method 250 101 x "loop.example/g00294/impl.byteAt").run Try.prog w = .ok (145, x) w := by kernel_rfl

theorem assI (x : Value) (w : World) : (Instr.typeAssert (.iface 77 x) 79 101 true).run Try.prog w = .ok (.tuple #[.agg #[.int .u8 0, .int .u8 0, .nilIface], .bool false]) w := by kernel_rfl

theorem assM (x : Value) (w : World) : (Instr.typeAssert (.iface 101 x) 79 101 true).run Try.prog w = .ok (.tuple #[x, .bool true]) w := by kernel_rfl

theorem methIx (r : Rec) (w : World) : (method 250 (tyR r) (payR r) "loop.example/g00294/impl.indexOf").run Try.prog w = .ok (ixF r, payR r) w := by
  cases r with
  | inc => exact methIxI _ w
  | mv f k r => exact methIxM _ w

theorem methAt (r : Rec) (w : World) : (method 250 (tyR r) (payR r) "loop.example/g00294/impl.byteAt").run Try.prog w = .ok (atF r, payR r) w := by
  cases r with
  | inc => exact methAtI _ w
  | mv f k r => exact methAtM _ w

set_option maxRecDepth 100000 in
set_option maxHeartbeats 1000000 in
theorem ixInc_own (b : UInt8) (w : World) : Calls Try.prog 144 #[.agg #[], .int .u8 (b.toNat : Int)] w (RetByte w b) := by
  have kk : TurnIn 0 0 w (w.alloc (.cells #[] 77)) := turn_alloc _ _
  go_enter Try.func144, Try.ntmps144
  go_wp2_with fail
  go_ret
  exact ⟨rfl, kk⟩

set_option maxRecDepth 100000 in
set_option maxHeartbeats 1000000 in
theorem atInc_own (b : UInt8) (w : World) : Calls Try.prog 143 #[.agg #[], .int .u8 (b.toNat : Int)] w (RetByte w b) := by
  have kk : TurnIn 0 0 w (w.alloc (.cells #[] 77)) := turn_alloc _ _
  go_enter Try.func143, Try.ntmps143
  go_wp2_with fail
  go_ret
  exact ⟨rfl, kk⟩

set_option maxRecDepth 100000 in
set_option maxHeartbeats 2000000 in
theorem ixMv_I (f k b i : UInt8) (p : Value) (HC : Hid (∀ w, Calls Try.prog 144 #[p, .int .u8 (b.toNat : Int)] w (RetByte w i))) (w : World) : Calls Try.prog 146 #[.agg #[.int .u8 (f.toNat : Int), .int .u8 (k.toNat : Int), .iface 77 p], .int .u8 (b.toNat : Int)] w (RetByte w (if b = f then 0 else if i < k then i + 1 else i)) := by
    have hm := methIxI p
    obtain ⟨R, hX0⟩ : ∃ R, R = (if b = f then 0 else if i < k then i + 1 else i) := ⟨_, rfl⟩
    have hX := Lib.hid hX0
    rw [← hX0]
    clear hX0
    have d0 := alloc_t0 w (.int .u8 (f.toNat : Int)) (.int .u8 (k.toNat : Int)) (.iface 77 p) 101
    have d1 := alloc_t1 w (.int .u8 (f.toNat : Int)) (.int .u8 (k.toNat : Int)) (.iface 77 p) 101
    have d2 := alloc_t2 w (.int .u8 (f.toNat : Int)) (.int .u8 (k.toNat : Int)) (.iface 77 p) 101
    have kk := turn_alloc w (.cells #[.int .u8 (f.toNat : Int), .int .u8 (k.toNat : Int), .iface 77 p] 101)
    have ll := alloc_tL w (.cells #[.int .u8 (f.toNat : Int), .int .u8 (k.toNat : Int), .iface 77 p] 101)
    by_cases hb : b = f
    · have h1 : ((b.toNat : Int) == (f.toNat : Int)) = true := by rw [ub_eq]; exact decide_eq_true hb
      have hE : Hid (R = 0) := by show _ = _; rw [hX.out, if_pos hb]
      clear hb
      go_enter Try.func146, Try.ntmps146
      go_wp2_with fail
      go_ret
      exact ⟨by rw [hE.out]; rfl, kk⟩
    · have h1 : ((b.toNat : Int) == (f.toNat : Int)) = false := by rw [ub_eq]; exact decide_eq_false hb
      have hX2 : Hid (R = if i < k then i + 1 else i) := by show _ = _; rw [hX.out, if_neg hb]
      clear hb
      go_enter Try.func146, Try.ntmps146
      go_wp2_with fail
      refine (HC.out _).mono ?_
      rintro e w2 ⟨rfl, k2⟩
      have c1 := cell_turn k2 d1 ll
      have KF := Lib.hid (turn_trans kk k2 (by omega))
      clear d0 d1 d2 kk k2
      by_cases hi : i.toNat < k.toNat
      · have hlt := k.toNat_lt
        have hE : Hid (R = i + 1) := by show _ = _; rw [hX2.out, if_pos (show i < k from hi)]
        have HU := Lib.hid (ub_succ hi)
        go_wp2_with fail
        go_ret
        exact ⟨by rw [hE.out, HU.out]; rfl, KF.out⟩
      · have hE : Hid (R = i) := by show _ = _; rw [hX2.out, if_neg (show ¬ i < k from hi)]
        go_wp2_with fail
        go_ret
        exact ⟨by rw [hE.out]; rfl, KF.out⟩

set_option maxRecDepth 100000 in
set_option maxHeartbeats 2000000 in
theorem ixMv_M (f k b i : UInt8) (p : Value) (HC : Hid (∀ w, Calls Try.prog 146 #[p, .int .u8 (b.toNat : Int)] w (RetByte w i))) (w : World) : Calls Try.prog 146 #[.agg #[.int .u8 (f.toNat : Int), .int .u8 (k.toNat : Int), .iface 101 p], .int .u8 (b.toNat : Int)] w (RetByte w (if b = f then 0 else if i < k then i + 1 else i)) := by
    have hm := methIxM p
    obtain ⟨R, hX0⟩ : ∃ R, R = (if b = f then 0 else if i < k then i + 1 else i) := ⟨_, rfl⟩
    have hX := Lib.hid hX0
    rw [← hX0]
    clear hX0
    have d0 := alloc_t0 w (.int .u8 (f.toNat : Int)) (.int .u8 (k.toNat : Int)) (.iface 101 p) 101
    have d1 := alloc_t1 w (.int .u8 (f.toNat : Int)) (.int .u8 (k.toNat : Int)) (.iface 101 p) 101
    have d2 := alloc_t2 w (.int .u8 (f.toNat : Int)) (.int .u8 (k.toNat : Int)) (.iface 101 p) 101
    have kk := turn_alloc w (.cells #[.int .u8 (f.toNat : Int), .int .u8 (k.toNat : Int), .iface 101 p] 101)
    have ll := alloc_tL w (.cells #[.int .u8 (f.toNat : Int), .int .u8 (k.toNat : Int), .iface 101 p] 101)
    by_cases hb : b = f
    · have h1 : ((b.toNat : Int) == (f.toNat : Int)) = true := by rw [ub_eq]; exact decide_eq_true hb
      have hE : Hid (R = 0) := by show _ = _; rw [hX.out, if_pos hb]
      clear hb
      go_enter Try.func146, Try.ntmps146
      go_wp2_with fail
      go_ret
      exact ⟨by rw [hE.out]; rfl, kk⟩
    · have h1 : ((b.toNat : Int) == (f.toNat : Int)) = false := by rw [ub_eq]; exact decide_eq_false hb
      have hX2 : Hid (R = if i < k then i + 1 else i) := by show _ = _; rw [hX.out, if_neg hb]
      clear hb
      go_enter Try.func146, Try.ntmps146
      go_wp2_with fail
      refine (HC.out _).mono ?_
      rintro e w2 ⟨rfl, k2⟩
      have c1 := cell_turn k2 d1 ll
      have KF := Lib.hid (turn_trans kk k2 (by omega))
      clear d0 d1 d2 kk k2
      by_cases hi : i.toNat < k.toNat
      · have hlt := k.toNat_lt
        have hE : Hid (R = i + 1) := by show _ = _; rw [hX2.out, if_pos (show i < k from hi)]
        have HU := Lib.hid (ub_succ hi)
        go_wp2_with fail
        go_ret
        exact ⟨by rw [hE.out, HU.out]; rfl, KF.out⟩
      · have hE : Hid (R = i) := by show _ = _; rw [hX2.out, if_neg (show ¬ i < k from hi)]
        go_wp2_with fail
        go_ret
        exact ⟨by rw [hE.out]; rfl, KF.out⟩

set_option maxRecDepth 100000 in
set_option maxHeartbeats 2000000 in
theorem atMv_I (f k b : UInt8) (i : UInt8 → UInt8) (p : Value) (HC : Hid (∀ b w, Calls Try.prog 143 #[p, .int .u8 (UInt8.toNat b : Int)] w (RetByte w (i b)))) (w : World) : Calls Try.prog 145 #[.agg #[.int .u8 (f.toNat : Int), .int .u8 (k.toNat : Int), .iface 77 p], .int .u8 (b.toNat : Int)] w (RetByte w (if b = 0 then f else if b ≤ k then i (b - 1) else i b)) := by
    have hm := methAtI p
    obtain ⟨R, hX0⟩ : ∃ R, R = (if b = 0 then f else if b ≤ k then i (b - 1) else i b) := ⟨_, rfl⟩
    have hX := Lib.hid hX0
    rw [← hX0]
    clear hX0
    have d0 := alloc_t0 w (.int .u8 (f.toNat : Int)) (.int .u8 (k.toNat : Int)) (.iface 77 p) 101
    have d1 := alloc_t1 w (.int .u8 (f.toNat : Int)) (.int .u8 (k.toNat : Int)) (.iface 77 p) 101
    have d2 := alloc_t2 w (.int .u8 (f.toNat : Int)) (.int .u8 (k.toNat : Int)) (.iface 77 p) 101
    have kk := turn_alloc w (.cells #[.int .u8 (f.toNat : Int), .int .u8 (k.toNat : Int), .iface 77 p] 101)
    by_cases hb : b = 0
    · have h1 : ((b.toNat : Int) == 0) = true := by rw [hb]; rfl
      have hE : Hid (R = f) := by show _ = _; rw [hX.out, if_pos hb]
      clear hb
      go_enter Try.func145, Try.ntmps145
      go_wp2_with fail
      go_ret
      exact ⟨by rw [hE.out]; rfl, kk⟩
    · have h1 : ((b.toNat : Int) == 0) = false := by rw [beq_eq_false_iff_ne]; intro e; exact hb (UInt8.toNat_inj.1 (by simp; omega))
      have hX2 : Hid (R = if b ≤ k then i (b - 1) else i b) := by show _ = _; rw [hX.out, if_neg hb]
      by_cases hi : b.toNat ≤ k.toNat
      · have hlt := b.toNat_lt
        have hpos : 0 < b.toNat := by
          rcases Nat.eq_zero_or_pos b.toNat with h | h
          · exact absurd (UInt8.toNat_inj.1 (by rw [h]; rfl)) hb
          · exact h
        have hE : Hid (R = i (b - 1)) := by show _ = _; rw [hX2.out, if_pos (show b ≤ k from hi)]
        have HC2 := Lib.hid (HC.out (b - 1))
        rw [ub_pred hb] at HC2
        clear hb
        go_enter Try.func145, Try.ntmps145
        go_wp2_with fail
        refine (HC2.out _).mono ?_
        rintro e w2 ⟨rfl, k2⟩
        have KF := Lib.hid (turn_trans kk k2 (by omega))
        clear d0 d1 d2 kk k2
        go_wp2_with fail
        go_ret
        exact ⟨by rw [hE.out]; rfl, KF.out⟩
      · have hE : Hid (R = i b) := by show _ = _; rw [hX2.out, if_neg (show ¬ b ≤ k from hi)]
        clear hb
        go_enter Try.func145, Try.ntmps145
        go_wp2_with fail
        refine (HC.out b _).mono ?_
        rintro e w2 ⟨rfl, k2⟩
        have KF := Lib.hid (turn_trans kk k2 (by omega))
        clear d0 d1 d2 kk k2
        go_wp2_with fail
        go_ret
        exact ⟨by rw [hE.out]; rfl, KF.out⟩

set_option maxRecDepth 100000 in
set_option maxHeartbeats 2000000 in
theorem atMv_M (f k b : UInt8) (i : UInt8 → UInt8) (p : Value) (HC : Hid (∀ b w, Calls Try.prog 145 #[p, .int .u8 (UInt8.toNat b : Int)] w (RetByte w (i b)))) (w : World) : Calls Try.prog 145 #[.agg #[.int .u8 (f.toNat : Int), .int .u8 (k.toNat : Int), .iface 101 p], .int .u8 (b.toNat : Int)] w (RetByte w (if b = 0 then f else if b ≤ k then i (b - 1) else i b)) := by
    have hm := methAtM p
    obtain ⟨R, hX0⟩ : ∃ R, R = (if b = 0 then f else if b ≤ k then i (b - 1) else i b) := ⟨_, rfl⟩
    have hX := Lib.hid hX0
    rw [← hX0]
    clear hX0
    have d0 := alloc_t0 w (.int .u8 (f.toNat : Int)) (.int .u8 (k.toNat : Int)) (.iface 101 p) 101
    have d1 := alloc_t1 w (.int .u8 (f.toNat : Int)) (.int .u8 (k.toNat : Int)) (.iface 101 p) 101
    have d2 := alloc_t2 w (.int .u8 (f.toNat : Int)) (.int .u8 (k.toNat : Int)) (.iface 101 p) 101
    have kk := turn_alloc w (.cells #[.int .u8 (f.toNat : Int), .int .u8 (k.toNat : Int), .iface 101 p] 101)
    by_cases hb : b = 0
    · have h1 : ((b.toNat : Int) == 0) = true := by rw [hb]; rfl
      have hE : Hid (R = f) := by show _ = _; rw [hX.out, if_pos hb]
      clear hb
      go_enter Try.func145, Try.ntmps145
      go_wp2_with fail
      go_ret
      exact ⟨by rw [hE.out]; rfl, kk⟩
    · have h1 : ((b.toNat : Int) == 0) = false := by rw [beq_eq_false_iff_ne]; intro e; exact hb (UInt8.toNat_inj.1 (by simp; omega))
      have hX2 : Hid (R = if b ≤ k then i (b - 1) else i b) := by show _ = _; rw [hX.out, if_neg hb]
      by_cases hi : b.toNat ≤ k.toNat
      · have hlt := b.toNat_lt
        have hpos : 0 < b.toNat := by
          rcases Nat.eq_zero_or_pos b.toNat with h | h
          · exact absurd (UInt8.toNat_inj.1 (by rw [h]; rfl)) hb
          · exact h
        have hE : Hid (R = i (b - 1)) := by show _ = _; rw [hX2.out, if_pos (show b ≤ k from hi)]
        have HC2 := Lib.hid (HC.out (b - 1))
        rw [ub_pred hb] at HC2
        clear hb
        go_enter Try.func145, Try.ntmps145
        go_wp2_with fail
        refine (HC2.out _).mono ?_
        rintro e w2 ⟨rfl, k2⟩
        have KF := Lib.hid (turn_trans kk k2 (by omega))
        clear d0 d1 d2 kk k2
        go_wp2_with fail
        go_ret
        exact ⟨by rw [hE.out]; rfl, KF.out⟩
      · have hE : Hid (R = i b) := by show _ = _; rw [hX2.out, if_neg (show ¬ b ≤ k from hi)]
        clear hb
        go_enter Try.func145, Try.ntmps145
        go_wp2_with fail
        refine (HC.out b _).mono ?_
        rintro e w2 ⟨rfl, k2⟩
        have KF := Lib.hid (turn_trans kk k2 (by omega))
        clear d0 d1 d2 kk k2
        go_wp2_with fail
        go_ret
        exact ⟨by rw [hE.out]; rfl, KF.out⟩

theorem ix_own : ∀ (r : Rec) (b : UInt8) (w : World), Calls Try.prog (ixF r) #[payR r, .int .u8 (b.toNat : Int)] w (RetByte w (ixOf r b))
  | .inc, b, w => ixInc_own b w
  | .mv f k .inc, b, w => ixMv_I f k b (ixOf .inc b) (payR .inc) (Lib.hid fun w => ix_own .inc b w) w
  | .mv f k (.mv f' k' r), b, w => ixMv_M f k b (ixOf (.mv f' k' r) b) (payR (.mv f' k' r)) (Lib.hid fun w => ix_own (.mv f' k' r) b w) w

theorem at_own : ∀ (r : Rec) (b : UInt8) (w : World), Calls Try.prog (atF r) #[payR r, .int .u8 (b.toNat : Int)] w (RetByte w (atOf r b))
  | .inc, b, w => atInc_own b w
  | .mv f k .inc, b, w => atMv_I f k b (atOf .inc) (payR .inc) (Lib.hid fun b w => at_own .inc b w) w
  | .mv f k (.mv f' k' r), b, w => atMv_M f k b (atOf (.mv f' k' r)) (payR (.mv f' k' r)) (Lib.hid fun b w => at_own (.mv f' k' r) b w) w

set_option maxRecDepth 100000 in
set_option maxHeartbeats 2000000 in
theorem withFront_own (b : UInt8) (r : Rec) (w : World) : Calls Try.prog 74 #[.int .u8 (b.toNat : Int), .iface (tyR r) (payR r)] w (fun e w' => e = .returned (.iface (tyR (frontR b r)) (payR (frontR b r))) ∧ TurnIn 0 0 w w') := by
  have HC := Lib.hid (fun w => ix_own r b w)
  have hm := methIx r
  cases r with
  | inc =>
    have HE : Hid (frontR b .inc = .mv b (ixOf .inc b) .inc) := Lib.hid rfl
    rw [HE.out]
    show Calls Try.prog 74 #[.int .u8 (b.toNat : Int), .iface 77 (.agg #[])] w (fun e w' => e = .returned (.iface 101 (.agg #[.int .u8 (b.toNat : Int), .int .u8 ((ixOf .inc b).toNat : Int), .iface 77 (.agg #[])])) ∧ TurnIn 0 0 w w')
    have HC' : Hid (∀ w, Calls Try.prog 144 #[.agg #[], .int .u8 (b.toNat : Int)] w (RetByte w (ixOf .inc b))) := HC
    have hm' := methIxI
    have ha := assI
    have kk := turn_alloc w (.cells #[.int .u8 0, .int .u8 0, .nilIface] 101)
    generalize ixOf .inc b = i at *
    clear hm HC
    go_enter Try.func74, Try.ntmps74
    go_wp2_with fail
    refine (HC'.out _).mono ?_
    rintro e w2 ⟨rfl, k2⟩
    have KF := Lib.hid (turn_trans kk k2 (by omega))
    clear kk k2
    go_wp2_with fail
    go_ret
    exact ⟨rfl, KF.out⟩
  | mv f k r =>
    have HC' : Hid (∀ w, Calls Try.prog 146 #[.agg #[.int .u8 (f.toNat : Int), .int .u8 (k.toNat : Int), .iface (tyR r) (payR r)], .int .u8 (b.toNat : Int)] w (RetByte w (ixOf (.mv f k r) b))) := HC
    have hm' := methIxM
    have ha := assM
    by_cases hb : f = b
    · have HE : Hid (frontR b (.mv f k r) = .mv f k r) := by show _ = _; simp [frontR, isFront, hb]
      rw [HE.out]
      show Calls Try.prog 74 #[.int .u8 (b.toNat : Int), .iface 101 (.agg #[.int .u8 (f.toNat : Int), .int .u8 (k.toNat : Int), .iface (tyR r) (payR r)])] w (fun e w' => e = .returned (.iface 101 (.agg #[.int .u8 (f.toNat : Int), .int .u8 (k.toNat : Int), .iface (tyR r) (payR r)])) ∧ TurnIn 0 0 w w')
      have h1 : ((f.toNat : Int) == (b.toNat : Int)) = true := by rw [ub_eq]; exact decide_eq_true hb
      clear hm HC HC' HE hb
      generalize payR r = p at *
      generalize tyR r = t at *
      have kk := turn_alloc w (.cells #[.int .u8 (f.toNat : Int), .int .u8 (k.toNat : Int), .iface t p] 101)
      have d0 := alloc_t0 w (.int .u8 (f.toNat : Int)) (.int .u8 (k.toNat : Int)) (.iface t p) 101
      go_enter Try.func74, Try.ntmps74
      go_wp2_with fail
      go_ret
      exact ⟨rfl, kk⟩
    · have HE : Hid (frontR b (.mv f k r) = .mv b (ixOf (.mv f k r) b) (.mv f k r)) := by show _ = _; simp [frontR, isFront, hb]
      rw [HE.out]
      show Calls Try.prog 74 #[.int .u8 (b.toNat : Int), .iface 101 (.agg #[.int .u8 (f.toNat : Int), .int .u8 (k.toNat : Int), .iface (tyR r) (payR r)])] w (fun e w' => e = .returned (.iface 101 (.agg #[.int .u8 (b.toNat : Int), .int .u8 ((ixOf (.mv f k r) b).toNat : Int), .iface 101 (.agg #[.int .u8 (f.toNat : Int), .int .u8 (k.toNat : Int), .iface (tyR r) (payR r)])])) ∧ TurnIn 0 0 w w')
      have h1 : ((f.toNat : Int) == (b.toNat : Int)) = false := by rw [ub_eq]; exact decide_eq_false hb
      clear hm HC HE hb
      generalize payR r = p at *
      generalize tyR r = t at *
      generalize ixOf (.mv f k r) b = i at *
      have kk := turn_alloc w (.cells #[.int .u8 (f.toNat : Int), .int .u8 (k.toNat : Int), .iface t p] 101)
      have d0 := alloc_t0 w (.int .u8 (f.toNat : Int)) (.int .u8 (k.toNat : Int)) (.iface t p) 101
      go_enter Try.func74, Try.ntmps74
      go_wp2_with fail
      refine (HC'.out _).mono ?_
      rintro e w2 ⟨rfl, k2⟩
      have KF := Lib.hid (turn_trans kk k2 (by omega))
      clear kk k2 d0
      go_wp2_with fail
      go_ret
      exact ⟨rfl, KF.out⟩

end Go.Proofs.Ytdbgkpmdimapdaa

/- Chapter 12: MoveFront and MoveBack, the program's. -/
namespace G294
open Go Go.RowKit
def mvfR (s : List UInt8) : List UInt8 := if mvdOk s = true then moved s else []
theorem mvfR_yes {s : List UInt8} (h : mvdOk s = true) : mvfR s = moved s := if_pos h
theorem mvfR_no {s : List UInt8} (h : mvdOk s = false) : mvfR s = [] := if_neg (by rw [h]; decide)
theorem mvfR_len (s : List UInt8) : (mvfR s).length ≤ 200 := by
  by_cases h : mvdOk s = true
  · rw [mvfR_yes h, moved, mfR_length]
    simpa [mvdOk, mvdB] using h
  · rw [mvfR_no (by simpa using h)]; simp
def mvbR (l : List UInt8) : List UInt8 := if mvdOk l = true then unmoved l else []
theorem mvbR_yes {s : List UInt8} (h : mvdOk s = true) : mvbR s = unmoved s := if_pos h
theorem mvbR_no {s : List UInt8} (h : mvdOk s = false) : mvbR s = [] := if_neg (by rw [h]; decide)
/-- the row of results behind k rounds -/
def mkd (l : List UInt8) (n : Nat) : List UInt8 := l ++ List.replicate (n - l.length) 0
theorem mkd_length {l : List UInt8} {n : Nat} (h : l.length ≤ n) : (mkd l n).length = n := by simp [mkd]; omega
theorem mkd_next {l : List UInt8} {n k : Nat} (hl : l.length = k) (h : k < n) (x : UInt8) : (bys (mkd l n)).set k (.int .u8 (x.toNat : Int)) = bys (mkd (l ++ [x]) n) := by
  subst hl
  have e : List.replicate (n - l.length) (0 : UInt8) = 0 :: List.replicate (n - (l.length + 1)) 0 := by rw [← List.replicate_succ]; congr 1; omega
  unfold mkd
  rw [e, bys_append, bys_append, bys_append, List.set_append_right _ _ (by simp)]
  simp [bys]
theorem mkd_at {l : List UInt8} {n k : Nat} (hl : l.length = k) (h : k < n) : (bys (mkd l n))[k]? = some (.int .u8 0) := by
  subst hl
  have e : List.replicate (n - l.length) (0 : UInt8) = 0 :: List.replicate (n - (l.length + 1)) 0 := by rw [← List.replicate_succ]; congr 1; omega
  unfold mkd
  rw [e, bys_append, List.getElem?_append_right (by simp)]
  simp [bys]
theorem mkd_zero (n : Nat) : mkd [] n = List.replicate n 0 := by simp [mkd]
theorem mkd_full {l : List UInt8} {n : Nat} (h : l.length = n) : mkd l n = l := by simp [mkd, h]
theorem bys_rep0 (n : Nat) : bys (List.replicate n 0) = List.replicate n (.int .u8 0) := by simp [bys]
theorem turn_setM {w w1 : World} (k : TurnIn 0 0 w w1) {g i : Nat} (x : Value) (h : w.heap.size ≤ g) : TurnIn 0 0 w (w1.setCell ⟨g, i, none⟩ x) := TurnIn.of_below (k.to_below.setCell (p := ⟨g, i, none⟩) h x)
end G294
namespace Go.Proofs.Ytdbgkpmdimapdaa
open Go.RowKit G294

theorem recShape (r : Rec) : (tyR r = 77 ∧ ixF r = 144 ∧ atF r = 143) ∨ (tyR r = 101 ∧ ixF r = 146 ∧ atF r = 145) := by
  cases r with
  | inc => exact Or.inl ⟨rfl, rfl, rfl⟩
  | mv f k r => exact Or.inr ⟨rfl, rfl, rfl⟩

set_option maxRecDepth 100000 in
set_option maxHeartbeats 4000000 in
theorem moveFront_own (s : List UInt8) (w : World) (hs : s.length ≤ 1000000000000) : Calls Try.prog 29 #[.string (str s)] w (RetBytesOk 5 w (mvfR s) (mvdOk s)) := by
  obtain ⟨i0, hi0, hz0, hz1, hz2⟩ := info_parts infoByte
  have hsz : (str s).size = s.length := str_size s
  have HG := Lib.hid (fun W => goodMoved_any s.length W)
  by_cases h : s.length ≤ 200
  · have HB : Hid (mvdB s.length = true) := by show _ = _; simp [mvdB, h]
    have HO : Hid (mvdOk s = true) := HB.out
    have HR := Lib.hid (mvfR_yes HO.out)
    rw [HR.out, HO.out]
    have HSG := Lib.hid (fun k h => str_get s k h)
    have HMT := Lib.hid (fun k (h : k < s.length) => (moved_take h).trans (by rw [← getD_at (d := (0 : UInt8)) h]))
    have HLT := Lib.hid (fun k (h : k < s.length) => (last_take h).trans (by rw [← getD_at (d := (0 : UInt8)) h]))
    have HMN := Lib.hid (fun k (h : k ≤ s.length) => show (moved (s.take k)).length = k by simp [moved]; omega)
    have HTA : Hid (moved (s.take s.length) = moved s) := by show _ = _; rw [List.take_length]
    have HMA : Hid ((moved s).length = s.length) := by show _ = _; simp [moved]
    generalize s.length = n at *
    go_enter Try.func29, Try.ntmps29
    go_wp2_with fail
    refine (HG.out _).mono ?_
    rintro e w' ⟨rfl, rfl⟩
    rw [HB.out]
    go_wp2_with (at_make; refine wpList_make_full _ rfl _ _ _ rfl w.heap.size _ i0 _ 1 Try.underlying22 hi0 hz0 hz1 _ _ _ _ n rfl rfl rfl rfl ?b2 ?b3 ?b4 ?_)
    case b2 => rw [hz2]; omega
    case b3 => unfold maxLen; omega
    case b4 => exact Nat.le_refl _
    intro w1 hown1 hg1
    have hb1 : Below w.heap.size w w1 := below_of_grown hg1 (Nat.le_refl _) (by simp)
    have HOW1 : Hid (w1.ownsRow w.heap.size 5 1 (.slice (some ⟨w.heap.size, 0, none⟩) n n) n (bys (mkd (moved (s.take 0)) n))) := by
      show World.ownsRow _ _ _ _ _ _ _
      rw [toList_madeCells_one] at hown1
      have e : moved (s.take 0) = [] := rfl
      rw [e, mkd_zero, bys_rep0]; exact hown1
    have HK1 := Lib.hid (TurnIn.of_below hb1)
    have HL0 : Hid (Value.iface 77 (.agg #[]) = .iface (tyR (lastR .inc (s.take 0))) (payR (lastR .inc (s.take 0)))) := Lib.hid rfl
    clear hown1 hg1 hb1
    go_wp2_with fail
    go_loopw [5, 18] (fun q y wr => ∃ k : Nat, k ≤ n ∧ y = .int .i64 k ∧ q = .iface (tyR (lastR .inc (s.take k))) (payR (lastR .inc (s.take k))) ∧ Hid (wr.ownsRow w.heap.size 5 1 (.slice (some ⟨w.heap.size, 0, none⟩) n n) n (bys (mkd (moved (s.take k)) n))) ∧ Hid (TurnIn 0 0 w wr)) (fun _ y _ => n - (intOf y).toNat)
    case atStart => exact ⟨0, Nat.zero_le _, rfl, HL0.out, HOW1, HK1⟩
    case round =>
      clear HOW1 HK1 HL0
      obtain ⟨k, hk, rfl, rfl, HBr, HK⟩ := hrel
      by_cases hlt : k < n
      · have hki : (k : Int) < (n : Int) := by omega
        have hwr := HK.out.size
        have hgl := (HBr.out.lt w.heap.size rfl).2
        have HML := Lib.hid (HMN.out k hk)
        have HM1 := Lib.hid (HMT.out k hlt)
        have HL1 := Lib.hid (HLT.out k hlt)
        have g1 := HSG.out k (by omega)
        have hcx : wr.cell? ⟨w.heap.size, k, none⟩ = some (.int .u8 0) := by rw [HBr.out.cellAt k (by omega), mkd_at HML.out hlt]
        have hfr := HBr.out.frozenAt k
        generalize s.getD k 0 = c at *
        generalize lastR .inc (s.take k) = r at *
        have HC := Lib.hid (fun b w => ix_own r b w)
        have HW := Lib.hid (fun b w => withFront_own b r w)
        rcases recShape r with ⟨e1, e2, e3⟩ | ⟨e1, e2, e3⟩
        · rw [e1] at HW ⊢
          rw [e2] at HC
          have hm := methIxI
          generalize payR r = p at *
          clear e1 e2 e3
          go_wp2_with fail
          have hS : (fun W : World => W.cell? ⟨w.heap.size, k, none⟩ = some (.int .u8 0)) wr.drew := hcx
          refine wp_region_tail (fun W : World => W.cell? ⟨w.heap.size, k, none⟩ = some (.int .u8 0)) 11 (by kernel_rfl) ?_
          have HT := hS
          refine wpAnyT_take (i := 0) (oi := _) (v := ?vA0) rfl (by kernel_rfl) (by kernel_rfl) (by kernel_rfl) (by kernel_rfl) (fun _ _ _ h => h) (Or.inl ⟨by rfl, ?hyA0⟩) hS ?restA0
          case hyA0 => (intro W hW; obtain e1 := hW; go_simp; try with_reducible rfl)
          simp only [Act.put, List.setIfInBounds_toArray, List.set_cons_zero, List.set_cons_succ]
          refine wpAnyT_take (i := 1) (oi := _) (v := ?vA1) rfl (by kernel_rfl) (by kernel_rfl) (by kernel_rfl) (by kernel_rfl) (fun _ _ _ h => h) (Or.inl ⟨by rfl, ?hyA1⟩) hS ?restA1
          case hyA1 => (intro W hW; obtain e1 := hW; go_simp; try with_reducible rfl)
          simp only [Act.put, List.setIfInBounds_toArray, List.set_cons_zero, List.set_cons_succ]
          refine wpAnyT_take (i := 2) (oi := _) (v := ?vA2) rfl (by kernel_rfl) (by kernel_rfl) (by kernel_rfl) (by kernel_rfl) (fun _ _ _ h => h) (Or.inl ⟨by rfl, ?hyA2⟩) hS ?restA2
          case hyA2 => (intro W hW; obtain e1 := hW; go_simp; try with_reducible rfl)
          simp only [Act.put, List.setIfInBounds_toArray, List.set_cons_zero, List.set_cons_succ]
          refine wpAnyT_take (i := 3) (oi := _) (v := ?vA3) rfl (by kernel_rfl) (by kernel_rfl) (by kernel_rfl) (by kernel_rfl) (fun _ _ _ h => h) (Or.inl ⟨by rfl, ?hyA3⟩) hS ?restA3
          case hyA3 => (intro W hW; obtain e1 := hW; go_simp; try with_reducible rfl)
          simp only [Act.put, List.setIfInBounds_toArray, List.set_cons_zero, List.set_cons_succ]
          refine wpAnyT_take (i := 4) (oi := _) (v := ?vA4) rfl (by kernel_rfl) (by kernel_rfl) (by kernel_rfl) (by kernel_rfl) (fun _ _ _ h => h) (Or.inl ⟨by rfl, ?hyA4⟩) hS ?restA4
          case hyA4 => (intro W hW; obtain e1 := hW; go_simp; try with_reducible rfl)
          simp only [Act.put, List.setIfInBounds_toArray, List.set_cons_zero, List.set_cons_succ]
          refine wpAnyT_take (i := 5) (oi := _) (v := ?vA5) rfl (by kernel_rfl) (by kernel_rfl) (by kernel_rfl) (by kernel_rfl) (fun _ _ _ h => h) (Or.inl ⟨by rfl, ?hyA5⟩) hS ?restA5
          case hyA5 => (intro W hW; obtain e1 := hW; go_simp; try with_reducible rfl)
          simp only [Act.put, List.setIfInBounds_toArray, List.set_cons_zero, List.set_cons_succ]
          clear hS
          refine wpAnyT_one (i := 6) (o := _) rfl (by kernel_rfl) (fun K hK => ?_)
          go_simp
          refine hK.out _ _ (fun h => HT) ?_
          clear hK K
          try simp only [Act.put, List.setIfInBounds_toArray, List.set_cons_zero, List.set_cons_succ]
          refine wpAnyT_one (i := 7) (o := _) rfl (by kernel_rfl) (fun K hK => ?_)
          go_simp
          refine hK.out _ _ (fun h => HT) ?_
          clear hK K
          try simp only [Act.put, List.setIfInBounds_toArray, List.set_cons_zero, List.set_cons_succ]
          refine wpAnyT_one (i := 8) (o := _) rfl (by kernel_rfl) (fun K hK => ?_)
          go_simp
          refine hK.out _ _ (fun h => HT) ?_
          clear hK K
          try simp only [Act.put, List.setIfInBounds_toArray, List.set_cons_zero, List.set_cons_succ]
          refine wpAnyT_one (i := 9) (o := _) rfl (by kernel_rfl) (fun K hK => ?_)
          go_simp
          refine (HC.out _ _).mono ?_
          rintro e w7 ⟨rfl, k7'⟩
          have k7 := undrew k7'
          have t0 := cell_turn k7 hcx (by omega)
          have t4 := frozen_turn k7 hfr (by omega)
          have s7 := k7.size
          replace HT := t0
          refine hK.out _ _ (fun h => HT) ?_
          clear hK K
          try simp only [Act.put, List.setIfInBounds_toArray, List.set_cons_zero, List.set_cons_succ]
          refine wpAnyT_one (i := 10) (o := _) rfl (by kernel_rfl) (fun K hK => ?_)
          go_simp
          refine hK.out _ _ (fun h => HT) ?_
          clear hK K
          try simp only [Act.put, List.setIfInBounds_toArray, List.set_cons_zero, List.set_cons_succ]
          refine wpAnyT_one (i := 11) (o := _) rfl (by kernel_rfl) (fun K hK => ?_)
          go_simp
          refine hK.out _ _ (fun h => absurd rfl h) ?_
          clear hK K
          try simp only [Act.put, List.setIfInBounds_toArray, List.set_cons_zero, List.set_cons_succ]
          refine wpAnyT_done (by kernel_rfl) ?_ _
          have HOW7 := Lib.hid (owns_turn0 HBr.out k7)
          have K7 := Lib.hid (turn_setM (turn_trans HK.out k7 (by omega)) (g := w.heap.size) (i := k) (.int .u8 ((ixOf r c).toNat : Int)) (Nat.le_refl _))
          have HOW8 : Hid ((w7.setCell ⟨w.heap.size, k, none⟩ (.int .u8 ((ixOf r c).toNat : Int))).ownsRow w.heap.size 5 1 (.slice (some ⟨w.heap.size, 0, none⟩) n n) n (bys (mkd (moved (s.take (k + 1))) n))) := by
            show World.ownsRow _ _ _ _ _ _ _
            rw [HM1.out, ← mkd_next HML.out hlt]
            exact (HOW7.out.stored k (.int .u8 ((ixOf r c).toNat : Int))).1
          clear k7 k7' t0 t4 HBr HOW7 HT
          go_wp2_with fail
          refine (HW.out c _).mono ?_
          rintro e w8 ⟨rfl, k8⟩
          have HOW9 := Lib.hid (owns_turn0 HOW8.out k8)
          have K8 := Lib.hid (turn_trans K7.out k8 (by omega))
          clear HOW8 K7 k8
          go_wp2_with fail
          go_roundw
          case rel => exact ⟨k + 1, by omega, by go_num, by rw [HL1.out], HOW9, K8⟩
          case measure => simp [intOf]; omega
        · rw [e1] at HW ⊢
          rw [e2] at HC
          have hm := methIxM
          generalize payR r = p at *
          clear e1 e2 e3
          go_wp2_with fail
          have hS : (fun W : World => W.cell? ⟨w.heap.size, k, none⟩ = some (.int .u8 0)) wr.drew := hcx
          refine wp_region_tail (fun W : World => W.cell? ⟨w.heap.size, k, none⟩ = some (.int .u8 0)) 11 (by kernel_rfl) ?_
          have HT := hS
          refine wpAnyT_take (i := 0) (oi := _) (v := ?vB0) rfl (by kernel_rfl) (by kernel_rfl) (by kernel_rfl) (by kernel_rfl) (fun _ _ _ h => h) (Or.inl ⟨by rfl, ?hyB0⟩) hS ?restB0
          case hyB0 => (intro W hW; obtain e1 := hW; go_simp; try with_reducible rfl)
          simp only [Act.put, List.setIfInBounds_toArray, List.set_cons_zero, List.set_cons_succ]
          refine wpAnyT_take (i := 1) (oi := _) (v := ?vB1) rfl (by kernel_rfl) (by kernel_rfl) (by kernel_rfl) (by kernel_rfl) (fun _ _ _ h => h) (Or.inl ⟨by rfl, ?hyB1⟩) hS ?restB1
          case hyB1 => (intro W hW; obtain e1 := hW; go_simp; try with_reducible rfl)
          simp only [Act.put, List.setIfInBounds_toArray, List.set_cons_zero, List.set_cons_succ]
          refine wpAnyT_take (i := 2) (oi := _) (v := ?vB2) rfl (by kernel_rfl) (by kernel_rfl) (by kernel_rfl) (by kernel_rfl) (fun _ _ _ h => h) (Or.inl ⟨by rfl, ?hyB2⟩) hS ?restB2
          case hyB2 => (intro W hW; obtain e1 := hW; go_simp; try with_reducible rfl)
          simp only [Act.put, List.setIfInBounds_toArray, List.set_cons_zero, List.set_cons_succ]
          refine wpAnyT_take (i := 3) (oi := _) (v := ?vB3) rfl (by kernel_rfl) (by kernel_rfl) (by kernel_rfl) (by kernel_rfl) (fun _ _ _ h => h) (Or.inl ⟨by rfl, ?hyB3⟩) hS ?restB3
          case hyB3 => (intro W hW; obtain e1 := hW; go_simp; try with_reducible rfl)
          simp only [Act.put, List.setIfInBounds_toArray, List.set_cons_zero, List.set_cons_succ]
          refine wpAnyT_take (i := 4) (oi := _) (v := ?vB4) rfl (by kernel_rfl) (by kernel_rfl) (by kernel_rfl) (by kernel_rfl) (fun _ _ _ h => h) (Or.inl ⟨by rfl, ?hyB4⟩) hS ?restB4
          case hyB4 => (intro W hW; obtain e1 := hW; go_simp; try with_reducible rfl)
          simp only [Act.put, List.setIfInBounds_toArray, List.set_cons_zero, List.set_cons_succ]
          refine wpAnyT_take (i := 5) (oi := _) (v := ?vB5) rfl (by kernel_rfl) (by kernel_rfl) (by kernel_rfl) (by kernel_rfl) (fun _ _ _ h => h) (Or.inl ⟨by rfl, ?hyB5⟩) hS ?restB5
          case hyB5 => (intro W hW; obtain e1 := hW; go_simp; try with_reducible rfl)
          simp only [Act.put, List.setIfInBounds_toArray, List.set_cons_zero, List.set_cons_succ]
          clear hS
          refine wpAnyT_one (i := 6) (o := _) rfl (by kernel_rfl) (fun K hK => ?_)
          go_simp
          refine hK.out _ _ (fun h => HT) ?_
          clear hK K
          try simp only [Act.put, List.setIfInBounds_toArray, List.set_cons_zero, List.set_cons_succ]
          refine wpAnyT_one (i := 7) (o := _) rfl (by kernel_rfl) (fun K hK => ?_)
          go_simp
          refine hK.out _ _ (fun h => HT) ?_
          clear hK K
          try simp only [Act.put, List.setIfInBounds_toArray, List.set_cons_zero, List.set_cons_succ]
          refine wpAnyT_one (i := 8) (o := _) rfl (by kernel_rfl) (fun K hK => ?_)
          go_simp
          refine hK.out _ _ (fun h => HT) ?_
          clear hK K
          try simp only [Act.put, List.setIfInBounds_toArray, List.set_cons_zero, List.set_cons_succ]
          refine wpAnyT_one (i := 9) (o := _) rfl (by kernel_rfl) (fun K hK => ?_)
          go_simp
          refine (HC.out _ _).mono ?_
          rintro e w7 ⟨rfl, k7'⟩
          have k7 := undrew k7'
          have t0 := cell_turn k7 hcx (by omega)
          have t4 := frozen_turn k7 hfr (by omega)
          have s7 := k7.size
          replace HT := t0
          refine hK.out _ _ (fun h => HT) ?_
          clear hK K
          try simp only [Act.put, List.setIfInBounds_toArray, List.set_cons_zero, List.set_cons_succ]
          refine wpAnyT_one (i := 10) (o := _) rfl (by kernel_rfl) (fun K hK => ?_)
          go_simp
          refine hK.out _ _ (fun h => HT) ?_
          clear hK K
          try simp only [Act.put, List.setIfInBounds_toArray, List.set_cons_zero, List.set_cons_succ]
          refine wpAnyT_one (i := 11) (o := _) rfl (by kernel_rfl) (fun K hK => ?_)
          go_simp
          refine hK.out _ _ (fun h => absurd rfl h) ?_
          clear hK K
          try simp only [Act.put, List.setIfInBounds_toArray, List.set_cons_zero, List.set_cons_succ]
          refine wpAnyT_done (by kernel_rfl) ?_ _
          have HOW7 := Lib.hid (owns_turn0 HBr.out k7)
          have K7 := Lib.hid (turn_setM (turn_trans HK.out k7 (by omega)) (g := w.heap.size) (i := k) (.int .u8 ((ixOf r c).toNat : Int)) (Nat.le_refl _))
          have HOW8 : Hid ((w7.setCell ⟨w.heap.size, k, none⟩ (.int .u8 ((ixOf r c).toNat : Int))).ownsRow w.heap.size 5 1 (.slice (some ⟨w.heap.size, 0, none⟩) n n) n (bys (mkd (moved (s.take (k + 1))) n))) := by
            show World.ownsRow _ _ _ _ _ _ _
            rw [HM1.out, ← mkd_next HML.out hlt]
            exact (HOW7.out.stored k (.int .u8 ((ixOf r c).toNat : Int))).1
          clear k7 k7' t0 t4 HBr HOW7 HT
          go_wp2_with fail
          refine (HW.out c _).mono ?_
          rintro e w8 ⟨rfl, k8⟩
          have HOW9 := Lib.hid (owns_turn0 HOW8.out k8)
          have K8 := Lib.hid (turn_trans K7.out k8 (by omega))
          clear HOW8 K7 k8
          go_wp2_with fail
          go_roundw
          case rel => exact ⟨k + 1, by omega, by go_num, by rw [HL1.out], HOW9, K8⟩
          case measure => simp [intOf]; omega
      · obtain rfl : k = n := by omega
        have hki : ¬ (k : Int) < (k : Int) := by omega
        rw [HTA.out, mkd_full HMA.out] at HBr
        go_wp2_with fail
        go_ret2
        exact ⟨_, rfl, ⟨by rw [HMA.out]; exact HBr.out, Nat.le_refl _, fun g e => (HBr.out.lt g e).2⟩, HK.out⟩
  · have HB : Hid (mvdB s.length = false) := by show _ = _; simp [mvdB]; omega
    have HO : Hid (mvdOk s = false) := HB.out
    have HR := Lib.hid (mvfR_no HO.out)
    rw [HR.out, HO.out]
    generalize s.length = n at *
    go_enter Try.func29, Try.ntmps29
    go_wp2_with fail
    refine (HG.out _).mono ?_
    rintro e w' ⟨rfl, rfl⟩
    rw [HB.out]
    go_wp2_with fail
    go_ret2
    exact ⟨_, rfl, OwnBytes.nil _ _ _, TurnIn.refl _⟩

end Go.Proofs.Ytdbgkpmdimapdaa
