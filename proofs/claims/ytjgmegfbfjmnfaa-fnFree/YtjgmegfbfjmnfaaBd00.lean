/- Joined texts: Mem, Own, SameBytes, Turns, StrMem, VitMath, BytesWalks. -/
import Derived.WalkKit
import Derived.WalkSpells
import Derived.WalkLawsBesides
import Derived.Lib.Hide
import Derived.Deep.AppendLies
import Derived.Maps.AppendAt
import Derived.Test.YtjgmegfbfjmnfaaProg
import Derived.Laws.BytesArg
import Derived.Deep.QuietTactic
import Derived.BigQuiet
set_option linter.unusedSimpArgs false
set_option linter.unusedVariables false
/- Words for memory, for any program: a slice that is seen as a list of cells; rows of the call's own kept by what comes later. -/
namespace G294
open Go Go.RowKit

/-- bytes as the cells of memory -/
def bys (l : List UInt8) : List Value := l.map fun x => .int .u8 (x.toNat : Int)
@[simp] theorem bys_length (l : List UInt8) : (bys l).length = l.length := by simp [bys]
theorem bys_append (l m : List UInt8) : bys (l ++ m) = bys l ++ bys m := by simp [bys]
theorem bys_nil : bys [] = [] := rfl
theorem bys_get (l : List UInt8) (i : Nat) (h : i < l.length) : (bys l)[i]? = some (.int .u8 ((l[i]).toNat : Int)) := by
  simp [bys, h]
theorem bys_one (u : Value) (l : List UInt8) (h : u ∈ bys l) : u.oneCell' = true := by
  simp only [bys, List.mem_map] at h
  obtain ⟨x, _, rfl⟩ := h
  rfl

/-- the slice value v is seen in w as the cells xs -/
def Seen (w : World) (v : Value) (xs : List Value) : Prop :=
  ∃ A c, v = .slice A xs.length c ∧ xs.length ≤ c ∧ c ≤ maxLen ∧ (0 < xs.length → ∃ b off, A = some ⟨b, off, none⟩ ∧ b < w.heap.size ∧ ∀ i u, xs[i]? = some u → w.cell? ⟨b, off + i, none⟩ = some u)

section
variable {w w' : World} {v : Value} {xs : List Value} {base n size : Nat} {e : TypeId}
theorem Seen.keep (h : Seen w v xs) (hs : w.heap.size ≤ w'.heap.size) (hk : ∀ p : Addr, p.block < w.heap.size → w'.cell? p = w.cell? p) : Seen w' v xs := by
  obtain ⟨A, c, rfl, h1, h2, h3⟩ := h
  refine ⟨A, c, rfl, h1, h2, fun hn => ?_⟩
  obtain ⟨b, off, rfl, hb, hc⟩ := h3 hn
  exact ⟨b, off, rfl, by omega, fun i u hu => (hk _ hb).trans (hc i u hu)⟩
theorem Seen.below (h : Seen w v xs) (hb : Below w.heap.size w w') : Seen w' v xs := h.keep hb.size fun _ hp => hb.cell hp
theorem Seen.nil (w : World) : Seen w (.slice none 0 0) [] := ⟨none, 0, rfl, Nat.le_refl _, Nat.zero_le _, fun h => by simp at h⟩
theorem Seen.of_own (h : w.ownsRow base e 1 v n xs) : Seen w v xs := by
  have hl : xs.length = n := by have := h.1; omega
  rcases h.2 with ⟨rfl, rfl⟩ | ⟨g, cap, cur, rfl, hb, hg, hnc, hcm, hcs, ht⟩
  · have : xs = [] := List.eq_nil_of_length_eq_zero hl
    subst this
    exact Seen.nil w
  · refine ⟨_, cap, by rw [hl], by omega, hcm, fun hn => ⟨g, 0, rfl, (Array.getElem?_eq_some_iff.1 hg).1, fun i u hu => ?_⟩⟩
    have hc := h.cells (g := g) rfl i u hu
    rwa [Addr.add_lit, Nat.zero_add, ← Nat.zero_add i] at hc
theorem Seen.len (h : Seen w v xs) : ∃ A c, v = .slice A xs.length c := by
  obtain ⟨A, c, h, _⟩ := h
  exact ⟨A, c, h⟩
/-- rows of the call's own stay over whatever leaves old memory alone -/
theorem own_below (h : w.ownsRow base e size v n xs) (hb : Below w.heap.size w w') : w'.ownsRow base e size v n xs := by
  refine ⟨h.1, ?_⟩
  rcases h.2 with hn | ⟨g, cap, cur, rfl, hbg, hg, rest⟩
  · exact .inl hn
  · refine .inr ⟨g, cap, cur, rfl, hbg, ?_, rest⟩
    rw [hb.block g (Array.getElem?_eq_some_iff.1 hg).1]
    exact hg
theorem own_base {base' : Nat} (h : w.ownsRow base e size v n xs) (hb : base' ≤ base) : w.ownsRow base' e size v n xs := by
  refine ⟨h.1, ?_⟩
  rcases h.2 with hn | ⟨g, cap, cur, rfl, hbg, hg, rest⟩
  · exact .inl hn
  · exact .inr ⟨g, cap, cur, rfl, by omega, hg, rest⟩
/-- rows of the call's own stay over a write to another row -/
theorem own_other (h : w.ownsRow base e size v n xs) {row : Option Nat} (hg : w.grownBy w' row) (hne : ∀ g, v.ownBlock = some g → row ≠ some g) : w'.ownsRow base e size v n xs := by
  refine h.kept hg ?_
  cases hv : v.ownBlock with
  | none => exact .inl rfl
  | some g => exact .inr fun e => hne g hv e.symm
theorem Seen.other (h : Seen w v xs) {row : Option Nat} (hg : w.grownBy w' row) (hne : ∀ g, v.ownBlock = some g → row ≠ some g) : Seen w' v xs := by
  obtain ⟨A, c, rfl, h1, h2, h3⟩ := h
  refine ⟨A, c, rfl, h1, h2, fun hn => ?_⟩
  obtain ⟨b, off, rfl, hb, hc⟩ := h3 hn
  have hs := hg.size
  exact ⟨b, off, rfl, by omega, fun i u hu => hg.cell (hc i u hu) (fun e => hne b rfl e.symm)⟩
theorem below_of_grown {B : Nat} {a : World} {row : Option Nat} (hg : a.grownBy w row) (hB : B ≤ a.heap.size) (hr : ∀ k, row = some k → B ≤ k) : Below B a w :=
  (Below.refl B a).grown hg hB hr
theorem grown_of_below {row : Option Nat} (hb : Below w.heap.size w w') : w.grownBy w' row := ⟨hb.os, hb.tape, hb.output, hb.size, fun k hk _ => hb.block k hk⟩
theorem below_drewN {B : Nat} {a w : World} (h : Below B a w) (k : Nat) : Below B a (w.drewN k) := ⟨h.os, h.tape, h.output, h.size, h.block⟩
end

/-- the bytes k, k + 1, .. that a mark writes -/
def marks (k n : Nat) : List UInt8 := (List.range n).map fun i => UInt8.ofNat (k + i)
@[simp] theorem marks_length (k n : Nat) : (marks k n).length = n := by simp [marks]
theorem marks_get (k n i : Nat) (h : i < n) : (bys (marks k n))[i]? = some (.int .u8 (((k + i : Nat) : Int) % 256)) := by
  simp [bys, marks, h, UInt8.toNat_ofNat']

theorem take_set_next {α : Type} (l : List α) (z : List α) (k : Nat) (x : α) (hk : l[k]? = some x) (hz : z.length + k = l.length) :
    (l.take k ++ z).set k x = l.take (k + 1) ++ z.tail := by
  have hlt : k < l.length := (List.getElem?_eq_some_iff.1 hk).1
  have hx : l[k] = x := (List.getElem?_eq_some_iff.1 hk).2
  have ht : (l.take k).length = k := by simp; omega
  rw [List.set_append, if_neg (by omega), ht, Nat.sub_self]
  cases z with
  | nil => simp at hz; omega
  | cons a z =>
    rw [List.take_add_one, hk]
    simp
theorem take_set_over {α : Type} (l m : List α) (k : Nat) (x : α) (hk : l[k]? = some x) (hm : l.length = m.length) :
    (l.take k ++ m.drop k).set k x = l.take (k + 1) ++ m.drop (k + 1) := by
  have hlt : k < l.length := (List.getElem?_eq_some_iff.1 hk).1
  rw [take_set_next l (m.drop k) k x hk (by simp; omega)]
  simp

/-- append(s, x) of one element of one cell, onto a row of the call's own -/
theorem wpList_append1 {P : Program} {w : World} {ops : Array Oper} {rest : List Oper} {o : Oper} {a : Act} {Q : Exit → Act → World → Prop} (hgd : o.guard = none) (s x : Operand) (t : TypeId)
    (ho : o.op = .call { callee := .builtin .append, args := #[s, x], argTypes := #[t, t] })
    (base : Nat) (e : TypeId) (z : Value) (bytes : Nat) (ht : P.underlying t = some (.slice e)) (hinfo : (P.info? e).map (fun i => (i.zero, i.size, i.bytes)) = some (some z, 1, bytes)) (hzs : z.cells.size = 1)
    (v : Value) (n : Nat) (xs : List Value) (hs : a.eval s = v) (hown : w.ownsRow base e 1 v n xs)
    (g : Nat) (u : Value) (hx : a.eval x = .slice (some ⟨g, 0, none⟩) 1 1) (hc : w.cell? ⟨g, 0, none⟩ = some u) (h1 : u.oneCell' = true)
    (hn : n ≤ 1000000000) (hby : bytes ≤ 1000) (hbase : base ≤ w.heap.size)
    (h : ∀ v' w', w'.ownsRow base e 1 v' (n + 1) (xs ++ [u]) → w.grownBy w' v.ownBlock → (v'.ownBlock = v.ownBlock ∨ v'.ownBlock = some w.heap.size) → wpList P ops Q rest (a.put o.dst v') w') :
    wpList P ops Q (o :: rest) a w := by
  obtain ⟨i, hi, hz, hsz, hbs⟩ := info_parts hinfo
  refine wpList_append_own_at w hgd s x t ho base e i z 1 bytes ht hi hz hsz hbs hzs (by omega) v n xs hs hown ⟨g, 0, none⟩ 1 1 [u] hx rfl ?_ ?_ ?_ ?_ hbase (fun v' w' h2 h3 _ h5 => h v' w' h2 h3 h5)
  · intro j y hj
    match j, hj with
    | 0, hj =>
      simp only [List.getElem?_cons_zero, Option.some.injEq] at hj
      subst hj
      simpa [Addr.add] using hc
  · intro y hy
    simp only [List.mem_singleton] at hy
    subst hy; exact h1
  · unfold maxLen; omega
  · have : (n + 1) * bytes ≤ 1000000001 * 1000 := Nat.mul_le_mul (by omega) hby
    omega
theorem below_append {B : Nat} {a w w' : World} {base : Nat} {e : TypeId} {size n : Nat} {v : Value} {xs : List Value} (h : Below B a w) (hown : w.ownsRow base e size v n xs) (hg : w.grownBy w' v.ownBlock) (hB : B ≤ base) (hs : B ≤ w.heap.size) : Below B a w' :=
  h.grown hg hs fun k hk => by have := (hown.lt k hk).1; omega
theorem xor_u8 (a b : UInt8) : bits BinOp.xor IntKind.u8 (a.toNat : Int) (b.toNat : Int) = ((a ^^^ b).toNat : Int) := by
  rw [u8_xor_nat _ _ a.toNat_lt b.toNat_lt, UInt8.toNat_xor]
/-- a callee that leaves the world alone, inside a region that draws its order -/
theorem quietly {P : Program} {f : FuncId} {args : Array Value} {w : World} {n : Nat} {v : Value} (h : Calls P f args (w.drewN n) fun e w' => e = .returned v ∧ w.drewN n = w') :
    Calls P f args (w.drewN n) fun e w' => e = .returned v ∧ ∃ m, w' = w.drewN m := h.mono fun _ _ ⟨he, hw⟩ => ⟨he, n, hw.symm⟩
/-- the same, as one step of a region that draws its order -/
theorem step_append1 {P : Program} {w : World} {ops : Array Oper} {o : Oper} {a : Act} {K : Act → World → Prop} {Q : Exit → Act → World → Prop} {E : Prop} (hgd : o.guard = none) (s x : Operand) (t : TypeId)
    (ho : o.op = .call { callee := .builtin .append, args := #[s, x], argTypes := #[t, t] })
    (base : Nat) (e : TypeId) (z : Value) (bytes : Nat) (ht : P.underlying t = some (.slice e)) (hinfo : (P.info? e).map (fun i => (i.zero, i.size, i.bytes)) = some (some z, 1, bytes)) (hzs : z.cells.size = 1)
    (v : Value) (n : Nat) (xs : List Value) (hs : a.eval s = v) (hown : w.ownsRow base e 1 v n xs)
    (g : Nat) (u : Value) (hx : a.eval x = .slice (some ⟨g, 0, none⟩) 1 1) (hc : w.cell? ⟨g, 0, none⟩ = some u) (h1 : u.oneCell' = true)
    (hn : n ≤ 1000000000) (hby : bytes ≤ 1000) (hbase : base ≤ w.heap.size)
    (h : ∀ v' w', w'.ownsRow base e 1 v' (n + 1) (xs ++ [u]) → w.grownBy w' v.ownBlock → (v'.ownBlock = v.ownBlock ∨ v'.ownBlock = some w.heap.size) → K (a.put o.dst v') w') :
    if Region.wanted o (yielded ops a.tmps) = true then Oper.wp P o a w K Q else E := by
  have hw : Region.wanted o (yielded ops a.tmps) = true := by simp [Region.wanted, hgd]
  rw [if_pos hw]
  obtain ⟨i, hi, hz, hsz, hbs⟩ := info_parts hinfo
  obtain ⟨v', w', hrun, r1, r2, _, r4⟩ := run_append_own_at (P := P) w base t o.type e i z 1 bytes ht hi hz hsz hbs hzs (by omega) v n xs hown ⟨g, 0, none⟩ 1 1 [u] rfl (by
    intro j y hj
    match j, hj with
    | 0, hj =>
      simp only [List.getElem?_cons_zero, Option.some.injEq] at hj
      subst hj
      simpa [Addr.add] using hc) (by
    intro y hy
    simp only [List.mem_singleton] at hy
    subst hy; exact h1) (by unfold maxLen; omega) (by
    have : (n + 1) * bytes ≤ 1000000001 * 1000 := Nat.mul_le_mul (by omega) hby
    omega) hbase
  unfold Oper.wp execOp
  simp only [ho, resolve, invoke, builtin, Sem.run_bind, Sem.run_pure, Result.andThen_ok, List.map_toArray, List.map_cons, List.map_nil, hs, hx, hrun]
  exact h v' w' r1 r2 r4
end G294

/- Memory that a call made, by intervals of block numbers: what lies in one interval is kept by whatever touches another. -/
namespace G294
open Go Go.RowKit

/-- of the blocks that were there only those from lo to hi may have turned -/
structure TurnIn (lo hi : Nat) (w w' : World) : Prop where
  os : w'.os = w.os
  tape : w'.tape = w.tape
  output : w'.output = w.output
  size : w.heap.size ≤ w'.heap.size
  block : ∀ k, k < w.heap.size → (k < lo ∨ hi ≤ k) → w'.heap[k]? = w.heap[k]?

section
variable {w w' w'' : World} {lo hi a b B : Nat} {v : Value} {l : List UInt8} {E : TypeId}
theorem TurnIn.of_below (h : Below w.heap.size w w') : TurnIn 0 0 w w' := ⟨h.os, h.tape, h.output, h.size, fun k hk _ => h.block k hk⟩
theorem TurnIn.of_grown {row : Option Nat} (h : w.grownBy w' row) (hr : ∀ g, row = some g → lo ≤ g ∧ g < hi) : TurnIn lo hi w w' :=
  ⟨h.os, h.tape, h.output, h.size, fun k hk hd => h.block k hk (fun e => by have := hr k e.symm; omega)⟩
theorem TurnIn.refl (w : World) : TurnIn 0 0 w w := ⟨rfl, rfl, rfl, Nat.le_refl _, fun _ _ _ => rfl⟩
theorem TurnIn.to_below (h : TurnIn 0 0 w w') : Below w.heap.size w w' := ⟨h.os, h.tape, h.output, h.size, fun k hk => h.block k hk (by omega)⟩
/-- what was there at the beginning is kept -/
theorem TurnIn.base {W : World} (t : TurnIn a b w w') (h : Below B W w) (hs : B ≤ w.heap.size) (hB : B ≤ a ∨ b = 0) : Below B W w' :=
  ⟨t.os.trans h.os, t.tape.trans h.tape, t.output.trans h.output, Nat.le_trans h.size t.size, fun k hk => (t.block k (by omega) (by omega)).trans (h.block k hk)⟩

/-- a row of bytes of the call's own, its block from lo to hi -/
def OwnBytes (E : TypeId) (w : World) (lo hi : Nat) (v : Value) (l : List UInt8) : Prop := w.ownsRow lo E 1 v l.length (bys l) ∧ hi ≤ w.heap.size ∧ ∀ g, v.ownBlock = some g → g < hi
theorem OwnBytes.keep (h : OwnBytes E w lo hi v l) (t : TurnIn a b w w') (d : hi ≤ a ∨ b ≤ lo) : OwnBytes E w' lo hi v l := by
  obtain ⟨h1, h2, h3⟩ := h
  have hs := t.size
  refine ⟨⟨h1.1, ?_⟩, by omega, h3⟩
  rcases h1.2 with hn | ⟨g, cap, cur, rfl, hbg, hg, rest⟩
  · exact .inl hn
  · refine .inr ⟨g, cap, cur, rfl, hbg, ?_, rest⟩
    have := h3 g rfl
    rw [t.block g (Array.getElem?_eq_some_iff.1 hg).1 (by omega)]
    exact hg
theorem OwnBytes.seen (h : OwnBytes E w lo hi v l) : Seen w v (bys l) := Seen.of_own h.1
theorem OwnBytes.nil (E : TypeId) (w : World) (lo : Nat) : OwnBytes E w lo w.heap.size (.slice none 0 0) [] := ⟨World.ownsRow_nil _ _ _ _, Nat.le_refl _, fun g h => by simp [Value.ownBlock] at h⟩
theorem OwnBytes.of_made (h : w'.ownsRow w.heap.size E 1 v l.length (bys l)) : OwnBytes E w' w.heap.size w'.heap.size v l := ⟨h, Nat.le_refl _, fun g hg => (h.lt g hg).2⟩
theorem Seen.touch {xs : List Value} (h : Seen w v xs) (t : TurnIn 0 0 w w') : Seen w' v xs := h.below t.to_below
end

/-- one new row of bytes is returned -/
def RetBytes (E : TypeId) (w : World) (l : List UInt8) (e : Ending) (w' : World) : Prop := ∃ v, e = .returned v ∧ OwnBytes E w' w.heap.size w'.heap.size v l ∧ TurnIn 0 0 w w'
def RetBytesOk (E : TypeId) (w : World) (l : List UInt8) (ok : Bool) (e : Ending) (w' : World) : Prop := ∃ v, e = .returned (.tuple #[v, .bool ok]) ∧ OwnBytes E w' w.heap.size w'.heap.size v l ∧ TurnIn 0 0 w w'
def RetBool (w : World) (b : Bool) (e : Ending) (w' : World) : Prop := e = .returned (.bool b) ∧ TurnIn 0 0 w w'
def RetInt (w : World) (n : Int) (e : Ending) (w' : World) : Prop := e = .returned (.int .i64 n) ∧ TurnIn 0 0 w w'
/-- a mark: the number after it, and the marked bytes; only blocks from lo to hi are touched -/
def RetMarkB (E : TypeId) (w : World) (lo hi : Nat) (v : Value) (k n : Nat) (e : Ending) (w' : World) : Prop :=
  e = .returned (.int .i64 ((k + n : Nat) : Int)) ∧ OwnBytes E w' lo hi v (marks k n) ∧ TurnIn lo hi w w'
def RetByte (w : World) (x : UInt8) (e : Ending) (w' : World) : Prop := e = .returned (.int .u8 (x.toNat : Int)) ∧ TurnIn 0 0 w w'
def RetByteOk (w : World) (x : UInt8) (ok : Bool) (e : Ending) (w' : World) : Prop := e = .returned (.tuple #[.int .u8 (x.toNat : Int), .bool ok]) ∧ TurnIn 0 0 w w'
end G294

/- Contracts of the laws' own helpers: sameBytes, numberOf. -/
namespace G294
open Go Go.RowKit
/-- bytes as a string's bytes -/
def str (l : List UInt8) : ByteArray := ⟨l.toArray⟩
theorem run_string_seen {P : Program} {w : World} {v : Value} {l : List UInt8} (src e dst : TypeId) (hs : P.underlying src = some (.slice e)) (he : P.underlying e = some (.int .u8)) (hd : P.underlying dst = some .string)
    (hv : Seen w v (bys l)) : (convert src dst v).run P w = .ok (.string (str l)) w := by
  obtain ⟨A, c, rfl, hlc, hcm, hx⟩ := hv
  rw [bys_length] at hx ⊢
  cases hl : l with
  | nil =>
    simp only [List.length_nil]
    cases A with
    | none => exact run_convert_bytes_nil w src e hs he 0 c dst hd
    | some a =>
      rw [run_convert_bytes_string w src dst e _ 0 c hs he hd, run_bytesToString w a 0 c [] (by simp [loadCells, loadCellsFrom])]
      rfl
  | cons x r =>
    rw [← hl]
    obtain ⟨b, off, rfl, hb, hc⟩ := hx (by rw [hl]; simp)
    have h := run_convert_bytes_arg (P := P) w src e hs he b off l.length c (l.map fun x => (x.toNat : Int)) (by simp) (fun i hi => by
      rw [hc i _ (bys_get l i hi)]; simp [List.getD, hi]) dst hd
    rw [h]
    congr 2
    simp [strOfNums, str]
    apply List.ext_getElem
    · simp
    · intro i h1 h2
      simp
theorem str_toList (l : List UInt8) : (str l).toList = l := ByteArray.toList_mk l
end G294
namespace Go.Proofs.Ytjgmegfbfjmnfaa
open Go.RowKit G294

end Go.Proofs.Ytjgmegfbfjmnfaa

/- Steps of memory, one behind the other; slices of ints. -/
namespace G294
open Go Go.RowKit
theorem turn_trans {a b lo hi : Nat} {w w1 w2 : World} (h : TurnIn lo hi w w1) (k : TurnIn a b w1 w2) (hd : (lo ≤ a ∧ b ≤ hi) ∨ w.heap.size ≤ a ∨ b = 0) : TurnIn lo hi w w2 :=
  ⟨k.os.trans h.os, k.tape.trans h.tape, k.output.trans h.output, Nat.le_trans h.size k.size, fun i hi' hr => by
    have := h.size
    exact (k.block i (by omega) (by omega)).trans (h.block i hi' hr)⟩
theorem turn_alloc (w : World) (o : Obj) : TurnIn 0 0 w (w.alloc o) := TurnIn.of_below ((Below.refl _ _).alloc (Nat.le_refl _) o)
/-- ints as the cells of memory -/
def ints (l : List Int) : List Value := l.map fun n => .int .i64 n
@[simp] theorem ints_length (l : List Int) : (ints l).length = l.length := by simp [ints]
theorem ints_append (l m : List Int) : ints (l ++ m) = ints l ++ ints m := by simp [ints]
theorem ints_get (l : List Int) (i : Nat) (h : i < l.length) : (ints l)[i]? = some (.int .i64 l[i]) := by simp [ints, h]
/-- a row of ints of the call's own, its block from lo to hi -/
def OwnInts (E : TypeId) (w : World) (lo hi : Nat) (v : Value) (l : List Int) : Prop := w.ownsRow lo E 1 v l.length (ints l) ∧ hi ≤ w.heap.size ∧ ∀ g, v.ownBlock = some g → g < hi
section
variable {w w' : World} {lo hi a b : Nat} {v : Value} {l : List Int} {E : TypeId}
theorem OwnInts.keep (h : OwnInts E w lo hi v l) (t : TurnIn a b w w') (d : hi ≤ a ∨ b ≤ lo) : OwnInts E w' lo hi v l := by
  obtain ⟨h1, h2, h3⟩ := h
  have hs := t.size
  refine ⟨⟨h1.1, ?_⟩, by omega, h3⟩
  rcases h1.2 with hn | ⟨g, cap, cur, rfl, hbg, hg, rest⟩
  · exact .inl hn
  · refine .inr ⟨g, cap, cur, rfl, hbg, ?_, rest⟩
    have := h3 g rfl
    rw [t.block g (Array.getElem?_eq_some_iff.1 hg).1 (by omega)]
    exact hg
theorem OwnInts.seen (h : OwnInts E w lo hi v l) : Seen w v (ints l) := Seen.of_own h.1
theorem OwnInts.nil (E : TypeId) (w : World) (lo : Nat) : OwnInts E w lo w.heap.size (.slice none 0 0) [] := ⟨World.ownsRow_nil _ _ _ _, Nat.le_refl _, fun g h => by simp [Value.ownBlock] at h⟩
theorem OwnInts.of_made (h : w'.ownsRow w.heap.size E 1 v l.length (ints l)) : OwnInts E w' w.heap.size w'.heap.size v l := ⟨h, Nat.le_refl _, fun g hg => (h.lt g hg).2⟩
end
def RetInts (E : TypeId) (w : World) (l : List Int) (e : Ending) (w' : World) : Prop := ∃ v, e = .returned v ∧ OwnInts E w' w.heap.size w'.heap.size v l ∧ TurnIn 0 0 w w'
def RetIntsOk (E : TypeId) (w : World) (l : List Int) (ok : Bool) (e : Ending) (w' : World) : Prop := ∃ v, e = .returned (.tuple #[v, .bool ok]) ∧ OwnInts E w' w.heap.size w'.heap.size v l ∧ TurnIn 0 0 w w'
/-- the ints k, k + 1, .. that a mark writes -/
def marksI (k n : Nat) : List Int := (List.range n).map fun i => ((k + i : Nat) : Int)
@[simp] theorem marksI_length (k n : Nat) : (marksI k n).length = n := by simp [marksI]
theorem marksI_get (k n i : Nat) (h : i < n) : (ints (marksI k n))[i]? = some (.int .i64 ((k + i : Nat) : Int)) := by simp [ints, marksI, h]
def RetMarkI (E : TypeId) (w : World) (lo hi : Nat) (v : Value) (k n : Nat) (e : Ending) (w' : World) : Prop :=
  e = .returned (.int .i64 ((k + n : Nat) : Int)) ∧ OwnInts E w' lo hi v (marksI k n) ∧ TurnIn lo hi w w'
end G294

/- Texts in memory: a slice of strings that is seen, or of the call's own; the texts that a mark writes. -/
namespace G294
open Go Go.RowKit
theorem str_size (l : List UInt8) : (str l).size = l.length := by
  show l.toArray.size = _
  simp
theorem str_eq (s : ByteArray) : s = str s.data.toList := by cases s; rfl
theorem str_inj {a b : List UInt8} (h : str a = str b) : a = b := by
  have := congrArg ByteArray.toList h
  rwa [str_toList, str_toList] at this
theorem str_append (a b : List UInt8) : str a ++ str b = str (a ++ b) := by
  unfold str
  rw [ByteArray.mk_append_mk]
theorem str_nil : str [] = ⟨#[]⟩ := rfl
theorem str_same (s : List UInt8) : ((str s).toList == (str s).toList) = true := by simp
/-- texts as the cells of memory -/
def strs (l : List (List UInt8)) : List Value := l.map fun s => .string (str s)
@[simp] theorem strs_length (l : List (List UInt8)) : (strs l).length = l.length := by simp [strs]
theorem strs_append (l m : List (List UInt8)) : strs (l ++ m) = strs l ++ strs m := by simp [strs]
theorem strs_get (l : List (List UInt8)) (i : Nat) (h : i < l.length) : (strs l)[i]? = some (.string (str l[i])) := by simp [strs, h]
theorem strs_oneC (l : List (List UInt8)) : ∀ y, y ∈ strs l → y.oneCell' = true := by
  intro y hy
  simp only [strs, List.mem_map] at hy
  obtain ⟨x, _, rfl⟩ := hy
  rfl
/-- a row of texts of the call's own, its block from lo to hi -/
def OwnStrs (E : TypeId) (w : World) (lo hi : Nat) (v : Value) (l : List (List UInt8)) : Prop := w.ownsRow lo E 1 v l.length (strs l) ∧ hi ≤ w.heap.size ∧ ∀ g, v.ownBlock = some g → g < hi
section
variable {w w' : World} {lo hi a b : Nat} {v : Value} {l : List (List UInt8)} {E : TypeId}
theorem OwnStrs.keep (h : OwnStrs E w lo hi v l) (t : TurnIn a b w w') (d : hi ≤ a ∨ b ≤ lo) : OwnStrs E w' lo hi v l := by
  obtain ⟨h1, h2, h3⟩ := h
  have hs := t.size
  refine ⟨⟨h1.1, ?_⟩, by omega, h3⟩
  rcases h1.2 with hn | ⟨g, cap, cur, rfl, hbg, hg, rest⟩
  · exact .inl hn
  · refine .inr ⟨g, cap, cur, rfl, hbg, ?_, rest⟩
    have := h3 g rfl
    rw [t.block g (Array.getElem?_eq_some_iff.1 hg).1 (by omega)]
    exact hg
theorem OwnStrs.seen (h : OwnStrs E w lo hi v l) : Seen w v (strs l) := Seen.of_own h.1
theorem OwnStrs.nil (E : TypeId) (w : World) (lo : Nat) : OwnStrs E w lo w.heap.size (.slice none 0 0) [] := ⟨World.ownsRow_nil _ _ _ _, Nat.le_refl _, fun g h => by simp [Value.ownBlock] at h⟩
theorem OwnStrs.of_made (h : w'.ownsRow w.heap.size E 1 v l.length (strs l)) : OwnStrs E w' w.heap.size w'.heap.size v l := ⟨h, Nat.le_refl _, fun g hg => (h.lt g hg).2⟩
theorem OwnStrs.isSlice (h : OwnStrs E w lo hi v l) : ∃ A n c, v = .slice A n c := by
  rcases h.1.2 with ⟨hh, _⟩ | ⟨g, cap, cur, hh, _⟩ <;> exact ⟨_, _, _, hh⟩
theorem owns_turn0 {size n : Nat} {xs : List Value} {base : Nat} {e : TypeId} (h : w.ownsRow base e size v n xs) (t : TurnIn 0 0 w w') : w'.ownsRow base e size v n xs := own_below h t.to_below
end
def RetStrs (E : TypeId) (w : World) (l : List (List UInt8)) (e : Ending) (w' : World) : Prop := ∃ v, e = .returned v ∧ OwnStrs E w' w.heap.size w'.heap.size v l ∧ TurnIn 0 0 w w'
def RetStrsOk (E : TypeId) (w : World) (l : List (List UInt8)) (ok : Bool) (e : Ending) (w' : World) : Prop := ∃ v, e = .returned (.tuple #[v, .bool ok]) ∧ OwnStrs E w' w.heap.size w'.heap.size v l ∧ TurnIn 0 0 w w'
def RetStr (w : World) (s : List UInt8) (e : Ending) (w' : World) : Prop := e = .returned (.string (str s)) ∧ TurnIn 0 0 w w'
def RetStrOk (w : World) (s : List UInt8) (ok : Bool) (e : Ending) (w' : World) : Prop := e = .returned (.tuple #[.string (str s), .bool ok]) ∧ TurnIn 0 0 w w'
/-- what is left of a bound -/
def szV (left n : Nat) : Int := if n ≤ left then (left : Int) - n else -1
theorem szV_yes {left n : Nat} (h : n ≤ left) : szV left n = ((left - n : Nat) : Int) := by unfold szV; rw [if_pos h]; omega
theorem szV_no {left n : Nat} (h : left < n) : szV left n = -1 := by unfold szV; rw [if_neg (by omega)]
/-- the decimal digits of k, ahead of acc -/
def mdig (k : Nat) (acc : List UInt8) : List UInt8 := if h : k = 0 then acc else mdig (k / 10) (UInt8.ofNat (48 + k % 10) :: acc)
termination_by k
decreasing_by omega
def mtext (k : Nat) : List UInt8 := 109 :: mdig k []
theorem mdig_zero (acc : List UInt8) : mdig 0 acc = acc := by unfold mdig; simp
theorem mdig_pos {k : Nat} (h : 0 < k) (acc : List UInt8) : mdig k acc = mdig (k / 10) (UInt8.ofNat (48 + k % 10) :: acc) := by
  rw [mdig, dif_neg (by omega)]
/-- the texts of the marks k, k + 1, .. -/
def marksS (k n : Nat) : List (List UInt8) := (List.range n).map fun i => mtext (k + i)
@[simp] theorem marksS_length (k n : Nat) : (marksS k n).length = n := by simp [marksS]
theorem marksS_get (k n i : Nat) (h : i < n) : (strs (marksS k n))[i]? = some (.string (str (mtext (k + i)))) := by simp [strs, marksS, h]
def RetMarkS (E : TypeId) (w : World) (lo hi : Nat) (v : Value) (k n : Nat) (e : Ending) (w' : World) : Prop :=
  e = .returned (.int .i64 ((k + n : Nat) : Int)) ∧ OwnStrs E w' lo hi v (marksS k n) ∧ TurnIn lo hi w w'
end G294

/- Chapter 10: convolutional codes in plain mathematics: outputs, runs, the best paths to each state, that no bits cost less, and the free distance. -/
namespace G294
open Go Go.RowKit

def isBitC (c : UInt8) : Bool := c == 48 || c == 49
def bitsOk (s : List UInt8) (m : Nat) : Bool := decide (s.length ≤ m) && s.all isBitC
/-- a character as a bit, a bit as a character -/
def bv (c : UInt8) : Nat := if c = 49 then 1 else 0
def chB (b : Nat) : UInt8 := UInt8.ofNat (48 + b)
/-- the outputs of a bit at a state, and the next state -/
def outN (st b : Nat) : List UInt8 := [chB (b ^^^ (st / 2) ^^^ (st % 2)), chB (b ^^^ (st % 2)), chB (b ^^^ (st / 2))]
def nxtN (st b : Nat) : Nat := 2 * b + st / 2
def encT (st : Nat) : List UInt8 → List UInt8
  | [] => []
  | c :: s => outN st (bv c) ++ encT (nxtN st (bv c)) s
def endT (st : Nat) : List UInt8 → Nat
  | [] => st
  | c :: s => endT (nxtN st (bv c)) s
/-- in how many places lists differ -/
def dl : List UInt8 → List UInt8 → Nat
  | a :: x, b :: y => (if a = b then 0 else 1) + dl x y
  | _, _ => 0

theorem bv_lt (c : UInt8) : bv c < 2 := by unfold bv; split <;> omega
theorem bv_chB {b : Nat} (h : b < 2) : bv (chB b) = b := by
  match b, h with
  | 0, _ => decide
  | 1, _ => decide
theorem isBit_chB {b : Nat} (h : b < 2) : isBitC (chB b) = true := by
  match b, h with
  | 0, _ => decide
  | 1, _ => decide
theorem isBitC_or {c : UInt8} (h : isBitC c = true) : c = 48 ∨ c = 49 := by simpa [isBitC] using h
theorem chB_bv {c : UInt8} (h : isBitC c = true) : chB (bv c) = c := by
  rcases isBitC_or h with rfl | rfl <;> decide
theorem bv_ne {c d : UInt8} (hc : isBitC c = true) (hd : isBitC d = true) (h : c ≠ d) : bv c ≠ bv d := fun e => h (by rw [← chB_bv hc, ← chB_bv hd, e])
theorem nxtN_lt {st b : Nat} (h : st < 4) (hb : b < 2) : nxtN st b < 4 := by unfold nxtN; omega
@[simp] theorem outN_len (st b : Nat) : (outN st b).length = 3 := rfl
@[simp] theorem encT_len (st : Nat) (s : List UInt8) : (encT st s).length = 3 * s.length := by
  induction s generalizing st with
  | nil => rfl
  | cons c s ih => simp [encT, ih]; omega
theorem encT_append (st : Nat) (s t : List UInt8) : encT st (s ++ t) = encT st s ++ encT (endT st s) t := by
  induction s generalizing st with
  | nil => rfl
  | cons c s ih => simp [encT, endT, ih]
theorem endT_append (st : Nat) (s t : List UInt8) : endT st (s ++ t) = endT (endT st s) t := by
  induction s generalizing st with
  | nil => rfl
  | cons c s ih => simp [endT, ih]
theorem endT_lt {st : Nat} (h : st < 4) (s : List UInt8) : endT st s < 4 := by
  induction s generalizing st with
  | nil => exact h
  | cons c s ih => exact ih (nxtN_lt h (bv_lt c))
theorem encT_snoc (st : Nat) (s : List UInt8) (c : UInt8) : encT st (s ++ [c]) = encT st s ++ outN (endT st s) (bv c) := by simp [encT_append, encT]
theorem endT_snoc (st : Nat) (s : List UInt8) (c : UInt8) : endT st (s ++ [c]) = nxtN (endT st s) (bv c) := by simp [endT_append, endT]

theorem dl_append {a b : List UInt8} (h : a.length = b.length) (x y : List UInt8) : dl (a ++ x) (b ++ y) = dl a b + dl x y := by
  induction a generalizing b with
  | nil =>
    cases b with
    | nil => simp [dl]
    | cons d b => simp at h
  | cons c a ih =>
    cases b with
    | nil => simp at h
    | cons d b => simp only [List.cons_append, dl, ih (by simpa using h)]; omega
theorem dl_self (a : List UInt8) : dl a a = 0 := by
  induction a with
  | nil => rfl
  | cons c a ih => simp [dl, ih]
theorem dl_nil (a : List UInt8) : dl a [] = 0 := by cases a <;> rfl
theorem dl_comm (a b : List UInt8) : dl a b = dl b a := by
  induction a generalizing b with
  | nil => cases b <;> rfl
  | cons c a ih =>
    cases b with
    | nil => rfl
    | cons d b =>
      simp only [dl, ih b]
      by_cases e : c = d
      · subst e; rfl
      · rw [if_neg e, if_neg (fun h => e h.symm)]
theorem dl_tri {a b c : List UInt8} (h1 : a.length = b.length) (h2 : b.length = c.length) : dl a c ≤ dl a b + dl b c := by
  induction a generalizing b c with
  | nil => cases c <;> simp [dl]
  | cons x a ih =>
    cases b with
    | nil => simp at h1
    | cons y b =>
      cases c with
      | nil => simp at h2
      | cons z c =>
        have := ih (b := b) (c := c) (by simpa using h1) (by simpa using h2)
        simp only [dl]
        by_cases e1 : x = y
        · subst e1; simp; omega
        · rw [if_neg e1]; split <;> split <;> omega
theorem dl_le {a b : List UInt8} : dl a b ≤ a.length := by
  induction a generalizing b with
  | nil => cases b <;> simp [dl]
  | cons x a ih =>
    cases b with
    | nil => simp [dl]
    | cons y b => simp only [dl, List.length_cons]; have := ih (b := b); split <;> omega

/-- what two runs still differ in, at least, when their states are so far apart and they meet -/
def remD (d : Nat) : Nat := if d = 0 then 0 else if d = 1 then 2 else 4
theorem rem_step : ∀ u, u < 4 → ∀ v, v < 4 → ∀ c, c < 2 → ∀ d, d < 2 → remD (u ^^^ v) ≤ dl (outN u c) (outN v d) + remD (nxtN u c ^^^ nxtN v d) := by decide +kernel
theorem rem_split : ∀ u, u < 4 → ∀ c, c < 2 → ∀ d, d < 2 → c ≠ d → 7 ≤ dl (outN u c) (outN u d) + remD (nxtN u c ^^^ nxtN u d) := by decide +kernel
theorem far_rem (a : List UInt8) : ∀ (b : List UInt8) (u v : Nat), a.length = b.length → u < 4 → v < 4 → endT u a = endT v b → remD (u ^^^ v) ≤ dl (encT u a) (encT v b) := by
  induction a with
  | nil =>
    intro b u v hl hu hv he
    cases b with
    | nil =>
      simp only [endT] at he
      subst he
      simp [remD]
    | cons d b => simp at hl
  | cons c a ih =>
    intro b u v hl hu hv he
    cases b with
    | nil => simp at hl
    | cons d b =>
      have h1 := rem_step u hu v hv (bv c) (bv_lt c) (bv d) (bv_lt d)
      have h2 := ih b (nxtN u (bv c)) (nxtN v (bv d)) (by simpa using hl) (nxtN_lt hu (bv_lt c)) (nxtN_lt hv (bv_lt d)) he
      simp only [encT]
      rw [dl_append (by simp)]
      omega
/-- the free distance: different bits between the same states differ in seven outputs at least -/
theorem far_seven (a : List UInt8) : ∀ (b : List UInt8) (u : Nat), a.length = b.length → a.all isBitC = true → b.all isBitC = true → a ≠ b → u < 4 → endT u a = endT u b → 7 ≤ dl (encT u a) (encT u b) := by
  induction a with
  | nil =>
    intro b u hl _ _ hne _ _
    cases b with
    | nil => exact absurd rfl hne
    | cons d b => simp at hl
  | cons c a ih =>
    intro b u hl ha hb hne hu he
    cases b with
    | nil => simp at hl
    | cons d b =>
      simp only [List.all_cons, Bool.and_eq_true] at ha hb
      simp only [encT]
      rw [dl_append (by simp)]
      by_cases e : c = d
      · subst e
        have := ih b (nxtN u (bv c)) (by simpa using hl) ha.2 hb.2 (fun h => hne (by rw [h])) (nxtN_lt hu (bv_lt c)) he
        omega
      · have h1 := rem_split u hu (bv c) (bv_lt c) (bv d) (bv_lt d) (bv_ne ha.1 hb.1 e)
        have h2 := far_rem a b (nxtN u (bv c)) (nxtN u (bv d)) (by simpa using hl) (nxtN_lt hu (bv_lt c)) (nxtN_lt hu (bv_lt d)) he
        omega

/-- the order of texts -/
theorem bl_irr (a : List UInt8) : Op.bytesLess a a = false := by
  induction a with
  | nil => rfl
  | cons x a ih => simp [Op.bytesLess, ih]
theorem bl_append {a b : List UInt8} (h : a.length = b.length) (t : List UInt8) : Op.bytesLess (a ++ t) (b ++ t) = Op.bytesLess a b := by
  induction a generalizing b with
  | nil =>
    cases b with
    | nil => simp [bl_irr, Op.bytesLess]
    | cons d b => simp at h
  | cons c a ih =>
    cases b with
    | nil => simp at h
    | cons d b => simp [Op.bytesLess, ih (by simpa using h : a.length = b.length)]
theorem bl_asym {a b : List UInt8} (h : Op.bytesLess a b = true) : Op.bytesLess b a = false := by
  induction a generalizing b with
  | nil =>
    cases b with
    | nil => simp [Op.bytesLess] at h
    | cons d b => rfl
  | cons c a ih =>
    cases b with
    | nil => simp [Op.bytesLess] at h
    | cons d b =>
      simp only [Op.bytesLess, Bool.or_eq_true, Bool.and_eq_true, decide_eq_true_eq, beq_iff_eq] at h
      simp only [Op.bytesLess, Bool.or_eq_false_iff, Bool.and_eq_false_iff, decide_eq_false_iff_not, beq_eq_false_iff_ne]
      rcases h with h | ⟨rfl, h⟩
      · exact ⟨UInt8.not_lt.2 (UInt8.le_of_lt h), .inl (fun e => UInt8.ne_of_lt h e.symm)⟩
      · exact ⟨UInt8.lt_irrefl _, .inr (ih h)⟩
theorem bl_trans {a b c : List UInt8} (h1 : Op.bytesLess b a = false) (h2 : Op.bytesLess c b = false) : Op.bytesLess c a = false := by
  induction a generalizing b c with
  | nil => cases c <;> rfl
  | cons x a ih =>
    cases b with
    | nil => simp [Op.bytesLess] at h1
    | cons y b =>
      cases c with
      | nil => simp [Op.bytesLess] at h2
      | cons z c =>
        simp only [Op.bytesLess, Bool.or_eq_false_iff, Bool.and_eq_false_iff, decide_eq_false_iff_not, beq_eq_false_iff_ne, UInt8.not_lt] at h1 h2 ⊢
        refine ⟨UInt8.le_trans h1.1 h2.1, ?_⟩
        by_cases e : z = x
        · subst e
          have e2 : y = z := UInt8.le_antisymm h2.1 h1.1
          subst e2
          refine .inr (ih (b := b) (c := c) ?_ ?_)
          · exact h1.2.resolve_left (fun h => h rfl)
          · exact h2.2.resolve_left (fun h => h rfl)
        · exact .inl e

/-- a path: its bits and its cost, -1 for none -/
abbrev Pt := List UInt8 × Int
def noP : Pt := ([], -1)
def betterP (a b : Pt) : Bool := decide (b.2 < 0) || (decide (a.2 < b.2) || (decide (a.2 = b.2) && Op.bytesLess a.1 b.1))
def cand (p : Pt) (st b : Nat) (r : List UInt8) : Pt := (p.1 ++ [chB b], p.2 + (dl (outN st b) r : Nat))
def addC (p x acc : Pt) : Pt := if p.2 < 0 then acc else if betterP x acc = true then x else acc
/-- the best path to a state by the states below n -/
def upTo (l : List Pt) (r : List UInt8) (to : Nat) : Nat → Pt
  | 0 => noP
  | n + 1 => if nxtN n (to / 2) = to then addC (l.getD n noP) (cand (l.getD n noP) n (to / 2) r) (upTo l r to n) else upTo l r to n
def stepP (l : List Pt) (r : List UInt8) : List Pt := [upTo l r 0 4, upTo l r 1 4, upTo l r 2 4, upTo l r 3 4]
def stepL (l : List Pt) (r : List UInt8) : List Pt := [upTo l r 0 4, upTo l r 1 4, noP, noP]
def startP : List Pt := [([], 0), noP, noP, noP]
def pathsN (r : List UInt8) : Nat → List Pt
  | 0 => startP
  | k + 1 => stepP (pathsN r k) ((r.drop (3 * k)).take 3)
@[simp] theorem stepP_len (l : List Pt) (r : List UInt8) : (stepP l r).length = 4 := rfl
@[simp] theorem stepL_len (l : List Pt) (r : List UInt8) : (stepL l r).length = 4 := rfl
@[simp] theorem pathsN_len (r : List UInt8) (k : Nat) : (pathsN r k).length = 4 := by cases k <;> rfl
theorem stepP_at (l : List Pt) (r : List UInt8) {t : Nat} (h : t < 4) : (stepP l r).getD t noP = upTo l r t 4 := by
  match t, h with
  | 0, _ => rfl
  | 1, _ => rfl
  | 2, _ => rfl
  | 3, _ => rfl
theorem upTo_low (l m : List Pt) (r : List UInt8) {t : Nat} (h : t < 2) (ht : t % 2 = 0) (h0 : l.getD 0 noP = m.getD 0 noP) (h1 : l.getD 1 noP = m.getD 1 noP) : upTo l r t 4 = upTo m r t 4 := by
  obtain rfl : t = 0 := by omega
  have e2 : ¬ nxtN 2 (0 / 2) = 0 := by decide
  have e3 : ¬ nxtN 3 (0 / 2) = 0 := by decide
  rw [upTo, if_neg e3, upTo, if_neg e2, upTo, upTo, upTo, upTo, if_neg e3, upTo, if_neg e2, upTo, upTo, upTo, h0, h1]
/-- two steps by zeros alone lead to state 0 as two free steps do -/
theorem stepL_two (l : List Pt) (q r : List UInt8) : (stepL (stepL l q) r).getD 0 noP = (stepP (stepP l q) r).getD 0 noP :=
  show upTo (stepL l q) r 0 4 = upTo (stepP l q) r 0 4 from upTo_low (t := 0) (stepL l q) (stepP l q) r (by omega) rfl rfl rfl

/-- the model's round: one state, one bit -/
def mStep (l : List Pt) (r : List UInt8) (last : Bool) (out : List Pt) (st b : Nat) : List Pt :=
  if (l.getD st noP).2 < 0 ∨ (last = true ∧ b = 1) then out
  else if betterP (cand (l.getD st noP) st b r) (out.getD (nxtN st b) noP) = true then out.set (nxtN st b) (cand (l.getD st noP) st b r) else out
def mAll (l : List Pt) (r : List UInt8) (last : Bool) : Nat → List Pt
  | 0 => [noP, noP, noP, noP]
  | n + 1 => mStep l r last (mAll l r last n) (n / 2) (n % 2)
theorem mStep_free (l : List Pt) (r : List UInt8) (out : List Pt) (last : Bool) (st b : Nat) (h : ¬ (last = true ∧ b = 1)) (hs : nxtN st b < out.length) :
    mStep l r last out st b = out.set (nxtN st b) (addC (l.getD st noP) (cand (l.getD st noP) st b r) (out.getD (nxtN st b) noP)) := by
  have hself : out.set (nxtN st b) (out.getD (nxtN st b) noP) = out := by
    rw [List.getD_eq_getElem?_getD, List.getElem?_eq_getElem hs]; simp
  unfold mStep addC
  by_cases h1 : (l.getD st noP).2 < 0
  · rw [if_pos (Or.inl h1), if_pos h1, hself]
  · rw [if_neg (fun e => e.elim h1 h), if_neg h1]
    split
    · rfl
    · rw [hself]
theorem mStep_last (l : List Pt) (r : List UInt8) (out : List Pt) (st b : Nat) (h : b = 1) : mStep l r true out st b = out := if_pos (.inr ⟨rfl, h⟩)
@[simp] theorem mStep_len (l : List Pt) (r : List UInt8) (last : Bool) (out : List Pt) (st b : Nat) : (mStep l r last out st b).length = out.length := by
  unfold mStep; split
  · rfl
  · split <;> simp
@[simp] theorem mAll_len (l : List Pt) (r : List UInt8) (last : Bool) (n : Nat) : (mAll l r last n).length = 4 := by
  induction n with
  | zero => rfl
  | succ n ih => simp [mAll, ih]
theorem upTo_four (l : List Pt) (r : List UInt8) {t : Nat} (h : t < 4) : upTo l r t 4 =
    addC (l.getD (2 * (t % 2) + 1) noP) (cand (l.getD (2 * (t % 2) + 1) noP) (2 * (t % 2) + 1) (t / 2) r) (addC (l.getD (2 * (t % 2)) noP) (cand (l.getD (2 * (t % 2)) noP) (2 * (t % 2)) (t / 2) r) noP) := by
  match t, h with
  | 0, _ => rfl
  | 1, _ => rfl
  | 2, _ => rfl
  | 3, _ => rfl
theorem mAll_free (l : List Pt) (r : List UInt8) : mAll l r false 8 = stepP l r := by
  have e : ∀ (out : List Pt) (st b : Nat), out.length = 4 → nxtN st b < 4 → mStep l r false out st b = out.set (nxtN st b) (addC (l.getD st noP) (cand (l.getD st noP) st b r) (out.getD (nxtN st b) noP)) :=
    fun out st b h h' => mStep_free l r out false st b (by simp) (by omega)
  unfold stepP
  rw [upTo_four l r (by omega), upTo_four l r (by omega), upTo_four l r (by omega), upTo_four l r (by omega)]
  have s1 : mAll l r false 1 = _ := e [noP, noP, noP, noP] 0 0 (by simp) (by decide)
  have s2 : mAll l r false 2 = _ := (congrArg (fun o => mStep l r false o 0 1) s1).trans (e _ 0 1 (by simp) (by decide))
  have s3 : mAll l r false 3 = _ := (congrArg (fun o => mStep l r false o 1 0) s2).trans (e _ 1 0 (by simp) (by decide))
  have s4 : mAll l r false 4 = _ := (congrArg (fun o => mStep l r false o 1 1) s3).trans (e _ 1 1 (by simp) (by decide))
  have s5 : mAll l r false 5 = _ := (congrArg (fun o => mStep l r false o 2 0) s4).trans (e _ 2 0 (by simp) (by decide))
  have s6 : mAll l r false 6 = _ := (congrArg (fun o => mStep l r false o 2 1) s5).trans (e _ 2 1 (by simp) (by decide))
  have s7 : mAll l r false 7 = _ := (congrArg (fun o => mStep l r false o 3 0) s6).trans (e _ 3 0 (by simp) (by decide))
  have s8 : mAll l r false 8 = _ := (congrArg (fun o => mStep l r false o 3 1) s7).trans (e _ 3 1 (by simp) (by decide))
  rw [s8]
  rfl
theorem mAll_last (l : List Pt) (r : List UInt8) : mAll l r true 8 = stepL l r := by
  have e : ∀ (out : List Pt) (st : Nat), out.length = 4 → nxtN st 0 < 4 → mStep l r true out st 0 = out.set (nxtN st 0) (addC (l.getD st noP) (cand (l.getD st noP) st 0 r) (out.getD (nxtN st 0) noP)) :=
    fun out st h h' => mStep_free l r out true st 0 (by simp) (by omega)
  unfold stepL
  rw [upTo_four l r (by omega), upTo_four l r (by omega)]
  have s1 : mAll l r true 1 = _ := e [noP, noP, noP, noP] 0 (by simp) (by decide)
  have s2 : mAll l r true 2 = _ := (congrArg (fun o => mStep l r true o 0 1) s1).trans (mStep_last l r _ 0 1 rfl)
  have s3 : mAll l r true 3 = _ := (congrArg (fun o => mStep l r true o 1 0) s2).trans (e _ 1 (by simp) (by decide))
  have s4 : mAll l r true 4 = _ := (congrArg (fun o => mStep l r true o 1 1) s3).trans (mStep_last l r _ 1 1 rfl)
  have s5 : mAll l r true 5 = _ := (congrArg (fun o => mStep l r true o 2 0) s4).trans (e _ 2 (by simp) (by decide))
  have s6 : mAll l r true 6 = _ := (congrArg (fun o => mStep l r true o 2 1) s5).trans (mStep_last l r _ 2 1 rfl)
  have s7 : mAll l r true 7 = _ := (congrArg (fun o => mStep l r true o 3 0) s6).trans (e _ 3 (by simp) (by decide))
  have s8 : mAll l r true 8 = _ := (congrArg (fun o => mStep l r true o 3 1) s7).trans (mStep_last l r _ 3 1 rfl)
  rw [s8]
  rfl

/-- one text is no worse than another -/
def LeP (c1 : Nat) (s1 : List UInt8) (c2 : Nat) (s2 : List UInt8) : Prop := c1 < c2 ∨ (c1 = c2 ∧ Op.bytesLess s2 s1 = false)
theorem LeP.trans {c1 c2 c3 : Nat} {s1 s2 s3 : List UInt8} (h : LeP c1 s1 c2 s2) (h' : LeP c2 s2 c3 s3) : LeP c1 s1 c3 s3 := by
  rcases h with h | ⟨rfl, h⟩
  · rcases h' with h' | ⟨rfl, h'⟩
    · exact .inl (by omega)
    · exact .inl h
  · rcases h' with h' | ⟨rfl, h'⟩
    · exact .inl h'
    · exact .inr ⟨rfl, bl_trans h h'⟩
theorem LeP.refl (c : Nat) (s : List UInt8) : LeP c s c s := .inr ⟨rfl, bl_irr s⟩
/-- p is the best text of S by its cost -/
def BestQ (S : List UInt8 → Prop) (cost : List UInt8 → Nat) (p : Pt) : Prop :=
  (p = noP ∧ ∀ s, ¬ S s) ∨ (S p.1 ∧ p.2 = (cost p.1 : Int) ∧ ∀ s, S s → LeP (cost p.1) p.1 (cost s) s)
theorem best_join {S1 S2 S : List UInt8 → Prop} {cost : List UInt8 → Nat} {p x : Pt} (hS : ∀ s, S s ↔ S1 s ∨ S2 s) (hp : BestQ S1 cost p)
    (hx : S2 x.1 ∧ x.2 = (cost x.1 : Int) ∧ ∀ s, S2 s → LeP (cost x.1) x.1 (cost s) s) : BestQ S cost (if betterP x p = true then x else p) := by
  obtain ⟨x1, x2, x3⟩ := hx
  rcases hp with ⟨rfl, hn⟩ | ⟨p1, p2, p3⟩
  · have : betterP x noP = true := by simp [betterP, noP]
    rw [if_pos this]
    exact .inr ⟨(hS _).2 (.inr x1), x2, fun s hs => (((hS s).1 hs).elim (fun h => absurd h (hn s)) (x3 s))⟩
  · by_cases hb : betterP x p = true
    · rw [if_pos hb]
      have hle : LeP (cost x.1) x.1 (cost p.1) p.1 := by
        simp only [betterP, Bool.or_eq_true, Bool.and_eq_true, decide_eq_true_eq, x2, p2] at hb
        rcases hb with h | h | ⟨h, h'⟩
        · omega
        · exact .inl (by omega)
        · exact .inr ⟨by omega, bl_asym h'⟩
      exact .inr ⟨(hS _).2 (.inr x1), x2, fun s hs => (((hS s).1 hs).elim (fun h => hle.trans (p3 s h)) (x3 s))⟩
    · rw [if_neg hb]
      have hle : LeP (cost p.1) p.1 (cost x.1) x.1 := by
        simp only [betterP, Bool.or_eq_true, Bool.and_eq_true, decide_eq_true_eq, x2, p2, not_or, not_and, Bool.not_eq_true] at hb
        obtain ⟨_, h2, h3⟩ := hb
        rcases Nat.lt_or_ge (cost p.1) (cost x.1) with h | h
        · exact .inl h
        · exact .inr ⟨by omega, h3 (by omega)⟩
      exact .inr ⟨(hS _).2 (.inl p1), p2, fun s hs => (((hS s).1 hs).elim (p3 s) (fun h => hle.trans (x3 s h)))⟩

/-- the texts of k bits that lead to a state -/
def Lead (k t : Nat) (s : List UInt8) : Prop := s.all isBitC = true ∧ s.length = k ∧ endT 0 s = t
def costT (r s : List UInt8) : Nat := dl (encT 0 s) r
def LeadU (k t n : Nat) (s : List UInt8) : Prop := ∃ s' c, s = s' ++ [c] ∧ s'.all isBitC = true ∧ isBitC c = true ∧ s'.length = k ∧ endT 0 s' < n ∧ nxtN (endT 0 s') (bv c) = t
theorem costT_snoc {r s : List UInt8} (q : List UInt8) (c : UInt8) (h : r.length = 3 * s.length) : costT (r ++ q) (s ++ [c]) = costT r s + dl (outN (endT 0 s) (bv c)) q := by
  unfold costT
  rw [encT_snoc, dl_append (by simp [h])]
theorem nxt_half {n b : Nat} (h : n < 4) : nxtN n b / 2 = b := by unfold nxtN; omega
theorem best_up (l : List Pt) (r q : List UInt8) (k t : Nat) (ht : t < 4) (hr : r.length = 3 * k) (hl : ∀ f, f < 4 → BestQ (Lead k f) (costT r) (l.getD f noP)) :
    ∀ n, n ≤ 4 → BestQ (LeadU k t n) (costT (r ++ q)) (upTo l q t n)
  | 0, _ => .inl ⟨rfl, fun s h => by obtain ⟨s', c, _, _, _, _, h, _⟩ := h; omega⟩
  | n + 1, hn => by
    have ih := best_up l r q k t ht hr hl n (by omega)
    have hmore : ∀ s, LeadU k t (n + 1) s ↔ LeadU k t n s ∨ (∃ s' c, s = s' ++ [c] ∧ s'.all isBitC = true ∧ isBitC c = true ∧ s'.length = k ∧ endT 0 s' = n ∧ nxtN n (bv c) = t) := by
      intro s
      constructor
      · rintro ⟨s', c, h1, h2, h3, h4, h5, h6⟩
        rcases Nat.lt_or_ge (endT 0 s') n with h | h
        · exact .inl ⟨s', c, h1, h2, h3, h4, h, h6⟩
        · have e : endT 0 s' = n := by omega
          exact .inr ⟨s', c, h1, h2, h3, h4, e, by rw [← e]; exact h6⟩
      · rintro (⟨s', c, h1, h2, h3, h4, h5, h6⟩ | ⟨s', c, h1, h2, h3, h4, h5, h6⟩)
        · exact ⟨s', c, h1, h2, h3, h4, by omega, h6⟩
        · exact ⟨s', c, h1, h2, h3, h4, by omega, by rw [h5]; exact h6⟩
    have hno : (∀ s, ¬ (∃ s' c, s = s' ++ [c] ∧ s'.all isBitC = true ∧ isBitC c = true ∧ s'.length = k ∧ endT 0 s' = n ∧ nxtN n (bv c) = t)) → BestQ (LeadU k t (n + 1)) (costT (r ++ q)) (upTo l q t n) := by
      intro hno
      have e : LeadU k t (n + 1) = LeadU k t n := by
        funext s
        exact propext ((hmore s).trans ⟨fun h => h.elim id (fun h => absurd h (hno s)), .inl⟩)
      rw [e]; exact ih
    unfold upTo
    by_cases hx : nxtN n (t / 2) = t
    · rw [if_pos hx]
      unfold addC
      rcases hl n (by omega) with ⟨e, hnone⟩ | ⟨⟨a1, a2, a3⟩, b, hbest⟩
      · rw [if_pos (by rw [e]; decide)]
        exact hno (fun s ⟨s', c, h1, h2, h3, h4, h5, h6⟩ => hnone s' ⟨h2, h4, h5⟩)
      · rw [if_neg (by rw [b]; omega)]
        have ht2 : t / 2 < 2 := by omega
        refine best_join hmore ih ⟨⟨_, _, rfl, a1, isBit_chB ht2, a2, a3, by rw [bv_chB ht2]; exact hx⟩, ?_, ?_⟩
        · show (l.getD n noP).2 + _ = _
          rw [show (cand (l.getD n noP) n (t / 2) q).1 = (l.getD n noP).1 ++ [chB (t / 2)] from rfl, costT_snoc q _ (by rw [a2, hr]), a3, bv_chB ht2, b]
          omega
        · rintro s ⟨s', c, rfl, h2, h3, h4, h5, h6⟩
          have hc : bv c = t / 2 := by rw [← h6, nxt_half (by omega)]
          have hcc : c = chB (t / 2) := by rw [← hc, chB_bv h3]
          rw [show (cand (l.getD n noP) n (t / 2) q).1 = (l.getD n noP).1 ++ [chB (t / 2)] from rfl, costT_snoc q _ (by rw [a2, hr]), costT_snoc q _ (by rw [h4, hr]), a3, h5, bv_chB ht2, hc, hcc]
          rcases hbest s' ⟨h2, h4, h5⟩ with h | ⟨h, h'⟩
          · exact .inl (by omega)
          · exact .inr ⟨by omega, by rw [bl_append (by rw [h4, a2])]; exact h'⟩
    · rw [if_neg hx]
      refine hno (fun s ⟨s', c, h1, h2, h3, h4, h5, h6⟩ => hx ?_)
      rw [show t / 2 = bv c by rw [← h6, nxt_half (by omega)]]
      exact h6
theorem lead_up {k t : Nat} (s : List UInt8) : LeadU k t 4 s ↔ Lead (k + 1) t s := by
  constructor
  · rintro ⟨s', c, rfl, h2, h3, h4, h5, h6⟩
    exact ⟨by simp [h2, h3], by simp [h4], by rw [endT_snoc]; exact h6⟩
  · rintro ⟨h1, h2, h3⟩
    have hne : s ≠ [] := fun e => by rw [e] at h2; simp at h2
    have hs := (List.dropLast_concat_getLast hne).symm
    rw [hs] at h1 h3
    rw [endT_snoc] at h3
    simp only [List.all_append, List.all_cons, List.all_nil, Bool.and_true, Bool.and_eq_true] at h1
    exact ⟨_, _, hs, h1.1, h1.2, by simp [h2], endT_lt (by omega) _, h3⟩
theorem best_paths (r : List UInt8) : ∀ k, 3 * k ≤ r.length → ∀ t, t < 4 → BestQ (Lead k t) (costT (r.take (3 * k))) ((pathsN r k).getD t noP)
  | 0, _, t, ht => by
    by_cases h0 : t = 0
    · subst h0
      refine .inr ⟨⟨rfl, rfl, rfl⟩, ?_, ?_⟩
      · simp [pathsN, startP, costT, encT, dl]
      · rintro s ⟨h1, h2, h3⟩
        rw [List.length_eq_zero_iff.1 h2]
        exact LeP.refl _ _
    · refine .inl ⟨?_, ?_⟩
      · match t, ht, h0 with
        | 1, _, _ => rfl
        | 2, _, _ => rfl
        | 3, _, _ => rfl
      · rintro s ⟨h1, h2, h3⟩
        rw [List.length_eq_zero_iff.1 h2] at h3
        exact h0 h3.symm
  | k + 1, hk, t, ht => by
    have ih := best_paths r k (by omega)
    have h := best_up (pathsN r k) (r.take (3 * k)) ((r.drop (3 * k)).take 3) k t ht (by simp; omega) ih 4 (by omega)
    have e : r.take (3 * k) ++ (r.drop (3 * k)).take 3 = r.take (3 * (k + 1)) := by
      rw [show 3 * (k + 1) = 3 * k + 3 by omega, List.take_add]
    rw [e] at h
    rw [show LeadU k t 4 = Lead (k + 1) t from funext (fun s => propext (lead_up s))] at h
    rw [pathsN, stepP_at _ _ ht]
    exact h
/-- some bits lead to state 0: zeros -/
theorem lead_zero (k : Nat) : Lead k 0 (List.replicate k 48) := by
  refine ⟨by simp [isBitC], by simp, ?_⟩
  induction k with
  | zero => rfl
  | succ k ih => rw [List.replicate_succ, endT]; exact ih
theorem best_zero (r : List UInt8) (k : Nat) (hk : 3 * k ≤ r.length) : Lead k 0 ((pathsN r k).getD 0 noP).1 ∧ ((pathsN r k).getD 0 noP).2 = (costT (r.take (3 * k)) ((pathsN r k).getD 0 noP).1 : Int) ∧
    ∀ s, Lead k 0 s → LeP (costT (r.take (3 * k)) ((pathsN r k).getD 0 noP).1) ((pathsN r k).getD 0 noP).1 (costT (r.take (3 * k)) s) s := by
  rcases best_paths r k hk 0 (by omega) with ⟨_, hn⟩ | h
  · exact absurd (lead_zero k) (hn _)
  · exact h
/-- bits that end in state 0 end in two zeros -/
theorem lead_tail {n : Nat} {s : List UInt8} (h : Lead (n + 2) 0 s) : s = s.take n ++ [48, 48] := by
  obtain ⟨h1, h2, h3⟩ := h
  have hd : (s.drop n).length = 2 := by simp; omega
  match hs : s.drop n, hd with
  | [c, d], _ =>
    have e : s = s.take n ++ [c, d] := by rw [← hs, List.take_append_drop]
    rw [e, show s.take n ++ [c, d] = (s.take n ++ [c]) ++ [d] by simp, endT_snoc, endT_snoc] at h3
    rw [e] at h1
    simp only [List.all_append, List.all_cons, List.all_nil, Bool.and_true, Bool.and_eq_true] at h1
    have hc : bv c = 0 := by unfold nxtN at h3; omega
    have hdz : bv d = 0 := by unfold nxtN at h3; omega
    have e1 : c = 48 := by rw [← chB_bv h1.2.1, hc]; rfl
    have e2 : d = 48 := by rw [← chB_bv h1.2.2, hdz]; rfl
    rw [e1, e2] at e
    exact e
theorem lead_zeros {n : Nat} {s : List UInt8} (h : s.all isBitC = true) (hl : s.length = n) : Lead (n + 2) 0 (s ++ [48, 48]) := by
  refine ⟨by simp [h, isBitC], by simp [hl], ?_⟩
  rw [endT_append]
  have := endT_lt (by omega : 0 < 4) s
  generalize endT 0 s = q at this
  have e : bv 48 = 0 := by decide
  simp only [endT, e, nxtN]
  omega

/-- encoding, distance, decoding -/
def encOk10 (s : List UInt8) : Bool := bitsOk s 30
def encR10 (s : List UInt8) : List UInt8 := if encOk10 s = true then encT 0 (s ++ [48, 48]) else []
def dstOk (a b : List UInt8) : Bool := bitsOk a 96 && (bitsOk b 96 && decide (a.length = b.length))
def dstR (a b : List UInt8) : Int := if dstOk a b = true then (dl a b : Int) else 0
def cosOk (s r : List UInt8) : Bool := encOk10 s && dstOk (encR10 s) r
def cosR (s r : List UInt8) : Int := if cosOk s r = true then (dl (encR10 s) r : Int) else 0
def recOk (r : List UInt8) : Bool := bitsOk r 96 && (decide (r.length % 3 = 0) && decide (6 ≤ r.length))
def bstR (r : List UInt8) : List Pt := if recOk r = true then pathsN r (r.length / 3 - 2) else []
def dcdR (r : List UInt8) : Pt := if recOk r = true then (((pathsN r (r.length / 3)).getD 0 noP).1.take (r.length / 3 - 2), ((pathsN r (r.length / 3)).getD 0 noP).2) else ([], 0)

theorem bitsOk_b {s : List UInt8} {m : Nat} (h : bitsOk s m = true) : s.length ≤ m ∧ s.all isBitC = true := by
  simpa [bitsOk] using h
theorem encT_bits (st : Nat) (hst : st < 4) (s : List UInt8) : (encT st s).all isBitC = true := by
  induction s generalizing st with
  | nil => rfl
  | cons c s ih =>
    have key : ∀ u, u < 4 → ∀ b, b < 2 → (outN u b).all isBitC = true := by decide +kernel
    simp only [encT, List.all_append, Bool.and_eq_true]
    exact ⟨key st hst _ (bv_lt c), ih _ (nxtN_lt hst (bv_lt c))⟩
theorem encR10_yes {s : List UInt8} (h : encOk10 s = true) : encR10 s = encT 0 (s ++ [48, 48]) := if_pos h
theorem encR10_no {s : List UInt8} (h : encOk10 s = false) : encR10 s = [] := if_neg (by rw [h]; decide)
theorem encR10_len {s : List UInt8} (h : encOk10 s = true) : (encR10 s).length = 3 * (s.length + 2) := by rw [encR10_yes h]; simp
theorem encR10_bits {s : List UInt8} (h : encOk10 s = true) : bitsOk (encR10 s) 96 = true := by
  have := (bitsOk_b h).1
  simp only [bitsOk, Bool.and_eq_true, decide_eq_true_eq]
  exact ⟨by rw [encR10_len h]; omega, by rw [encR10_yes h]; exact encT_bits 0 (by omega) _⟩
theorem recOk_b {r : List UInt8} (h : recOk r = true) : bitsOk r 96 = true ∧ ∃ n, r.length = 3 * (n + 2) ∧ n ≤ 30 ∧ r.length / 3 = n + 2 := by
  simp only [recOk, Bool.and_eq_true, decide_eq_true_eq] at h
  have := (bitsOk_b h.1).1
  exact ⟨h.1, r.length / 3 - 2, by omega, by omega, by omega⟩

/-- what is decoded, with its cost, and that no other bits are better -/
theorem dcd_best {r : List UInt8} {n : Nat} (h : recOk r = true) (hn : r.length = 3 * (n + 2)) (h30 : n ≤ 30) :
    (dcdR r).1.length = n ∧ (dcdR r).1.all isBitC = true ∧ (dcdR r).2 = (dl (encR10 (dcdR r).1) r : Int) ∧
    ∀ s, s.all isBitC = true → s.length = n → LeP (dl (encR10 (dcdR r).1) r) (dcdR r).1 (dl (encR10 s) r) s := by
  have h3 : r.length / 3 = n + 2 := by omega
  have hb := best_zero r (n + 2) (by omega)
  rw [List.take_of_length_le (by omega)] at hb
  have hd : dcdR r = (((pathsN r (n + 2)).getD 0 noP).1.take n, ((pathsN r (n + 2)).getD 0 noP).2) := by
    unfold dcdR; rw [if_pos h, h3]; rfl
  rw [hd]
  generalize (pathsN r (n + 2)).getD 0 noP = p at hb ⊢
  obtain ⟨hl, hc, hbest⟩ := hb
  have ht := lead_tail hl
  have hlen : (p.1.take n).length = n := by simp [hl.2.1]
  have hbits : (p.1.take n).all isBitC = true := by
    have := hl.1
    rw [ht] at this
    simp only [List.all_append, Bool.and_eq_true] at this
    exact this.1
  have hok : encOk10 (p.1.take n) = true := by simp only [encOk10, bitsOk, Bool.and_eq_true, decide_eq_true_eq]; exact ⟨by omega, hbits⟩
  have hcost : dl (encR10 (p.1.take n)) r = costT r p.1 := by rw [encR10_yes hok, ← ht]; rfl
  refine ⟨hlen, hbits, by rw [hcost]; exact hc, fun s hs hsl => ?_⟩
  have hok2 : encOk10 s = true := by simp only [encOk10, bitsOk, Bool.and_eq_true, decide_eq_true_eq]; exact ⟨by omega, hs⟩
  have := hbest _ (lead_zeros hs hsl)
  rw [hcost, encR10_yes hok2]
  rw [ht] at this
  rw [← ht] at this
  rcases this with h | ⟨h, h'⟩
  · exact .inl h
  · refine .inr ⟨h, ?_⟩
    rw [ht, bl_append (by rw [hsl, hlen])] at h'
    exact h'
/-- few errors are corrected: by the free distance -/
theorem dcd_free {s r : List UInt8} (hs : encOk10 s = true) (hr : r.length = (encR10 s).length) (hrb : r.all isBitC = true) (hd : dl (encR10 s) r ≤ 3) : dcdR r = (s, (dl (encR10 s) r : Int)) ∧ recOk r = true := by
  have hsb := bitsOk_b hs
  have hrl : r.length = 3 * (s.length + 2) := by rw [hr, encR10_len hs]
  have hok : recOk r = true := by
    simp only [recOk, bitsOk, Bool.and_eq_true, decide_eq_true_eq]
    exact ⟨⟨by omega, hrb⟩, by omega, by omega⟩
  obtain ⟨h1, h2, h3, h4⟩ := dcd_best hok hrl hsb.1
  have hp := h4 s hsb.2 rfl
  have hcost : dl (encR10 (dcdR r).1) r ≤ dl (encR10 s) r := by rcases hp with h | ⟨h, _⟩ <;> omega
  have hok2 : encOk10 (dcdR r).1 = true := by simp only [encOk10, bitsOk, Bool.and_eq_true, decide_eq_true_eq]; exact ⟨by omega, h2⟩
  have heq : (dcdR r).1 = s := by
    apply Classical.byContradiction
    intro hne
    have l1 := lead_zeros h2 h1
    have l2 := lead_zeros hsb.2 rfl
    have h7 := far_seven ((dcdR r).1 ++ [48, 48]) (s ++ [48, 48]) 0 (by simp [h1]) l1.1 l2.1 (fun e => hne (List.append_cancel_right e)) (by omega) (l1.2.2.trans l2.2.2.symm)
    rw [← encR10_yes hok2, ← encR10_yes hs] at h7
    have tri := dl_tri (a := encR10 (dcdR r).1) (b := r) (c := encR10 s) (by rw [encR10_len hok2, hrl, h1]) hr
    have := dl_comm r (encR10 s)
    omega
  refine ⟨Prod.ext heq ?_, hok⟩
  rw [heq] at h3
  exact h3
end G294

/- Contracts of the laws' helpers on []byte: a copy, equality, marks, marks held. -/
namespace Go.Proofs.Ytjgmegfbfjmnfaa
open Go.RowKit G294

/-- a new row of the call's own is returned; old memory is as it was -/
def Made (w : World) (E : TypeId) (xs : List Value) (e : Ending) (w' : World) : Prop := ∃ v, e = .returned v ∧ w'.ownsRow w.heap.size E 1 v xs.length xs ∧ Below w.heap.size w w'

/-- a new row of the call's own and a bool are returned; old memory is as it was -/
def MadeOk (w : World) (E : TypeId) (xs : List Value) (ok : Bool) (e : Ending) (w' : World) : Prop := ∃ v, e = .returned (.tuple #[v, .bool ok]) ∧ w'.ownsRow w.heap.size E 1 v xs.length xs ∧ Below w.heap.size w w'

theorem infoByte : (Try.prog.info? 5).map (fun i => (i.zero, i.size, i.bytes)) = some (some (.int .u8 0), 1, 1) := by kernel_rfl

set_option maxHeartbeats 400000 in
theorem toByteS_any (v : Value) (l : List UInt8) (w : World) (hv : Seen w v (bys l)) (hn : l.length ≤ 1048576) :
    Calls Try.prog 37 #[v] w (Made w 5 (bys l)) := by
  obtain ⟨i0, hi0, hz0, hz1, hz2⟩ := info_parts infoByte
  obtain ⟨A, c, rfl, hlc, hcm, hx⟩ := hv
  rw [bys_length] at hlc hx
  simp only [bys_length]
  unfold maxLen at hcm
  generalize hnn : l.length = n at *
  have HN := Lib.hid hnn
  clear hnn
  go_enter Try.func37, Try.ntmps37
  go_wp2_with (at_make; refine wpList_make_full _ rfl _ _ _ rfl w.heap.size _ i0 _ 1 Try.underlying22 hi0 hz0 hz1 _ _ _ _ n rfl rfl rfl rfl ?b2 ?b3 ?b4 ?_)
  case b2 => rw [hz2]; omega
  case b3 => unfold maxLen; omega
  case b4 => exact Nat.le_refl _
  intro w1 hown1 hg1
  have hb1 : Below w.heap.size w w1 := below_of_grown hg1 (Nat.le_refl _) (by simp)
  rw [toList_madeCells_one] at hown1
  clear hg1
  go_wp2_with fail
  go_loopw [4] (fun i wr => ∃ k : Nat, k ≤ n ∧ i = .int .i64 k ∧ wr.ownsRow w.heap.size 5 1 (.slice (some ⟨w.heap.size, 0, none⟩) n n) n ((bys l).take k ++ List.replicate (n - k) (.int .u8 0)) ∧ Below w.heap.size w wr)
    (fun i _ => n - (intOf i).toNat)
  case atStart => exact ⟨0, Nat.zero_le _, rfl, by simpa using hown1, hb1⟩
  case round =>
    obtain ⟨k, hk, rfl, hown, hb⟩ := hrel
    clear hown1 hb1
    by_cases hlt : k < n
    · obtain ⟨b, off, rfl, hbl, hcell⟩ := hx (by omega)
      have hkl : k < l.length := by rw [HN.out]; exact hlt
      have hcx : wr.cell? ⟨b, off + k, none⟩ = some (.int .u8 ((l[k]).toNat : Int)) := (hb.cell (p := ⟨b, off + k, none⟩) hbl).trans (hcell k _ (bys_get l k hkl))
      have hco : wr.cell? ⟨w.heap.size, k, none⟩ = some (.int .u8 0) := by
        have ht : ((bys l).take k).length = k := by simp; omega
        rw [hown.cellAt k (by omega), List.getElem?_append_right (by omega), ht, Nat.sub_self, List.getElem?_replicate, if_pos (by omega)]
      have hfr := hown.frozenAt k
      have hst := hown.stored k (.int .u8 ((l[k]).toNat : Int))
      rw [take_set_next (bys l) _ k _ (bys_get l k hkl) (by simp [HN.out]; omega)] at hst
      clear hcell hx
      go_wp2_with fail
      go_roundw
      case rel => exact ⟨k + 1, by omega, by go_num, by simpa [Nat.sub_sub] using hst.1, hb.setCell (Nat.le_refl _) _⟩
      case measure => simp [intOf]; omega
    · obtain rfl : k = n := by omega
      go_wp2_with fail
      go_ret
      refine ⟨_, rfl, ?_, hb⟩
      rw [List.take_of_length_le (by simp [HN.out]), Nat.sub_self] at hown
      simpa [HN.out] using hown

theorem bne_byte {x y : UInt8} (b : Bool) (h : (x != y) = b) : ((x.toNat : Int) != (y.toNat : Int)) = b := by
  subst h
  by_cases e : x = y
  · subst e; simp
  · have : x.toNat ≠ y.toNat := fun h => e (UInt8.toNat_inj.1 h)
    rw [(bne_iff_ne (a := x) (b := y)).2 e, bne_iff_ne]; omega

/-- a bool is returned; old memory is as it was -/
def Tells (w : World) (b : Bool) (e : Ending) (w' : World) : Prop := e = .returned (.bool b) ∧ Below w.heap.size w w'

theorem eq_at {l m : List UInt8} {k : Nat} (hl : k < l.length) (hm : k < m.length) (h : l[k] ≠ m[k]) : (l == m) = false := by
  rw [beq_eq_false_iff_ne]
  intro e; subst e; exact h rfl
theorem eq_all {l m : List UInt8} (hl : l.length = m.length) (h : ∀ i (h1 : i < l.length) (h2 : i < m.length), l[i] = m[i]) : (l == m) = true := by
  rw [beq_iff_eq]; exact List.ext_getElem hl h

set_option maxHeartbeats 400000 in
theorem eqByteS_any (v u : Value) (l m : List UInt8) (w : World) (hv : Seen w v (bys l)) (hu : Seen w u (bys m)) :
    Calls Try.prog 39 #[v, u] w (Tells w (l == m)) := by
  obtain ⟨A, c, rfl, hlc, hcm, hx⟩ := hv
  obtain ⟨A', c', rfl, hlc', hcm', hx'⟩ := hu
  rw [bys_length] at hlc hx hlc' hx'
  simp only [bys_length]
  unfold maxLen at hcm hcm'
  by_cases hlen : l.length = m.length
  · generalize hnn : l.length = n at *
    generalize hmm : m.length = n' at *
    obtain rfl : n = n' := by omega
    have HN := Lib.hid hnn
    have HM := Lib.hid hmm
    clear hnn hmm
    have hbn : ((n : Int) != (n : Int)) = false := by simp
    go_enter Try.func39, Try.ntmps39
    go_wp2_with fail
    go_loopw [5] (fun i wr => ∃ k : Nat, k ≤ n ∧ i = .int .i64 k ∧ Hid (∀ i (h1 : i < l.length) (h2 : i < m.length), i < k → l[i] = m[i]) ∧ Below w.heap.size w wr)
      (fun i _ => n - (intOf i).toNat)
    case atStart => exact ⟨0, Nat.zero_le _, rfl, (fun _ _ _ h => by omega), Below.refl _ _⟩
    case round =>
      obtain ⟨k, hk, rfl, HE, hb⟩ := hrel
      by_cases hlt : k < n
      · obtain ⟨b, off, rfl, hbl, hcell⟩ := hx (by omega)
        obtain ⟨b', off', rfl, hbl', hcell'⟩ := hx' (by omega)
        have hkl : k < l.length := by rw [HN.out]; exact hlt
        have hkm : k < m.length := by rw [HM.out]; exact hlt
        have hcx : wr.cell? ⟨b, off + k, none⟩ = some (.int .u8 ((l[k]).toNat : Int)) := (hb.cell (p := ⟨b, off + k, none⟩) hbl).trans (hcell k _ (bys_get l k hkl))
        have hcy : wr.cell? ⟨b', off' + k, none⟩ = some (.int .u8 ((m[k]).toNat : Int)) := (hb.cell (p := ⟨b', off' + k, none⟩) hbl').trans (hcell' k _ (bys_get m k hkm))
        clear hcell hcell' hx hx'
        have hki : (k : Int) < (n : Int) := by omega
        by_cases hne : l[k] = m[k]
        · have hbb := bne_byte (x := l[k]) (y := m[k]) false (by simp [hne])
          have HK : Hid (∀ i (h1 : i < l.length) (h2 : i < m.length), i < k + 1 → l[i] = m[i]) := fun i h1 h2 h => by
            rcases Nat.lt_or_ge i k with h' | h'
            · exact HE.out i h1 h2 h'
            · obtain rfl : i = k := by omega
              exact hne
          clear hne
          go_wp2_with fail
          go_quiet (fail)
          go_wp2_with fail
          go_roundw
          case rel => exact ⟨k + 1, by omega, by go_num, HK, below_drewN hb _⟩
          case measure => simp [intOf]; omega
        · have hbb := bne_byte (x := l[k]) (y := m[k]) true (by simpa using hne)
          have HF := Lib.hid (eq_at hkl hkm hne)
          clear hne
          go_wp2_with fail
          go_quiet (fail)
          go_wp2_with fail
          go_ret
          exact ⟨by rw [HF.out]; rfl, below_drewN hb _⟩
      · obtain rfl : k = n := by omega
        have HF := Lib.hid (eq_all (l := l) (m := m) (by rw [HN.out, HM.out]) (fun i h1 h2 => HE.out i h1 h2 (by rw [HN.out] at h1; exact h1)))
        go_wp2_with fail
        go_ret
        exact ⟨by rw [HF.out]; rfl, hb⟩
  · have hbn : ((l.length : Int) != (m.length : Int)) = true := by simp; omega
    have HF : Hid ((l == m) = false) := by
      show (l == m) = false
      rw [beq_eq_false_iff_ne]; intro e; exact hlen (by rw [e])
    clear hlen
    generalize l.length = n at *
    generalize m.length = n' at *
    go_enter Try.func39, Try.ntmps39
    go_wp2_with fail
    go_ret
    exact ⟨by rw [HF.out]; rfl, Below.refl _ _⟩

/-- a number is returned, the row that was handed in holds the cells xs, nothing else that was there has turned -/
def Marked (w : World) (E : TypeId) (base : Nat) (v : Value) (xs : List Value) (m : Int) (e : Ending) (w' : World) : Prop :=
  e = .returned (.int .i64 m) ∧ w'.ownsRow base E 1 v xs.length xs ∧ w.grownBy w' v.ownBlock

/-- a number is returned; old memory is as it was -/
def TellsInt (w : World) (m : Int) (e : Ending) (w' : World) : Prop := e = .returned (.int .i64 m) ∧ Below w.heap.size w w'
end Go.Proofs.Ytjgmegfbfjmnfaa
