/- Joined texts: CurBase, CurX, CurY, VitF. -/
import Derived.Test.YtjgmegfbfjmnfaaProg
import Derived.Deep.QuietTactic
import Derived.BigQuiet
import Derived.Test.YtjgmegfbfjmnfaaBd00
import Derived.Test.YtjgmegfbfjmnfaaBd08
import Derived.Test.YtjgmegfbfjmnfaaBd04
import Derived.Laws.IdiomCopy
import Derived.Test.YtjgmegfbfjmnfaaBd06
set_option linter.unusedSimpArgs false
set_option linter.unusedVariables false
/- Contracts of the model's cursor: what it draws is some number; only its own block is written (without bytes). -/
namespace Go.Proofs.Ytjgmegfbfjmnfaa
open Go.RowKit G294

/-- the cursor at block g: its code lies below g, it has moved at most n times -/
def CurAt (w : World) (g : Nat) (cv : Value) (n : Nat) : Prop :=
  ∃ (at_ : Nat) (seed : Int) (l : List UInt8) (A : Option Addr) (c : Nat), w.heap[g]? = some (.cells #[cv, .int .i64 at_, .int .u64 seed] 56 (0, 0)) ∧ at_ ≤ n ∧
    cv = .slice A l.length c ∧ l.length ≤ c ∧ c ≤ maxLen ∧ (0 < l.length → ∃ b off, A = some ⟨b, off, none⟩ ∧ b < g ∧ ∀ i u, (bys l)[i]? = some u → w.cell? ⟨b, off + i, none⟩ = some u)

/-- a number in a range is drawn -/
def Draws (w : World) (g : Nat) (cv : Value) (n : Nat) (lo hi : Int) (e : Ending) (w' : World) : Prop := ∃ r : Int, e = .returned (.int .i64 r) ∧ lo ≤ r ∧ r ≤ hi ∧ CurAt w' g cv n ∧ TurnIn g (g + 1) w w'

theorem draws_end {w : World} {g n at_ c : Nat} {seed s r : Int} {l : List UInt8} {A : Option Addr} (q q' : Nat)
    (hg : w.heap[g]? = some (.cells #[.slice A l.length c, .int .i64 at_, .int .u64 seed] 56 (0, 0))) (hat : at_ ≤ n) (hlc : l.length ≤ c) (hcm : c ≤ maxLen)
    (hx : 0 < l.length → ∃ b off, A = some ⟨b, off, none⟩ ∧ b < g ∧ ∀ i u, (bys l)[i]? = some u → w.cell? ⟨b, off + i, none⟩ = some u) (h0 : 0 ≤ r) (h1 : r ≤ 255) :
    Draws w g (.slice A l.length c) (n + 1) 0 255 (.returned (.int .i64 r)) ((((w.drewN q).setCell ⟨g, 1, none⟩ (.int .i64 ((at_ : Int) + 1))).setCell ⟨g, 2, none⟩ (.int .u64 s)).drewN q') := by
  have e1 : ((((w.drewN q).setCell ⟨g, 1, none⟩ (.int .i64 ((at_ : Int) + 1))).setCell ⟨g, 2, none⟩ (.int .u64 s)).drewN q').heap[g]? = some (.cells #[.slice A l.length c, .int .i64 ((at_ + 1 : Nat) : Int), .int .u64 s] 56 (0, 0)) := by
    have h2 : (w.drewN q).heap[g]? = some (.cells #[.slice A l.length c, .int .i64 at_, .int .u64 seed] 56 (0, 0)) := hg
    have h3 := heap_setCell_same (w.drewN q) g 1 _ _ (.int .i64 ((at_ : Int) + 1)) h2
    have h4 := heap_setCell_same _ g 2 _ _ (.int .u64 s) h3
    exact h4.trans (by simp)
  have hblk : ∀ k, k ≠ g → ((((w.drewN q).setCell ⟨g, 1, none⟩ (.int .i64 ((at_ : Int) + 1))).setCell ⟨g, 2, none⟩ (.int .u64 s)).drewN q').heap[k]? = w.heap[k]? := fun k hk => by
    have h3 := heap_setCell_other (w.drewN q) ⟨g, 1, none⟩ k (.int .i64 ((at_ : Int) + 1)) hk
    have h4 := heap_setCell_other ((w.drewN q).setCell ⟨g, 1, none⟩ (.int .i64 ((at_ : Int) + 1))) ⟨g, 2, none⟩ k (.int .u64 s) hk
    exact h4.trans h3
  refine ⟨r, rfl, h0, h1, ⟨at_ + 1, s, l, A, c, e1, by omega, rfl, hlc, hcm, fun hp => ?_⟩, ⟨rfl, rfl, rfl, ?_, fun k hk hd => hblk k (by omega)⟩⟩
  · obtain ⟨b, off, rfl, hb, hc⟩ := hx hp
    exact ⟨b, off, rfl, hb, fun i u hu => (World.cell?_of_block (a := ⟨b, off + i, none⟩) (hblk b (by omega))).trans (hc i u hu)⟩
  · simp [World.setCell, World.drewN]
theorem wrap64_u8 (x : UInt8) : wrap64 (x.toNat : Int) = (x.toNat : Int) := by
  have := x.toNat_lt
  unfold wrap64; omega
theorem and255 (x : Int) : 0 ≤ wrap64 (bits BinOp.and IntKind.u64 x 255) ∧ wrap64 (bits BinOp.and IntKind.u64 x 255) ≤ 255 := by
  have h : 0 ≤ bits BinOp.and IntKind.u64 x 255 ∧ bits BinOp.and IntKind.u64 x 255 ≤ 255 := by
    show 0 ≤ IntKind.u64.wrap ((BitVec.ofInt 64 x &&& BitVec.ofInt 64 255).toNat : Int) ∧ IntKind.u64.wrap ((BitVec.ofInt 64 x &&& BitVec.ofInt 64 255).toNat : Int) ≤ 255
    have e : (BitVec.ofInt 64 255).toNat = 255 := by decide
    have hle : (BitVec.ofInt 64 x &&& BitVec.ofInt 64 255).toNat ≤ 255 := by
      rw [BitVec.toNat_and, e]; exact Nat.and_le_right
    generalize (BitVec.ofInt 64 x &&& BitVec.ofInt 64 255).toNat = y at *
    have : IntKind.u64.wrap (y : Int) = y := by simp [IntKind.wrap, IntKind.bits, IntKind.signed]; omega
    omega
  generalize bits BinOp.and IntKind.u64 x 255 = y at *
  unfold wrap64; omega

set_option maxHeartbeats 1000000 in
theorem next_any (g : Nat) (cv : Value) (n : Nat) (w : World) (hc : CurAt w g cv n) (hn : n ≤ 1000000000000) :
    Calls Try.prog 69 #[.pointer (some ⟨g, 0, none⟩)] w (Draws w g cv (n + 1) 0 255) := by
  obtain ⟨at_, seed, l, A, c, hg, hat, rfl, hlc, hcm, hx⟩ := hc
  unfold maxLen at hcm
  have hc0 : w.cell? ⟨g, 0, none⟩ = some (.slice A l.length c) := by rw [cell_of_row w g 0 _ _ _ hg]; rfl
  have hc1 : w.cell? ⟨g, 1, none⟩ = some (.int .i64 at_) := by rw [cell_of_row w g 1 _ _ _ hg]; rfl
  have hc2 : w.cell? ⟨g, 2, none⟩ = some (.int .u64 seed) := by rw [cell_of_row w g 2 _ _ _ hg]; rfl
  have hf1 : w.frozen? ⟨g, 1, none⟩ = false := frozen_of_row w g 1 _ _ hg
  have hf2 : w.frozen? ⟨g, 2, none⟩ = false := frozen_of_row w g 2 _ _ hg
  have HG := Lib.hid hg
  clear hg
  by_cases hlt : at_ < l.length
  · obtain ⟨b, off, rfl, hbl, hcell⟩ := hx (by omega)
    have hcx := hcell at_ _ (bys_get l at_ hlt)
    have hd : decide ((at_ : Int) < (l.length : Int)) = true := by simp; omega
    have hli : (at_ : Int) < (l.length : Int) := by omega
    have HX := Lib.hid hcell
    clear hcell hx
    go_enter Try.func69, Try.ntmps69
    go_wp2_with fail
    go_quiet (fail)
    go_wp2_with fail
    go_quiet (fail)
    go_wp2_with fail
    go_quiet (fail)
    go_wp2_with fail
    go_ret
    have hu := l[at_].toNat_lt
    exact draws_end _ _ HG.out hat hlc hcm (fun _ => ⟨b, off, rfl, hbl, HX.out⟩) (by rw [wrap64_u8]; omega) (by rw [wrap64_u8]; omega)
  · have HX := Lib.hid hx
    clear hx
    have hd : decide ((at_ : Int) < (l.length : Int)) = false := by simp; omega
    go_enter Try.func69, Try.ntmps69
    go_wp2_with fail
    go_quiet (fail)
    go_wp2_with fail
    go_quiet (fail)
    go_wp2_with fail
    go_ret
    exact draws_end _ _ HG.out hat hlc hcm HX.out (and255 _).1 (and255 _).2

theorem CurAt.more {w : World} {g : Nat} {cv : Value} {n m : Nat} (h : CurAt w g cv n) (hm : n ≤ m) : CurAt w g cv m := by
  obtain ⟨at_, seed, l, A, c, h1, h2, h3⟩ := h
  exact ⟨at_, seed, l, A, c, h1, by omega, h3⟩
theorem CurAt.lt {w : World} {g : Nat} {cv : Value} {n : Nat} (h : CurAt w g cv n) : g < w.heap.size := by
  obtain ⟨at_, seed, l, A, c, h1, _⟩ := h
  exact (Array.getElem?_eq_some_iff.1 h1).1
theorem CurAt.keep {w w' : World} {g : Nat} {cv : Value} {n a b : Nat} (h : CurAt w g cv n) (t : TurnIn a b w w') (hd : g < a ∨ b ≤ 0) : CurAt w' g cv n := by
  have hl := h.lt
  obtain ⟨at_, seed, l, A, c, h1, h2, h3, h4, h5, h6⟩ := h
  refine ⟨at_, seed, l, A, c, (t.block g hl (by omega)).trans h1, h2, h3, h4, h5, fun hp => ?_⟩
  obtain ⟨b', off, rfl, hb, hc⟩ := h6 hp
  exact ⟨b', off, rfl, hb, fun i u hu => (World.cell?_of_block (a := ⟨b', off + i, none⟩) (t.block b' (by omega) (by omega))).trans (hc i u hu)⟩

/-- what pick may answer at most -/
def pickHi (n : Int) : Int := if n ≤ 1 then 0 else n - 1

set_option maxHeartbeats 1000000 in
theorem pick_any (g : Nat) (cv : Value) (m : Nat) (n : Int) (w : World) (hc : CurAt w g cv m) (hm : m ≤ 100000000000) :
    Calls Try.prog 60 #[.pointer (some ⟨g, 0, none⟩), .int .i64 n] w (Draws w g cv (m + 2) 0 (pickHi n)) := by
  by_cases h1 : n ≤ 1
  · have HP : Hid (pickHi n = 0) := if_pos h1
    go_enter Try.func60, Try.ntmps60
    go_wp2_with fail
    go_ret
    exact ⟨0, rfl, by omega, by rw [HP.out]; omega, hc.more (by omega), ⟨rfl, rfl, rfl, Nat.le_refl _, fun _ _ _ => rfl⟩⟩
  · have HP : Hid (pickHi n = n - 1) := if_neg h1
    by_cases h2 : 200 < n
    · go_enter Try.func60, Try.ntmps60
      go_wp2_with fail
      refine (next_any g cv m _ hc (by omega)).mono ?_
      rintro e w1 ⟨x, rfl, x0, x1, hc1, k1⟩
      go_wp2_with fail
      refine (next_any g cv (m + 1) _ hc1 (by omega)).mono ?_
      rintro e w2 ⟨y, rfl, y0, y1, hc2, k2⟩
      have hn0 : (n == 0) = false := by simp; omega
      have HR := Lib.hid (Int.emod_nonneg (x * 256 + y) (show n ≠ 0 by omega))
      have HL := Lib.hid (Int.emod_lt_of_pos (x * 256 + y) (show 0 < n by omega))
      go_wp2_with fail
      go_ret
      refine ⟨(x * 256 + y) % n, rfl, HR.out, by rw [HP.out]; have := HL.out; omega, hc2, turn_trans k1 k2 (by omega)⟩
    · go_enter Try.func60, Try.ntmps60
      go_wp2_with fail
      refine (next_any g cv m _ hc (by omega)).mono ?_
      rintro e w1 ⟨x, rfl, x0, x1, hc1, k1⟩
      have hn0 : (n == 0) = false := by simp; omega
      have HR := Lib.hid (Int.emod_nonneg x (show n ≠ 0 by omega))
      have HL := Lib.hid (Int.emod_lt_of_pos x (show 0 < n by omega))
      go_wp2_with fail
      go_ret
      exact ⟨x % n, rfl, HR.out, by rw [HP.out]; have := HL.out; omega, hc1.more (by omega), k1⟩

/-- a bool is drawn -/
def DrawsB (w : World) (g : Nat) (cv : Value) (n : Nat) (e : Ending) (w' : World) : Prop := ∃ b : Bool, e = .returned (.bool b) ∧ CurAt w' g cv n ∧ TurnIn g (g + 1) w w'

set_option maxHeartbeats 400000 in
theorem one_any (g : Nat) (cv : Value) (m : Nat) (n : Int) (w : World) (hc : CurAt w g cv m) (hm : m ≤ 100000000000) :
    Calls Try.prog 48 #[.pointer (some ⟨g, 0, none⟩), .int .i64 n] w (DrawsB w g cv (m + 2)) := by
  go_enter Try.func48, Try.ntmps48
  go_wp2_with fail
  refine (pick_any g cv m n _ hc hm).mono ?_
  rintro e w1 ⟨x, rfl, x0, x1, hc1, k1⟩
  go_wp2_with fail
  go_ret
  exact ⟨_, rfl, hc1, k1⟩

/-- one of some numbers is drawn -/
def DrawsOf (w : World) (g : Nat) (cv : Value) (n : Nat) (l : List Int) (e : Ending) (w' : World) : Prop := ∃ r : Int, e = .returned (.int .i64 r) ∧ r ∈ l ∧ CurAt w' g cv n ∧ TurnIn g (g + 1) w w'

/-- a new cursor -/
theorem cur_new {w : World} {v : Value} {l : List UInt8} (hv : Seen w v (bys l)) : CurAt (w.alloc (.cells #[v, .int .i64 0, .int .u64 0] 56)) w.heap.size v 0 := by
  obtain ⟨A, c, rfl, hlc, hcm, hx⟩ := hv
  rw [bys_length] at hlc hx ⊢
  refine ⟨0, 0, l, A, c, heap_alloc_new w _, Nat.le_refl _, rfl, hlc, hcm, fun hp => ?_⟩
  obtain ⟨b, off, rfl, hb, hc⟩ := hx hp
  exact ⟨b, off, rfl, hb, fun i u hu => (World.cell?_alloc_lt w _ ⟨b, off + i, none⟩ hb).trans (hc i u hu)⟩

theorem turn_own {B : Nat} {w w' : World} {e : TypeId} {size n : Nat} {v : Value} {xs : List Value} (hown : w.ownsRow B e size v n xs) (hg : w.grownBy w' v.ownBlock) : TurnIn B w.heap.size w w' :=
  TurnIn.of_grown hg fun g h => hown.lt g h

end Go.Proofs.Ytjgmegfbfjmnfaa

/- Chapter 10: the cursor's bits, received strings and places. -/
namespace G294
open Go Go.RowKit
/-- bytes in a block that a conversion made, with room behind them -/
structure BytB (W : World) (B cp : Nat) (l : List UInt8) : Prop where
  lt : B < W.heap.size
  cell : ∀ j, j < l.length → W.cell? ⟨B, j, none⟩ = some (.int .u8 ((l.getD j 0).toNat : Int))
  is : ∀ j, j < cp → (W.cell? ⟨B, j, none⟩).isSome = true
  free : ∀ j, j < cp → W.frozen? ⟨B, j, none⟩ = false
  le : l.length ≤ cp
  mx : cp ≤ maxLen
theorem BytB.keep {W W' : World} {B cp a b : Nat} {l : List UInt8} (h : BytB W B cp l) (t : TurnIn a b W W') (d : B < a ∨ b ≤ B) : BytB W' B cp l := by
  have e := t.block B h.lt (by omega)
  exact ⟨Nat.lt_of_lt_of_le h.lt t.size, fun j hj => (World.cell?_of_block e).trans (h.cell j hj), fun j hj => by rw [World.cell?_of_block e]; exact h.is j hj, fun j hj => (World.frozen?_of_block e).trans (h.free j hj), h.le, h.mx⟩
theorem BytB.store {W : World} {B cp q : Nat} {l l' : List UInt8} {x : UInt8} (h : BytB W B cp l) (hq : q < l.length) (e : l.set q x = l') : BytB (W.setCell ⟨B, q, none⟩ (.int .u8 (x.toNat : Int))) B cp l' := by
  subst e
  have hs : ∀ j, (W.setCell ⟨B, q, none⟩ (.int .u8 (x.toNat : Int))).cell? ⟨B, j, none⟩ = if j = q then some (.int .u8 (x.toNat : Int)) else W.cell? ⟨B, j, none⟩ := fun j => by
    by_cases hj : j = q
    · subst hj
      rw [if_pos rfl]
      exact World.cell?_setCell_same W ⟨B, j, none⟩ _ (h.cell j hq)
    · rw [if_neg hj]
      exact World.cell?_setCell_other _ _ _ _ (by simp <;> exact fun h => hj h.symm)
  refine ⟨by simpa using h.lt, fun j hj => ?_, fun j hj => ?_, fun j hj => by simpa using h.free j hj, by simpa using h.le, h.mx⟩
  · rw [List.length_set] at hj
    rw [hs j]
    by_cases e : j = q
    · subst e; rw [if_pos rfl]; simp [List.getD, hj]
    · rw [if_neg e, h.cell j hj]; simp [List.getD, List.getElem?_set, show ¬ q = j from fun h => e h.symm]
  · rw [hs j]
    split
    · rfl
    · exact h.is j hj
theorem BytB.seen {W : World} {B cp : Nat} {l : List UInt8} (h : BytB W B cp l) : Seen W (.slice (some ⟨B, 0, none⟩) l.length cp) (bys l) := by
  refine ⟨some ⟨B, 0, none⟩, cp, by rw [bys_length], by rw [bys_length]; exact h.le, h.mx, fun _ => ⟨B, 0, rfl, h.lt, fun i u hu => ?_⟩⟩
  have hi : i < l.length := by
    rcases Nat.lt_or_ge i l.length with h | h
    · exact h
    · rw [List.getElem?_eq_none (by simpa using h)] at hu; cases hu
  rw [bys_get l i hi] at hu
  cases hu
  rw [Nat.zero_add, h.cell i hi]; simp [List.getD, hi]
theorem bytb_of_str {P : Program} (w : World) (src dst e : TypeId) (l : List UInt8) (hs : P.underlying src = some .string) (hd : P.underlying dst = some (.slice e)) (he : P.underlying e = some (.int .u8)) (hl : l.length ≤ maxLen) :
    ∃ cp w1, (convert src dst (.string (str l))).run P w = .ok (.slice (some ⟨w.heap.size, 0, none⟩) l.length cp) w1 ∧ BytB w1 w.heap.size cp l ∧ TurnIn 0 0 w w1 := by
  have h := Lib.run_convert_string_bytes (P := P) w src dst e (str l) hs hd he
  rw [str_size] at h
  have hge := grownCap_ge w l.length 0 e
  have hsz : (Lib.bytesCells w e (str l)).size = grownCap w l.length 0 e := by
    have e1 : (Lib.bytesCells w e (str l)).size = (str l).data.size + (grownCap w (str l).size 0 e - (str l).size) := by simp [Lib.bytesCells]
    have e2 : (str l).data.size = l.length := by show l.toArray.size = _; simp
    rw [str_size] at e1
    omega
  refine ⟨_, _, h, ⟨by rw [Lib.bytesWorld_size]; omega, fun j hj => ?_, fun j hj => ?_, fun j hj => ?_, hge, grownCap_le_maxLen _ _ _ _ hl⟩, TurnIn.of_below ⟨rfl, rfl, rfl, by rw [Lib.bytesWorld_size]; omega, fun k hk => Lib.bytesWorld_at_old _ _ _ _ hk⟩⟩
  · have := Lib.bytesWorld_cell w e (str l) j (by rw [str_size]; exact hj)
    rw [this]; rfl
  · have hj2 : j < (Lib.bytesCells w e (str l)).size := by rw [hsz]; exact hj
    simp [World.cell?, Lib.bytesWorld_at_new, hj2]
  · simp only [World.frozen?, Lib.bytesWorld_at_new]
    simp; omega
/-- one byte more behind such bytes -/
theorem run_append_bytb {P : Program} {w : World} {B cp : Nat} {l : List UInt8} (h : BytB w B cp l) (t ty e : TypeId) (i : TypeInfo) (z : Value) (ht : P.underlying t = some (.slice e)) (hi : P.info? e = some i) (hz : i.zero = some z) (hsize : i.size = 1) (hby : i.bytes ≤ 1000) (hzs : z.cells.size = 1)
    (a : Addr) (c : Nat) (x : UInt8) (hx : w.cell? a = some (.int .u8 (x.toNat : Int))) (hl : l.length ≤ 1000000) :
    ∃ A' c' w', (Builtin.append_ #[t, t] ty #[.slice (some ⟨B, 0, none⟩) l.length cp, .slice (some a) 1 c]).run P w = .ok (.slice A' (l.length + 1) c') w' ∧ Seen w' (.slice A' (l.length + 1) c') (bys (l ++ [x])) ∧ TurnIn B (B + 1) w w' := by
  have hnews : ∀ j v, [Value.int .u8 (x.toNat : Int)][j]? = some v → w.cell? (a.add j) = some v := by
    intro j v hj
    match j, hj with
    | 0, hj =>
      simp only [List.getElem?_cons_zero, Option.some.injEq] at hj
      subst hj
      simpa [Addr.add] using hx
  by_cases hroom : l.length + 1 ≤ cp
  · have hf := run_firstCells_some (P := P) w i.size 1 a 1 c [.int .u8 (x.toNat : Int)] (by rw [hsize]; rfl) hnews
    have hst := run_storeCells_cells (P := P) B l.length [.int .u8 (x.toNat : Int)] 0 w (fun j hj => h.is _ (by simp at hj; omega)) (fun j hj => h.free _ (by simp at hj; omega)) (by simp [Value.oneCell'])
    simp only [Nat.add_zero, World.setCells] at hst
    have hr : (Builtin.append_ #[t, t] ty #[.slice (some ⟨B, 0, none⟩) l.length cp, .slice (some a) 1 c]).run P w = .ok (.slice (some ⟨B, 0, none⟩) (l.length + 1) cp) (w.setCell ⟨B, l.length, none⟩ (.int .u8 (x.toNat : Int))) := by
      rw [hsize] at hf
      simp [Builtin.append_, run_underlying ht, Go.sizeOf, typeInfo, hi, hsize, Builtin.lenOf, hroom, hf, Addr.add_lit, hst]
    refine ⟨_, _, _, hr, ⟨some ⟨B, 0, none⟩, cp, by simp, by simpa using hroom, h.mx, fun _ => ⟨B, 0, rfl, by simpa using h.lt, fun j u hu => ?_⟩⟩, turn_setCell _ _ _ _⟩
    have hj : j < (l ++ [x]).length := by
      rcases Nat.lt_or_ge j (l ++ [x]).length with h | h
      · exact h
      · rw [List.getElem?_eq_none (by simpa using h)] at hu; cases hu
    rw [bys_get _ j hj] at hu
    cases hu
    rw [Nat.zero_add]
    by_cases e : j = l.length
    · subst e
      have hc : (w.cell? ⟨B, l.length, none⟩).isSome = true := h.is _ (by omega)
      obtain ⟨u, hu⟩ := Option.isSome_iff_exists.1 hc
      rw [World.cell?_setCell_same w ⟨B, l.length, none⟩ _ hu]; simp
    · have hj2 : j < l.length := by simp at hj; omega
      rw [World.cell?_setCell_other _ _ _ _ (by simp <;> exact fun h => e h.symm), h.cell j hj2, getD_len hj2, List.getElem_append_left hj2]
  · have hcp : cp = l.length := by have := h.le; omega
    have hgl := grownCap_ge w (l.length + 1) cp e
    have hcm : grownCap w (l.length + 1) cp e ≤ maxLen := grownCap_le_maxLen w (l.length + 1) cp e (by unfold maxLen; omega)
    have hb : (l.length + 1) * i.bytes ≤ 140737488355328 := by
      have : (l.length + 1) * i.bytes ≤ 1000001 * 1000 := Nat.mul_le_mul (by omega) hby
      omega
    have hr := run_append_grow (P := P) w t ty e i z ht hi hz ⟨B, 0, none⟩ l.length cp (bys l) (by rw [hsize]; simp) (fun j v hj => by
      have hjl : j < l.length := by
        rcases Nat.lt_or_ge j l.length with h | h
        · exact h
        · rw [List.getElem?_eq_none (by simpa using h)] at hj; cases hj
      rw [bys_get l j hjl] at hj
      cases hj
      rw [Addr.add_lit, Nat.zero_add, h.cell j hjl, getD_len hjl]) a 1 c [.int .u8 (x.toNat : Int)] (by rw [hsize]; rfl) hnews (by omega) (by omega) (growslice_fits (by omega) hb)
    have hown : (w.drew.alloc (.cells ((bys l).toArray ++ [Value.int .u8 (x.toNat : Int)].toArray ++ Builtin.zeroCells z.cells (grownCap w (l.length + 1) cp e - (l.length + 1))) e)).ownsRow 0 e 1 (.slice (some ⟨w.heap.size, 0, none⟩) (l.length + 1) (grownCap w (l.length + 1) cp e)) (l.length + 1) (bys (l ++ [x])) := by
      refine ⟨by simp, .inr ⟨w.heap.size, _, _, rfl, Nat.zero_le _, heap_alloc_new w.drew _, hgl, hcm, ?_, ?_⟩⟩
      · simp only [Array.size_append, List.size_toArray, size_zeroCells, hzs, bys_length]
        simp; omega
      · have e1 : bys (l ++ [x]) = bys l ++ [Value.int .u8 (x.toNat : Int)] := by simp [bys]
        rw [e1]
        have e2 : (bys l ++ [Value.int .u8 (x.toNat : Int)]).length = (l.length + 1) * 1 := by simp
        simp only [Array.toList_append]
        rw [← e2]
        exact List.take_left
    exact ⟨_, _, _, hr, Seen.of_own hown, ⟨rfl, rfl, rfl, by simp, fun k hk _ => Go.heap_alloc_old w.drew _ hk⟩⟩
end G294
namespace Go.Proofs.Ytjgmegfbfjmnfaa
open Go.RowKit G294

/-- some ints are drawn -/
def DrawsIntX (w : World) (g : Nat) (cv : Value) (m : Nat) (e : Ending) (w' : World) : Prop := ∃ (v : Value) (l : List Int), e = .returned v ∧ w'.ownsRow w.heap.size 3 1 v l.length (ints l) ∧ CurAt w' g cv m ∧ TurnIn g (g + 1) w w'

set_option maxRecDepth 100000 in
set_option maxHeartbeats 2000000 in
theorem chosenX_any (g : Nat) (cv : Value) (m n many : Nat) (w : World) (hc : CurAt w g cv m) (hm : m ≤ 1000000) (hn : n ≤ 1000) (hmm : many ≤ 1000) :
    Calls Try.prog 59 #[.pointer (some ⟨g, 0, none⟩), .int .i64 n, .int .i64 many] w (DrawsIntX w g cv (m + 2 * n)) := by
  have hgw := hc.lt
  go_enter Try.func59, Try.ntmps59
  go_wp2_with fail
  go_loopw [7, 8] (fun o y wr => ∃ (k : Nat) (l : List Int), k ≤ n ∧ y = .int .i64 k ∧ l.length ≤ k ∧ wr.ownsRow w.heap.size 3 1 o l.length (ints l) ∧ CurAt wr g cv (m + 2 * k) ∧ TurnIn g (g + 1) w wr)
    (fun _ y _ => n - (intOf y).toNat)
  case atStart => exact ⟨0, [], Nat.zero_le _, rfl, Nat.zero_le _, World.ownsRow_nil _ _ _ _, hc.more (by omega), ⟨rfl, rfl, rfl, Nat.le_refl _, fun _ _ _ => rfl⟩⟩
  case round =>
    obtain ⟨k, l, hk, rfl, hlk, hown, hcr, kr⟩ := hrel
    have hsr := kr.size
    have hgr := hcr.lt
    obtain ⟨A7, n7, c7, rfl⟩ := own_isSlice hown
    have hn7 : n7 = l.length := by
      rcases hown.2 with ⟨hh, h0⟩ | ⟨g', c', cur, hh, _⟩
      · simp at hh; omega
      · simp at hh; exact hh.2.1
    subst hn7
    generalize hz : l.length = z at *
    have HZ := Lib.hid hz
    clear hz
    by_cases hlt : k < n
    · have hki : (k : Int) < (n : Int) := by omega
      have hkd : decide ((k : Int) < (n : Int)) = true := by simpa using hki
      by_cases hlm : z < many
      · have hzi : (z : Int) < (many : Int) := by omega
        have hzd : decide ((z : Int) < (many : Int)) = true := by simpa using hzi
        have HT : Hid (∀ W (v' : Value) (w' : World), CurAt W g cv (m + 2 * (k + 1)) → TurnIn g (g + 1) w W → W.ownsRow w.heap.size 3 1 (.slice A7 z c7) z (ints l) → w'.ownsRow w.heap.size 3 1 v' (z + 1) (ints l ++ [.int .i64 k]) → World.grownBy (W.alloc (.cells #[.int .i64 k] 3)) w' (Value.slice A7 z c7).ownBlock → w'.ownsRow w.heap.size 3 1 v' (l ++ [(k : Int)]).length (ints (l ++ [(k : Int)])) ∧ CurAt w' g cv (m + 2 * (k + 1)) ∧ TurnIn g (g + 1) w w') := Lib.hid (fun W v' w' hcW kW hoW ho hg => by
          have sW := kW.size
          have ka := turn_alloc W (.cells #[.int .i64 (k : Int)] 3)
          have ko := turn_own (hoW.alloc (.cells #[.int .i64 (k : Int)] 3)) hg
          have sA := ka.size
          exact ⟨by rw [ints_append, List.length_append, HZ.out]; exact ho, (hcW.keep ka (by omega)).keep ko (by omega), turn_trans (turn_trans kW ka (by omega)) ko (by omega)⟩)
        by_cases hq : n - k ≤ many - z
        · have hd1 : decide ((n : Int) - (k : Int) ≤ (many : Int) - (z : Int)) = true := by simp; omega
          go_wp2_with (at_builtin; refine wpList_append1 rfl _ _ _ rfl w.heap.size 3 _ _ Try.underlying36 infoInt rfl _ z _ rfl (hown.alloc _) wr.heap.size (.int .i64 k) rfl ?c1 rfl ?c2 ?c3 ?c4 ?_)
          case c1 => simp
          case c2 => omega
          case c3 => omega
          case c4 => simp; omega
          intro v' w' hown' hg' _
          obtain ⟨h1, h2, h3⟩ := HT.out _ _ _ (hcr.more (by omega)) kr hown hown' hg'
          have HL1 : Hid ((l ++ [(k : Int)]).length ≤ k + 1) := Lib.hid (by rw [List.length_append, HZ.out]; simp; omega)
          clear hown hown' hg' HT
          go_wp2_with fail
          go_roundw
          case rel => exact ⟨k + 1, l ++ [(k : Int)], by omega, by go_num, HL1.out, h1, h2, h3⟩
          case measure => simp [intOf]; omega
        · have hd1 : decide ((n : Int) - (k : Int) ≤ (many : Int) - (z : Int)) = false := by simp; omega
          go_wp2_with fail
          refine (one_any g cv _ 2 _ hcr (by omega)).mono ?_
          rintro e w1 ⟨b, rfl, hc1, k1⟩
          have s1 := k1.size
          have hown1 : w1.ownsRow w.heap.size 3 1 (.slice A7 z c7) z (ints l) := by
            refine ⟨hown.1, ?_⟩
            rcases hown.2 with hn | ⟨g', cap, cur, e1, hbg, hg', rest⟩
            · exact .inl hn
            · refine .inr ⟨g', cap, cur, e1, hbg, ?_, rest⟩
              rw [k1.block g' (Array.getElem?_eq_some_iff.1 hg').1 (by omega)]
              exact hg'
          have k01 := turn_trans kr k1 (by omega)
          cases b
          · have HO1 : Hid (w1.ownsRow w.heap.size 3 1 (.slice A7 z c7) l.length (ints l)) := Lib.hid (by rw [HZ.out]; exact hown1)
            have HL1 : Hid (l.length ≤ k + 1) := Lib.hid (by rw [HZ.out]; omega)
            clear hown hown1 HT
            go_wp2_with fail
            go_roundw
            case rel => exact ⟨k + 1, l, by omega, by go_num, HL1.out, HO1.out, hc1.more (by omega), k01⟩
            case measure => simp [intOf]; omega
          · go_wp2_with (at_builtin; refine wpList_append1 rfl _ _ _ rfl w.heap.size 3 _ _ Try.underlying36 infoInt rfl _ z _ rfl (hown1.alloc _) w1.heap.size (.int .i64 k) rfl ?c1 rfl ?c2 ?c3 ?c4 ?_)
            case c1 => simp
            case c2 => omega
            case c3 => omega
            case c4 => simp; omega
            intro v' w' hown' hg' _
            obtain ⟨h1, h2, h3⟩ := HT.out _ _ _ (hc1.more (by omega)) k01 hown1 hown' hg'
            have HL1 : Hid ((l ++ [(k : Int)]).length ≤ k + 1) := Lib.hid (by rw [List.length_append, HZ.out]; simp; omega)
            clear hown hown1 hown' hg' HT
            go_wp2_with fail
            go_roundw
            case rel => exact ⟨k + 1, l ++ [(k : Int)], by omega, by go_num, HL1.out, h1, h2, h3⟩
            case measure => simp [intOf]; omega
      · have hzi : ¬ (z : Int) < (many : Int) := by omega
        have hzd : decide ((z : Int) < (many : Int)) = false := by simpa using hzi
        have HO1 : Hid (wr.ownsRow w.heap.size 3 1 (.slice A7 z c7) l.length (ints l)) := Lib.hid (by rw [HZ.out]; exact hown)
        go_wp2_with fail
        go_ret
        exact ⟨_, l, rfl, HO1.out, hcr.more (by omega), kr⟩
    · have hki : ¬ (k : Int) < (n : Int) := by omega
      have hkd : decide ((k : Int) < (n : Int)) = false := by simpa using hki
      have HO1 : Hid (wr.ownsRow w.heap.size 3 1 (.slice A7 z c7) l.length (ints l)) := Lib.hid (by rw [HZ.out]; exact hown)
      go_wp2_with fail
      go_ret
      exact ⟨_, l, rfl, HO1.out, hcr.more (by omega), kr⟩

/-- some bits are drawn -/
def DrawsBits (w : World) (g : Nat) (cv : Value) (m n : Nat) (e : Ending) (w' : World) : Prop := ∃ s : List UInt8, e = .returned (.string (str s)) ∧ s.length = n ∧ s.all isBitC = true ∧ CurAt w' g cv m ∧ TurnIn g (g + 1) w w'

set_option maxRecDepth 100000 in
set_option maxHeartbeats 1000000 in
theorem bits_any (g : Nat) (cv : Value) (m n : Nat) (w : World) (hc : CurAt w g cv m) (hm : m ≤ 1000000) (hn : n ≤ 1000) :
    Calls Try.prog 46 #[.pointer (some ⟨g, 0, none⟩), .int .i64 n] w (DrawsBits w g cv (m + 2 * n) n) := by
  have hgw := hc.lt
  go_enter Try.func46, Try.ntmps46
  go_wp2_with fail
  go_loopw [1, 5] (fun y o wr => ∃ (k : Nat) (s : List UInt8), k ≤ n ∧ y = .int .i64 k ∧ o = .string (str s) ∧ Hid (s.length + k = n) ∧ Hid (s.all isBitC = true) ∧ CurAt wr g cv (m + 2 * (n - k)) ∧ TurnIn g (g + 1) w wr)
    (fun y _ _ => (intOf y).toNat)
  case atStart => exact ⟨n, [], Nat.le_refl _, rfl, rfl, by show 0 + n = n; omega, Lib.hid rfl, hc.more (by omega), ⟨rfl, rfl, rfl, Nat.le_refl _, fun _ _ _ => rfl⟩⟩
  case round =>
    obtain ⟨k, s, hk, rfl, rfl, HL, HB, hcr, kr⟩ := hrel
    have hsr := kr.size
    by_cases hlt : 0 < k
    · have hki : (0 : Int) < (k : Int) := by omega
      have hz1 : (str s).size ≤ 1000 := by rw [str_size]; have := HL.out; omega
      go_wp2_with fail
      refine (pick_any g cv _ 2 _ hcr (by omega)).mono ?_
      rintro e w1 ⟨x, rfl, x0, x1, hc1, k1⟩
      have hx2 : x ≤ 1 := by simpa [pickHi] using x1
      obtain ⟨b, rfl⟩ := Int.eq_ofNat_of_zero_le x0
      have hb2 : b < 2 := by omega
      clear x1 x0
      go_wp2_with fail
      refine (l10Bit_own b _ hb2).mono ?_
      rintro e w2 ⟨rfl, k2⟩
      have hz2 : (str [chB b]).size = 1 := by rw [str_size]; rfl
      have hz3 : ¬ 9223372036854775807 < (str s).size + 1 := by omega
      have hap : str s ++ str [chB b] = str (s ++ [chB b]) := str_append _ _
      have HL2 : Hid ((s ++ [chB b]).length + (k - 1) = n) := by show _ = _; have := HL.out; rw [List.length_append, List.length_singleton]; omega
      have HB2 : Hid ((s ++ [chB b]).all isBitC = true) := by show _ = _; rw [List.all_append, HB.out]; simp [isBit_chB hb2]
      have hc2 := hc1.keep k2 (by omega)
      have k3 := turn_trans (turn_trans kr k1 (by omega)) k2 (by omega)
      have HC2 := Lib.hid (hc2.more (show _ ≤ m + 2 * (n - (k - 1)) by omega))
      have HK3 := Lib.hid k3
      clear hc2 k3 hc1 k1 k2 hcr kr
      generalize s ++ [chB b] = s2 at *
      go_wp2_with fail
      go_roundw
      case rel => exact ⟨k - 1, s2, by omega, by go_num, by first | rfl | rw [hap], HL2, HB2, HC2.out, HK3.out⟩
      case measure => simp [intOf]; omega
    · obtain rfl : k = 0 := by omega
      have hki : ¬ (0 : Int) < ((0 : Nat) : Int) := by omega
      go_wp2_with fail
      go_ret
      exact ⟨s, rfl, HL.out, HB.out, hcr.more (by omega), kr⟩

set_option maxHeartbeats 400000 in
theorem few_any (g : Nat) (cv : Value) (m : Nat) (w : World) (hc : CurAt w g cv m) (hm : m ≤ 1000000) :
    Calls Try.prog 47 #[.pointer (some ⟨g, 0, none⟩)] w (Draws w g cv (m + 4) 0 31) := by
  go_enter Try.func47, Try.ntmps47
  go_wp2_with fail
  refine (one_any g cv m 20 _ hc (by omega)).mono ?_
  rintro e w1 ⟨b, rfl, hc1, k1⟩
  cases b
  · go_wp2_with fail
    refine (pick_any g cv _ 8 _ hc1 (by omega)).mono ?_
    rintro e w2 ⟨r, rfl, r0, r1, hc2, k2⟩
    have hr : r ≤ 7 := by simpa [pickHi] using r1
    clear r1
    go_wp2_with fail
    go_ret
    exact ⟨r, rfl, r0, by omega, hc2, turn_trans k1 k2 (by omega)⟩
  · go_wp2_with fail
    refine (pick_any g cv _ 2 _ hc1 (by omega)).mono ?_
    rintro e w2 ⟨r, rfl, r0, r1, hc2, k2⟩
    have hr : r ≤ 1 := by simpa [pickHi] using r1
    clear r1
    go_wp2_with fail
    go_ret
    exact ⟨30 + r, rfl, by omega, by omega, hc2, turn_trans k1 k2 (by omega)⟩

end Go.Proofs.Ytjgmegfbfjmnfaa

/- Chapter 10: the cursor's received strings; the draws of FnViterbi and FnFree. -/
namespace Go.Proofs.Ytjgmegfbfjmnfaa
open Go.RowKit G294

/-- some text is drawn -/
def DrawsTx (w : World) (g : Nat) (cv : Value) (m : Nat) (e : Ending) (w' : World) : Prop := ∃ r : List UInt8, e = .returned (.string (str r)) ∧ r.length ≤ 100 ∧ CurAt w' g cv m ∧ TurnIn g (g + 1) w w'

set_option maxRecDepth 100000 in
set_option maxHeartbeats 2000000 in
theorem received_any (g : Nat) (cv : Value) (m : Nat) (w : World) (hc : CurAt w g cv m) (hm : m ≤ 100000) :
    Calls Try.prog 40 #[.pointer (some ⟨g, 0, none⟩)] w (DrawsTx w g cv (m + 40)) := by
  obtain ⟨i0, hi0, hz0, hz1, hz2⟩ := info_parts infoByte
  have hgw := hc.lt
  go_enter Try.func40, Try.ntmps40
  go_wp2_with fail
  refine (pick_any g cv m 9 _ hc (by omega)).mono ?_
  rintro e w1 ⟨n, rfl, n0, n1, hc1, k1⟩
  have hn8 : n ≤ 8 := by simpa [pickHi] using n1
  obtain ⟨n, rfl⟩ := Int.eq_ofNat_of_zero_le n0
  have hg1 := hc1.lt
  clear n1 n0
  go_wp2_with fail
  refine (bits_any g cv _ n _ hc1 (by omega) (by omega)).mono ?_
  rintro e w2 ⟨s, rfl, hsl, hsb, hc2, k2⟩
  have hok : encOk10 s = true := by simp [encOk10, bitsOk, hsb]; omega
  have HOK := Lib.hid hok
  have HEL := Lib.hid (encR10_len hok)
  have HSE := Lib.hid (fun W => sEncodeBits_own s W (by omega))
  have HSL := Lib.hid hsl
  clear hsl hsb hok
  go_wp2_with fail
  refine (HSE.out _).mono ?_
  rintro e w3 ⟨rfl, k3⟩
  rw [HOK.out]
  have hg2 := hc2.lt
  have hc3 := hc2.keep k3 (by omega)
  have k03 := turn_trans (turn_trans k1 k2 (by omega)) k3 (by omega)
  generalize encR10 s = t at *
  obtain ⟨N, hN⟩ : ∃ N, N = t.length := ⟨_, rfl⟩
  have hNb : N = 3 * (n + 2) := by rw [hN, HEL.out, HSL.out]
  obtain ⟨cp, w4, hcv, hby, k4⟩ := bytb_of_str (P := Try.prog) w3 9 22 5 t Try.underlying9 Try.underlying22 Try.underlying5 (by unfold maxLen; omega)
  have hcp1 := hby.le
  have hcp2 := hby.mx
  unfold maxLen at hcp2
  rw [← hN] at hcv hcp1
  have hg3 := hc3.lt
  have hc4 := hc3.keep k4 (by omega)
  have k04 := turn_trans k03 k4 (by omega)
  have HB4 : Hid (t.length = N ∧ BytB w4 w3.heap.size cp t) := ⟨hN.symm, hby⟩
  have hlt3 : g < w3.heap.size := hg3
  have hww : w.heap.size ≤ w3.heap.size := k03.size
  have HN := Lib.hid hN
  clear hby hN hc3 hc2 hc1 k03 k3 k2 k1 k4
  have hN6 : 6 ≤ N := by omega
  have hN30 : N ≤ 30 := by omega
  clear hNb
  go_wp2_with fail
  obtain ⟨B, hB⟩ : ∃ B, B = w3.heap.size := ⟨_, rfl⟩
  rw [← hB] at HB4 hlt3 hww ⊢
  clear hB hcv
  refine (pick_any g cv _ 4 _ hc4 (by omega)).mono ?_
  rintro e w5 ⟨z, rfl, z0, z1, hc5, k5⟩
  have hz3 : z ≤ 3 := by simpa [pickHi] using z1
  obtain ⟨z, rfl⟩ := Int.eq_ofNat_of_zero_le z0
  have HB5 : Hid (t.length = N ∧ BytB w5 B cp t) := ⟨HB4.out.1, HB4.out.2.keep k5 (by omega)⟩
  have HK5 := Lib.hid (turn_trans k04 k5 (by omega))
  have HC5 : Hid (CurAt w5 g cv (m + 30 - 2 * z)) := hc5.more (by omega)
  clear HB4 hc4 hc5 k04 k5 z1 z0
  go_wp2_with fail
  go_loopw [6] (fun y wr => ∃ (z : Nat) (l : List UInt8), z ≤ 3 ∧ y = .int .i64 z ∧ Hid (l.length = N ∧ BytB wr B cp l) ∧ Hid (CurAt wr g cv (m + 30 - 2 * z)) ∧ Hid (TurnIn g (g + 1) w wr)) (fun y _ => (intOf y).toNat)
  case atStart => exact ⟨z, t, by omega, rfl, HB5, HC5, HK5⟩
  case round =>
    obtain ⟨z, l, hz, rfl, HBl, HCl, HKl⟩ := hrel
    clear HB5 HC5 HK5
    have hNd : decide ((0 : Int) < (N : Int)) = true := by simp; omega
    by_cases hlt : 0 < z
    · have hzd : decide ((0 : Int) < (z : Int)) = true := by simpa using hlt
      have hzi : (0 : Int) < (z : Int) := by omega
      go_wp2_with fail
      refine (pick_any g cv _ N _ HCl.out (by omega)).mono ?_
      rintro e w6 ⟨x, rfl, x0, x1, hc6, k6⟩
      have hxN : x < N := by
        unfold pickHi at x1
        split at x1 <;> omega
      obtain ⟨q, rfl⟩ := Int.eq_ofNat_of_zero_le x0
      have hqN : q < N := by omega
      have hb6 := HBl.out.2.keep k6 (by omega)
      have hll := HBl.out.1
      have hcs := hb6.cell q (by rw [hll]; exact hqN)
      have hfr := hb6.free q (by omega)
      have HK6 := turn_trans HKl.out k6 (by omega)
      generalize hgx : l.getD q 0 = y at *
      have hxor := xor_one y
      have hst := hb6.store (q := q) (x := y ^^^ 1) (by rw [hll]; exact hqN) rfl
      have ts := turn_setCell w6 B q (.int .u8 ((y ^^^ 1).toNat : Int))
      have HB7 : Hid ((l.set q (y ^^^ 1)).length = N ∧ BytB (w6.setCell ⟨B, q, none⟩ (.int .u8 ((y ^^^ 1).toNat : Int))) B cp (l.set q (y ^^^ 1))) := ⟨by rw [List.length_set]; exact hll, hst⟩
      have HK7 := Lib.hid (turn_trans HK6 ts (by omega))
      have HC7 : Hid (CurAt (w6.setCell ⟨B, q, none⟩ (.int .u8 ((y ^^^ 1).toNat : Int))) g cv (m + 30 - 2 * (z - 1))) := (hc6.keep ts (by omega)).more (by omega)
      clear hb6 hst ts HK6 hgx k6 hc6 x1 x0 hll
      generalize y ^^^ 1 = y2 at *
      generalize l.set q y2 = l2 at *
      go_wp2_with fail
      go_roundw
      case rel => exact ⟨z - 1, l2, by omega, by go_num, HB7, HC7, HK7⟩
      case measure => simp [intOf]; omega
    · obtain rfl : z = 0 := by omega
      have hzd : decide ((0 : Int) < ((0 : Nat) : Int)) = false := by simp
      clear hlt
      go_wp2_with fail
      refine (one_any g cv _ 20 _ HCl.out (by omega)).mono ?_
      rintro e w6 ⟨b, rfl, hc6, k6⟩
      have hb6 := HBl.out.2.keep k6 (by omega)
      have hll := HBl.out.1
      have HK6 := turn_trans HKl.out k6 (by omega)
      cases b
      · have hseen := hb6.seen
        rw [hll] at hseen
        have hconv := run_string_seen (P := Try.prog) 22 5 9 Try.underlying22 Try.underlying5 Try.underlying9 hseen
        have HC6 := Lib.hid (hc6.more (show _ ≤ m + 40 by omega))
        have HKK := Lib.hid HK6
        have HLL := Lib.hid hll
        clear hseen hb6 hc6 k6 HK6 hll
        go_wp2_with fail
        go_ret
        exact ⟨l, rfl, by rw [HLL.out]; omega, HC6.out, HKK.out⟩
      · have ka := turn_alloc w6 (.cells #[.int .u8 48] 5)
        have hb7 := hb6.keep ka (by omega)
        obtain ⟨A', c', w8, hap, hse, k8⟩ := run_append_bytb (P := Try.prog) hb7 22 22 5 i0 (.int .u8 0) Try.underlying22 hi0 hz0 hz1 (by rw [hz2]; omega) rfl ⟨w6.heap.size, 0, none⟩ 1 48 (by simp <;> rfl) (by rw [hll]; omega)
        rw [hll] at hap hse
        have hconv := run_string_seen (P := Try.prog) 22 5 9 Try.underlying22 Try.underlying5 Try.underlying9 hse
        have hgl := hc6.lt
        have HC6 := Lib.hid (((hc6.keep ka (by omega)).keep k8 (by omega)).more (show _ ≤ m + 40 by omega))
        have HKK := Lib.hid (turn_trans (turn_trans HK6 ka (by omega)) k8 (by omega))
        have HAP := Lib.hid hap
        have HLL := Lib.hid hll
        clear hse hb6 hb7 hc6 k6 HK6 hll ka k8 hap
        go_wp2_with (at_builtin; refine Lib.wpList_append_run _ rfl _ _ _ _ rfl _ _ rfl rfl _ _ HAP.out ?_)
        go_wp2_with fail
        go_ret
        exact ⟨l ++ [48], rfl, by rw [List.length_append, HLL.out]; simp <;> omega, HC6.out, HKK.out⟩

/-- some text, drawn from a new cursor -/
def RetTx (w : World) (e : Ending) (w' : World) : Prop := ∃ r : List UInt8, e = .returned (.string (str r)) ∧ r.length ≤ 101 ∧ TurnIn 0 0 w w'

set_option maxHeartbeats 1000000 in
theorem drawDecodeBits_any (v : Value) (l : List UInt8) (w : World) (hv : Seen w v (bys l)) : Calls Try.prog 13 #[v] w (RetTx w) := by
  obtain ⟨A, c, hvv⟩ := hv.len
  rw [bys_length] at hvv
  subst hvv
  have hc := cur_new hv
  have k0 := turn_alloc w (.cells #[.slice A l.length c, .int .i64 0, .int .u64 0] 56)
  have s0 : w.heap.size < (w.alloc (.cells #[.slice A l.length c, .int .i64 0, .int .u64 0] 56)).heap.size := by simp
  go_enter Try.func13, Try.ntmps13
  go_wp2_with fail
  refine (received_any _ _ 0 _ hc (by omega)).mono ?_
  rintro e w1 ⟨r, rfl, hr, hc1, k1⟩
  go_wp2_with fail
  go_ret
  exact ⟨r, rfl, by omega, turn_trans k0 k1 (by omega)⟩

set_option maxHeartbeats 1000000 in
theorem drawEncodeBits_any (v : Value) (l : List UInt8) (w : World) (hv : Seen w v (bys l)) : Calls Try.prog 19 #[v] w (RetTx w) := by
  obtain ⟨A, c, hvv⟩ := hv.len
  rw [bys_length] at hvv
  subst hvv
  have hc := cur_new hv
  have k0 := turn_alloc w (.cells #[.slice A l.length c, .int .i64 0, .int .u64 0] 56)
  have s0 : w.heap.size < (w.alloc (.cells #[.slice A l.length c, .int .i64 0, .int .u64 0] 56)).heap.size := by simp
  go_enter Try.func19, Try.ntmps19
  go_wp2_with fail
  refine (few_any _ _ 0 _ hc (by omega)).mono ?_
  rintro e w1 ⟨n, rfl, n0, n1, hc1, k1⟩
  obtain ⟨n, rfl⟩ := Int.eq_ofNat_of_zero_le n0
  have s1 := k1.size
  go_wp2_with fail
  refine (bits_any _ _ _ n _ hc1 (by omega) (by omega)).mono ?_
  rintro e w2 ⟨s, rfl, hsl, hsb, hc2, k2⟩
  have hz1 : (str s).size ≤ 31 := by rw [str_size]; omega
  have s2 := k2.size
  have HSL := Lib.hid hsl
  clear hsl
  go_wp2_with fail
  refine (one_any _ _ _ 20 _ hc2 (by omega)).mono ?_
  rintro e w3 ⟨b, rfl, hc3, k3⟩
  have HK := Lib.hid (turn_trans (turn_trans (turn_trans k0 k1 (by omega)) k2 (by omega)) k3 (by omega))
  clear k0 k1 k2 k3 hc hc1 hc2 hc3
  cases b
  · go_wp2_with fail
    go_ret
    exact ⟨s, rfl, by rw [HSL.out]; omega, HK.out⟩
  · have hap : (str s ++ ⟨#[50]⟩ : ByteArray) = str (s ++ [50]) := str_append s [50]
    go_wp2_with fail
    go_ret
    exact ⟨s ++ [50], by first | rfl | rw [hap], by rw [List.length_append, HSL.out]; simp; omega, HK.out⟩

end Go.Proofs.Ytjgmegfbfjmnfaa

/- Chapter 10: FlipBits: the program's. -/
namespace Go.Proofs.Ytjgmegfbfjmnfaa
open Go.RowKit G294

set_option maxRecDepth 100000 in
set_option maxHeartbeats 2000000 in
theorem flipBits_own (v : Value) (s : List UInt8) (l : List Int) (w : World) (hv : Seen w v (ints l)) (hs : s.length ≤ 1000000000000) : Calls Try.prog 22 #[.string (str s), v] w (RetStrOk w (flpR s l) (flpOk s l)) := by
  have HV := Lib.hid hv
  obtain ⟨A, c, hvv⟩ := hv.len
  rw [ints_length] at hvv
  subst hvv
  clear hv
  have HD : Hid (flpOk s l = (bitsOk s 96 && someOk l s.length)) := Lib.hid rfl
  have HNO : Hid (flpOk s l = false → flpR s l = []) := fun h => if_neg (by rw [h]; decide)
  have HYES : Hid (flpOk s l = true → flpR s l = flipK s l l.length) := fun h => if_pos h
  have HP := Lib.hid (fun W => parsedBits_own s 96 W (by omega) hs)
  by_cases h1 : bitsOk s 96 = true
  · have H1 := Lib.hid h1
    have hl96 := (bitsOk_b h1).1
    have HPR := Lib.hid (prsR_yes h1)
    have HRL : Hid ((raw s).length = s.length) := raw_len s
    have HCH : Hid (chosen l s.length = (someOk l s.length && decide (0 < l.length))) := Lib.hid rfl
    have HGC := Lib.hid (fun W (hw : Seen W (.slice A l.length c) (ints l)) => goodChoice_any _ l s.length W hw (by omega))
    by_cases h2 : someOk l s.length = true
    · have H2 := Lib.hid h2
      have HO : Hid (flpOk s l = true) := by show _ = _; rw [HD.out, h1, h2]; rfl
      have HR := Lib.hid (HYES.out HO.out)
      have HIN : Hid (∀ k, k < l.length → 0 ≤ l.getD k 0 ∧ l.getD k 0 < (s.length : Int)) := fun k hk => by
        have := (someOk_iff l s.length).1 h2 k hk
        exact ⟨this.1, this.2.1⟩
      have hl := some_len h2
      have HTX : Hid (txt (flipK (raw s) l l.length) = flipK s l l.length) := by
        have := raw_flip s l (bitsOk_b h1).2 l.length (fun j hj => by have := HIN.out j hj; omega)
        show _ = _
        rw [← this.1, txt_raw]
      have HK : Hid (∀ k, flipK (raw s) l (k + 1) = (flipK (raw s) l k).set (l.getD k 0).toNat ((flipK (raw s) l k).getD (l.getD k 0).toNat 0 ^^^ 1)) := fun k => rfl
      have HKL : Hid (∀ k, (flipK (raw s) l k).length = s.length) := fun k => by rw [flipK_len, raw_len]
      have HK0 : Hid (raw s = flipK (raw s) l 0) := Lib.hid rfl
      rw [HR.out, ← HTX.out]
      obtain ⟨G, hG⟩ : ∃ G, G = flipK (raw s) l := ⟨_, rfl⟩
      rw [← hG] at HK HKL HK0 ⊢
      obtain ⟨A1, c1, hvv, hlc, hcm, hx⟩ := HV.out
      rw [ints_length] at hvv hlc hx
      simp only [Value.slice.injEq] at hvv
      obtain ⟨rfl, _, rfl⟩ := hvv
      have HX := Lib.hid hx
      unfold maxLen at hcm
      have hCH2 : chosen l s.length = decide (0 < l.length) := by rw [HCH.out, h2]; simp
      have HCH2 := Lib.hid hCH2
      generalize hnn : l.length = n at *
      generalize hmm : s.length = m at *
      have HN := Lib.hid hnn
      have hgt : decide ((0 : Int) < (n : Int)) = decide (0 < n) := by by_cases h : 0 < n <;> simp [h] <;> omega
      clear h1 h2 hG hx hnn hmm HCH hCH2
      have main : ∀ (w1 : World) (v1 : Value), OwnBytes 5 w1 w.heap.size w1.heap.size v1 (G 0) → TurnIn 0 0 w w1 → True := fun _ _ _ _ => trivial
      clear main
      by_cases hn0 : 0 < n
      · have hd0 : decide (0 < n) = true := by simpa using hn0
        have hd0i : decide ((0 : Int) < (n : Int)) = true := by rw [hgt]; exact hd0
        rw [hd0] at HCH2
        clear hgt hd0
        go_enter Try.func22, Try.ntmps22
        go_wp2_with fail
        refine (HP.out _).mono ?_
        rintro e w1 ⟨v1, rfl, o1, k1⟩
        rw [H1.out]
        rw [HPR.out, HK0.out] at o1
        have s1 := k1.size
        have hm0 : 0 < m := by have := HIN.out 0 hn0; omega
        obtain ⟨g, cap, hv1, hg1, hg2, hgc, hgm⟩ := o1.slice (by rw [HKL.out]; exact hm0)
        rw [HKL.out] at hv1 hgc
        subst hv1
        unfold maxLen at hgm
        have HO1 := Lib.hid o1
        have HV1 := Lib.hid (HV.out.below k1.to_below)
        have HK1 := Lib.hid k1
        clear o1 k1
        go_wp2_with fail
        refine (HGC.out _ HV1.out).mono ?_
        rintro e w' ⟨rfl, rfl⟩
        rw [HCH2.out]
        go_wp2_with fail
        go_loopw [31] (fun i wr => ∃ k : Nat, k ≤ n ∧ i = .int .i64 k ∧ Hid (OwnBytes 5 wr w.heap.size w1.heap.size (.slice (some ⟨g, 0, none⟩) m cap) (G k)) ∧ Hid (TurnIn w.heap.size w1.heap.size w1 wr)) (fun i _ => n - (intOf i).toNat)
        case atStart => exact ⟨0, Nat.zero_le _, rfl, HO1, ⟨rfl, rfl, rfl, Nat.le_refl _, fun _ _ _ => rfl⟩⟩
        case round =>
          obtain ⟨k, hk, rfl, HO2, HB⟩ := hrel
          have sB := HB.out.size
          by_cases hlt : k < n
          · have hki : (k : Int) < (n : Int) := by omega
            have hkl : k < l.length := by rw [HN.out]; exact hlt
            obtain ⟨b, off, rfl, hbl, hcell⟩ := HX.out (by omega)
            have hcx := (World.cell?_of_block (a := ⟨b, off + k, none⟩) (HB.out.block b (by omega) (by omega))).trans ((HK1.out.to_below.cell (p := ⟨b, off + k, none⟩) hbl).trans (hcell k _ (ints_get l k hkl)))
            rw [← getD_len hkl 0] at hcx
            have hin := HIN.out k hlt
            have hkk := HK.out k
            obtain ⟨q, hq⟩ := Int.eq_ofNat_of_zero_le hin.1
            rw [hq] at hcx hin hkk
            rw [Int.toNat_natCast] at hkk
            have hqm : q < m := by omega
            have hqi : (q : Int) < (m : Int) := by omega
            have hcs := HO2.out.cellAt (k := q) (by rw [HKL.out]; exact hqm)
            have hfr := HO2.out.frozenAt q
            generalize hgx : (G k).getD q 0 = x at hcs hkk
            have hxor := xor_one x
            have HO3 := Lib.hid (HO2.out.store (q := q) (x := x ^^^ 1) (HKL.out k) hkk.symm)
            have HB3 := Lib.hid (turn_trans HB.out (turn_setCell wr g q (.int .u8 ((x ^^^ 1).toNat : Int))) (by omega))
            clear hgx hkk hq hin hcell
            generalize x ^^^ 1 = y at *
            go_wp2_with fail
            go_roundw
            case rel => exact ⟨k + 1, by omega, by go_num, HO3, HB3⟩
            case measure => simp [intOf]; omega
          · obtain rfl : k = n := by omega
            have hki : ¬ (k : Int) < (k : Int) := by omega
            have HBT := Lib.hid (bitText_own _ (G k) wr HO2.out.seen (by rw [HKL.out]; omega))
            have HKR : Hid (TurnIn 0 0 w wr) := by
              have h1 := HK1.out
              have kr := HB.out
              exact ⟨kr.os.trans h1.os, kr.tape.trans h1.tape, kr.output.trans h1.output, by omega, fun i hi _ => (kr.block i (by have := h1.size; omega) (by omega)).trans (h1.block i hi (by omega))⟩
            go_wp2_with fail
            refine HBT.out.mono ?_
            rintro e w4 ⟨rfl, k4⟩
            go_wp2_with fail
            go_ret2
            exact ⟨by rw [HO.out]; rfl, turn_trans HKR.out k4 (by omega)⟩
      · obtain rfl : n = 0 := by omega
        have hd0i : decide ((0 : Int) < ((0 : Nat) : Int)) = false := by simp
        clear hgt hn0
        go_enter Try.func22, Try.ntmps22
        go_wp2_with fail
        refine (HP.out _).mono ?_
        rintro e w1 ⟨v1, rfl, o1, k1⟩
        rw [H1.out]
        rw [HPR.out, HK0.out] at o1
        have s1 := k1.size
        obtain ⟨A2, c2, hv2⟩ := own_slice o1.1
        rw [HKL.out] at hv2
        subst hv2
        have HBT := Lib.hid (bitText_own _ (G 0) w1 o1.seen (by rw [HKL.out]; omega))
        have HK1 := Lib.hid k1
        clear o1 k1
        go_wp2_with fail
        refine wp_loop_once ?_
        go_wp2_with fail
        refine HBT.out.mono ?_
        rintro e w4 ⟨rfl, k4⟩
        go_wp2_with fail
        go_ret2
        exact ⟨by rw [HO.out]; rfl, turn_trans HK1.out k4 (by omega)⟩
    · have H2 : Hid (someOk l s.length = false) := by show someOk l s.length = false; simpa using h2
      have HO : Hid (flpOk s l = false) := by show _ = _; rw [HD.out, H2.out]; simp
      have HR := Lib.hid (HNO.out HO.out)
      have hn0 : 0 < l.length := by
        rcases Nat.eq_zero_or_pos l.length with h | h
        · exact absurd ((someOk_iff l s.length).2 (fun i hi => by omega)) h2
        · exact h
      have HCH2 : Hid (chosen l s.length = false) := by show _ = _; rw [HCH.out, H2.out]; rfl
      generalize hnn : l.length = n at *
      generalize hmm : s.length = m at *
      have hd0i : decide ((0 : Int) < (n : Int)) = true := by simp; omega
      clear h1 h2 hnn hmm HCH
      go_enter Try.func22, Try.ntmps22
      go_wp2_with fail
      refine (HP.out _).mono ?_
      rintro e w1 ⟨v1, rfl, o1, k1⟩
      rw [H1.out]
      rw [HPR.out] at o1
      obtain ⟨A2, c2, hv2⟩ := own_slice o1.1
      rw [HRL.out] at hv2
      subst hv2
      have HV1 := Lib.hid (HV.out.below k1.to_below)
      clear o1
      go_wp2_with fail
      refine (HGC.out _ HV1.out).mono ?_
      rintro e w' ⟨rfl, rfl⟩
      rw [HCH2.out]
      go_wp2_with fail
      go_ret2
      exact ⟨by rw [HR.out, HO.out]; rfl, k1⟩
  · have H1 : Hid (bitsOk s 96 = false) := by show bitsOk s 96 = false; simpa using h1
    have HO : Hid (flpOk s l = false) := by show _ = _; rw [HD.out, H1.out]; rfl
    have HR := Lib.hid (HNO.out HO.out)
    clear h1
    go_enter Try.func22, Try.ntmps22
    go_wp2_with fail
    refine (HP.out _).mono ?_
    rintro e w1 ⟨v1, rfl, o1, k1⟩
    rw [H1.out]
    go_wp2_with fail
    go_ret2
    exact ⟨by rw [HR.out, HO.out]; rfl, k1⟩

end Go.Proofs.Ytjgmegfbfjmnfaa
