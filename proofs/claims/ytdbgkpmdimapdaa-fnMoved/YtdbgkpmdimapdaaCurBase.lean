/- Contracts of the model's cursor: what it draws is some number; only its own block is written (without bytes). -/
import Derived.Test.YtdbgkpmdimapdaaProg
import Derived.Deep.QuietTactic
import Derived.BigQuiet
import Derived.Test.YtdbgkpmdimapdaaTurns
set_option linter.unusedSimpArgs false
set_option linter.unusedVariables false
namespace Go.Proofs.Ytdbgkpmdimapdaa
open Go.RowKit G294

/-- the cursor at block g: its code lies below g, it has moved at most n times -/
def CurAt (w : World) (g : Nat) (cv : Value) (n : Nat) : Prop :=
  ∃ (at_ : Nat) (seed : Int) (l : List UInt8) (A : Option Addr) (c : Nat), w.heap[g]? = some (.cells #[cv, .int .i64 at_, .int .u64 seed] 67 (0, 0)) ∧ at_ ≤ n ∧
    cv = .slice A l.length c ∧ l.length ≤ c ∧ c ≤ maxLen ∧ (0 < l.length → ∃ b off, A = some ⟨b, off, none⟩ ∧ b < g ∧ ∀ i u, (bys l)[i]? = some u → w.cell? ⟨b, off + i, none⟩ = some u)

/-- a number in a range is drawn -/
def Draws (w : World) (g : Nat) (cv : Value) (n : Nat) (lo hi : Int) (e : Ending) (w' : World) : Prop := ∃ r : Int, e = .returned (.int .i64 r) ∧ lo ≤ r ∧ r ≤ hi ∧ CurAt w' g cv n ∧ TurnIn g (g + 1) w w'

theorem draws_end {w : World} {g n at_ c : Nat} {seed s r : Int} {l : List UInt8} {A : Option Addr} (q q' : Nat)
    (hg : w.heap[g]? = some (.cells #[.slice A l.length c, .int .i64 at_, .int .u64 seed] 67 (0, 0))) (hat : at_ ≤ n) (hlc : l.length ≤ c) (hcm : c ≤ maxLen)
    (hx : 0 < l.length → ∃ b off, A = some ⟨b, off, none⟩ ∧ b < g ∧ ∀ i u, (bys l)[i]? = some u → w.cell? ⟨b, off + i, none⟩ = some u) (h0 : 0 ≤ r) (h1 : r ≤ 255) :
    Draws w g (.slice A l.length c) (n + 1) 0 255 (.returned (.int .i64 r)) ((((w.drewN q).setCell ⟨g, 1, none⟩ (.int .i64 ((at_ : Int) + 1))).setCell ⟨g, 2, none⟩ (.int .u64 s)).drewN q') := by
  have e1 : ((((w.drewN q).setCell ⟨g, 1, none⟩ (.int .i64 ((at_ : Int) + 1))).setCell ⟨g, 2, none⟩ (.int .u64 s)).drewN q').heap[g]? = some (.cells #[.slice A l.length c, .int .i64 ((at_ + 1 : Nat) : Int), .int .u64 s] 67 (0, 0)) := by
    have h2 : (w.drewN q).heap[g]? = some (.cells #[.slice A l.length c, .int .i64 at_, .int .u64 seed] 67 (0, 0)) := hg
    have h3 := heap_setCell_same (w.drewN q) g 1 _ _ (.int .i64 ((at_ : Int) + 1)) h2
    have h4 := heap_setCell_same _ g 2 _ _ (.int .u64 s) h3
    exact h4.trans (by simp)
  have hblk : ∀ k, k ≠ g → ((((w.drewN q).setCell ⟨g, 1, none⟩ (.int .i64 ((at_ : Int) + 1))).setCell ⟨g, 2, none⟩ (.int .u64 s)).drewN q').heap[k]? = w.heap[k]? := fun k hk => by
    have h3 := heap_setCell_other (w.drewN q) ⟨g, 1, none⟩ k (.int .i64 ((at_ : Int) + 1)) hk
    have h4 := heap_setCell_other ((w.drewN q).setCell ⟨g, 1, none⟩ (.int .i64 ((at_ : Int) + 1))) ⟨g, 2, none⟩ k (.int .u64 s) hk
    exact h4.trans h3
  refine ⟨r, rfl, h0, h1, ⟨at_ + 1, s, l, A, c, e1, by omega, rfl, hlc, hcm, fun hp => ?_⟩, ⟨rfl, rfl, rfl, ?_, fun k hk hd => hblk k (by omega)⟩⟩
  · obtain ⟨b, off, rfl, hb, hc⟩ := hx hp
    exact ⟨b, off, rfl, hb, fun i u hu => (World.cell?_of_block (a := ⟨b, off + i, none⟩) (hblk b (by omega))).trans (hc i u hu)⟩
  · simp [World.setCell, World.drewN]
theorem wrap64_u8 (x : UInt8) : wrap64 (x.toNat : Int) = (x.toNat : Int) := by
  have := x.toNat_lt
  unfold wrap64; omega
theorem and255 (x : Int) : 0 ≤ wrap64 (bits BinOp.and IntKind.u64 x 255) ∧ wrap64 (bits BinOp.and IntKind.u64 x 255) ≤ 255 := by
  have h : 0 ≤ bits BinOp.and IntKind.u64 x 255 ∧ bits BinOp.and IntKind.u64 x 255 ≤ 255 := by
    show 0 ≤ IntKind.u64.wrap ((BitVec.ofInt 64 x &&& BitVec.ofInt 64 255).toNat : Int) ∧ IntKind.u64.wrap ((BitVec.ofInt 64 x &&& BitVec.ofInt 64 255).toNat : Int) ≤ 255
    have e : (BitVec.ofInt 64 255).toNat = 255 := by decide
    have hle : (BitVec.ofInt 64 x &&& BitVec.ofInt 64 255).toNat ≤ 255 := by
      rw [BitVec.toNat_and, e]; exact Nat.and_le_right
    generalize (BitVec.ofInt 64 x &&& BitVec.ofInt 64 255).toNat = y at *
    have : IntKind.u64.wrap (y : Int) = y := by simp [IntKind.wrap, IntKind.bits, IntKind.signed]; omega
    omega
  generalize bits BinOp.and IntKind.u64 x 255 = y at *
  unfold wrap64; omega

set_option maxHeartbeats 1000000 in
theorem next_any (g : Nat) (cv : Value) (n : Nat) (w : World) (hc : CurAt w g cv n) (hn : n ≤ 1000000000000) :
    Calls Try.prog 93 #[.pointer (some ⟨g, 0, none⟩)] w (Draws w g cv (n + 1) 0 255) := by
  obtain ⟨at_, seed, l, A, c, hg, hat, rfl, hlc, hcm, hx⟩ := hc
  unfold maxLen at hcm
  have hc0 : w.cell? ⟨g, 0, none⟩ = some (.slice A l.length c) := by rw [cell_of_row w g 0 _ _ _ hg]; rfl
  have hc1 : w.cell? ⟨g, 1, none⟩ = some (.int .i64 at_) := by rw [cell_of_row w g 1 _ _ _ hg]; rfl
  have hc2 : w.cell? ⟨g, 2, none⟩ = some (.int .u64 seed) := by rw [cell_of_row w g 2 _ _ _ hg]; rfl
  have hf1 : w.frozen? ⟨g, 1, none⟩ = false := frozen_of_row w g 1 _ _ hg
  have hf2 : w.frozen? ⟨g, 2, none⟩ = false := frozen_of_row w g 2 _ _ hg
  have HG := Lib.hid hg
  clear hg
  by_cases hlt : at_ < l.length
  · obtain ⟨b, off, rfl, hbl, hcell⟩ := hx (by omega)
    have hcx := hcell at_ _ (bys_get l at_ hlt)
    have hd : decide ((at_ : Int) < (l.length : Int)) = true := by simp; omega
    have hli : (at_ : Int) < (l.length : Int) := by omega
    have HX := Lib.hid hcell
    clear hcell hx
    go_enter Try.func93, Try.ntmps93
    go_wp2_with fail
    go_quiet (fail)
    go_wp2_with fail
    go_quiet (fail)
    go_wp2_with fail
    go_quiet (fail)
    go_wp2_with fail
    go_ret
    have hu := l[at_].toNat_lt
    exact draws_end _ _ HG.out hat hlc hcm (fun _ => ⟨b, off, rfl, hbl, HX.out⟩) (by rw [wrap64_u8]; omega) (by rw [wrap64_u8]; omega)
  · have HX := Lib.hid hx
    clear hx
    have hd : decide ((at_ : Int) < (l.length : Int)) = false := by simp; omega
    go_enter Try.func93, Try.ntmps93
    go_wp2_with fail
    go_quiet (fail)
    go_wp2_with fail
    go_quiet (fail)
    go_wp2_with fail
    go_ret
    exact draws_end _ _ HG.out hat hlc hcm HX.out (and255 _).1 (and255 _).2

theorem CurAt.more {w : World} {g : Nat} {cv : Value} {n m : Nat} (h : CurAt w g cv n) (hm : n ≤ m) : CurAt w g cv m := by
  obtain ⟨at_, seed, l, A, c, h1, h2, h3⟩ := h
  exact ⟨at_, seed, l, A, c, h1, by omega, h3⟩
theorem CurAt.lt {w : World} {g : Nat} {cv : Value} {n : Nat} (h : CurAt w g cv n) : g < w.heap.size := by
  obtain ⟨at_, seed, l, A, c, h1, _⟩ := h
  exact (Array.getElem?_eq_some_iff.1 h1).1
theorem CurAt.keep {w w' : World} {g : Nat} {cv : Value} {n a b : Nat} (h : CurAt w g cv n) (t : TurnIn a b w w') (hd : g < a ∨ b ≤ 0) : CurAt w' g cv n := by
  have hl := h.lt
  obtain ⟨at_, seed, l, A, c, h1, h2, h3, h4, h5, h6⟩ := h
  refine ⟨at_, seed, l, A, c, (t.block g hl (by omega)).trans h1, h2, h3, h4, h5, fun hp => ?_⟩
  obtain ⟨b', off, rfl, hb, hc⟩ := h6 hp
  exact ⟨b', off, rfl, hb, fun i u hu => (World.cell?_of_block (a := ⟨b', off + i, none⟩) (t.block b' (by omega) (by omega))).trans (hc i u hu)⟩

/-- what pick may answer at most -/
def pickHi (n : Int) : Int := if n ≤ 1 then 0 else n - 1

set_option maxHeartbeats 1000000 in
theorem pick_any (g : Nat) (cv : Value) (m : Nat) (n : Int) (w : World) (hc : CurAt w g cv m) (hm : m ≤ 100000000000) :
    Calls Try.prog 76 #[.pointer (some ⟨g, 0, none⟩), .int .i64 n] w (Draws w g cv (m + 2) 0 (pickHi n)) := by
  by_cases h1 : n ≤ 1
  · have HP : Hid (pickHi n = 0) := if_pos h1
    go_enter Try.func76, Try.ntmps76
    go_wp2_with fail
    go_ret
    exact ⟨0, rfl, by omega, by rw [HP.out]; omega, hc.more (by omega), ⟨rfl, rfl, rfl, Nat.le_refl _, fun _ _ _ => rfl⟩⟩
  · have HP : Hid (pickHi n = n - 1) := if_neg h1
    by_cases h2 : 200 < n
    · go_enter Try.func76, Try.ntmps76
      go_wp2_with fail
      refine (next_any g cv m _ hc (by omega)).mono ?_
      rintro e w1 ⟨x, rfl, x0, x1, hc1, k1⟩
      go_wp2_with fail
      refine (next_any g cv (m + 1) _ hc1 (by omega)).mono ?_
      rintro e w2 ⟨y, rfl, y0, y1, hc2, k2⟩
      have hn0 : (n == 0) = false := by simp; omega
      have HR := Lib.hid (Int.emod_nonneg (x * 256 + y) (show n ≠ 0 by omega))
      have HL := Lib.hid (Int.emod_lt_of_pos (x * 256 + y) (show 0 < n by omega))
      go_wp2_with fail
      go_ret
      refine ⟨(x * 256 + y) % n, rfl, HR.out, by rw [HP.out]; have := HL.out; omega, hc2, turn_trans k1 k2 (by omega)⟩
    · go_enter Try.func76, Try.ntmps76
      go_wp2_with fail
      refine (next_any g cv m _ hc (by omega)).mono ?_
      rintro e w1 ⟨x, rfl, x0, x1, hc1, k1⟩
      have hn0 : (n == 0) = false := by simp; omega
      have HR := Lib.hid (Int.emod_nonneg x (show n ≠ 0 by omega))
      have HL := Lib.hid (Int.emod_lt_of_pos x (show 0 < n by omega))
      go_wp2_with fail
      go_ret
      exact ⟨x % n, rfl, HR.out, by rw [HP.out]; have := HL.out; omega, hc1.more (by omega), k1⟩

/-- a bool is drawn -/
def DrawsB (w : World) (g : Nat) (cv : Value) (n : Nat) (e : Ending) (w' : World) : Prop := ∃ b : Bool, e = .returned (.bool b) ∧ CurAt w' g cv n ∧ TurnIn g (g + 1) w w'

set_option maxHeartbeats 400000 in
theorem one_any (g : Nat) (cv : Value) (m : Nat) (n : Int) (w : World) (hc : CurAt w g cv m) (hm : m ≤ 100000000000) :
    Calls Try.prog 77 #[.pointer (some ⟨g, 0, none⟩), .int .i64 n] w (DrawsB w g cv (m + 2)) := by
  go_enter Try.func77, Try.ntmps77
  go_wp2_with fail
  refine (pick_any g cv m n _ hc hm).mono ?_
  rintro e w1 ⟨x, rfl, x0, x1, hc1, k1⟩
  go_wp2_with fail
  go_ret
  exact ⟨_, rfl, hc1, k1⟩

/-- one of some numbers is drawn -/
def DrawsOf (w : World) (g : Nat) (cv : Value) (n : Nat) (l : List Int) (e : Ending) (w' : World) : Prop := ∃ r : Int, e = .returned (.int .i64 r) ∧ r ∈ l ∧ CurAt w' g cv n ∧ TurnIn g (g + 1) w w'

set_option maxHeartbeats 400000 in
theorem among_any (g : Nat) (cv : Value) (m : Nat) (b c : Nat) (l : List Int) (w : World) (hc : CurAt w g cv m) (hm : m ≤ 100000000000) (hp : 0 < l.length) (hl : l.length ≤ 1000) (hlc : l.length ≤ c) (hc' : c ≤ 1000) (hbg : b ≠ g) (hbl : b < w.heap.size)
    (hcell : ∀ i u, (ints l)[i]? = some u → w.cell? ⟨b, i, none⟩ = some u) :
    Calls Try.prog 97 #[.pointer (some ⟨g, 0, none⟩), .slice (some ⟨b, 0, none⟩) l.length c] w (DrawsOf w g cv (m + 2) l) := by
  have HC := Lib.hid hcell
  clear hcell
  generalize hnn : l.length = n at *
  have HN := Lib.hid hnn
  clear hnn
  go_enter Try.func97, Try.ntmps97
  go_wp2_with fail
  refine (pick_any g cv m n _ hc hm).mono ?_
  rintro e w1 ⟨x, rfl, x0, x1, hc1, k1⟩
  have hxn : x < n := by
    unfold pickHi at x1
    split at x1 <;> omega
  clear x1
  obtain ⟨i, rfl⟩ := Int.eq_ofNat_of_zero_le x0
  have hi : i < l.length := by rw [HN.out]; omega
  have hcx : w1.cell? ⟨b, i, none⟩ = some (.int .i64 l[i]) :=
    (World.cell?_of_block (a := ⟨b, i, none⟩) (k1.block b hbl (by omega))).trans (HC.out i _ (by simp [ints, hi]))
  go_wp2_with fail
  go_ret
  exact ⟨l[i], rfl, List.getElem_mem hi, hc1, k1⟩

/-- a new cursor -/
theorem cur_new {w : World} {v : Value} {l : List UInt8} (hv : Seen w v (bys l)) : CurAt (w.alloc (.cells #[v, .int .i64 0, .int .u64 0] 67)) w.heap.size v 0 := by
  obtain ⟨A, c, rfl, hlc, hcm, hx⟩ := hv
  rw [bys_length] at hlc hx ⊢
  refine ⟨0, 0, l, A, c, heap_alloc_new w _, Nat.le_refl _, rfl, hlc, hcm, fun hp => ?_⟩
  obtain ⟨b, off, rfl, hb, hc⟩ := hx hp
  exact ⟨b, off, rfl, hb, fun i u hu => (World.cell?_alloc_lt w _ ⟨b, off + i, none⟩ hb).trans (hc i u hu)⟩

theorem turn_own {B : Nat} {w w' : World} {e : TypeId} {size n : Nat} {v : Value} {xs : List Value} (hown : w.ownsRow B e size v n xs) (hg : w.grownBy w' v.ownBlock) : TurnIn B w.heap.size w w' :=
  TurnIn.of_grown hg fun g h => hown.lt g h

end Go.Proofs.Ytdbgkpmdimapdaa
