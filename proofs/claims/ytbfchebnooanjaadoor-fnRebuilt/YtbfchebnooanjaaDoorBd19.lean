/- Joined texts: CurBase, CurWalks, CurVec, Cur3, Takes, InvMath, CauMath. -/
import Derived.Test.YtbfchebnooanjaaDoorProg
import Derived.Deep.QuietTactic
import Derived.BigQuiet
import Derived.Test.YtbfchebnooanjaaDoorBd00
import Derived.Test.YtbfchebnooanjaaDoorBd04
import Derived.Test.YtbfchebnooanjaaDoorBd03
import Derived.Test.YtbfchebnooanjaaDoorBd05
import Derived.Test.YtbfchebnooanjaaDoorBd01
set_option linter.unusedSimpArgs false
set_option linter.unusedVariables false
/- Contracts of the model's cursor: what it draws is some number; only its own block is written (without bytes). -/
namespace Go.Proofs.YtbfchebnooanjaaDoor
open Go.RowKit G294

/-- the cursor at block g: its code lies below g, it has moved at most n times -/
def CurAt (w : World) (g : Nat) (cv : Value) (n : Nat) : Prop :=
  ∃ (at_ : Nat) (seed : Int) (l : List UInt8) (A : Option Addr) (c : Nat), w.heap[g]? = some (.cells #[cv, .int .i64 at_, .int .u64 seed] 54 (0, 0)) ∧ at_ ≤ n ∧
    cv = .slice A l.length c ∧ l.length ≤ c ∧ c ≤ maxLen ∧ (0 < l.length → ∃ b off, A = some ⟨b, off, none⟩ ∧ b < g ∧ ∀ i u, (bys l)[i]? = some u → w.cell? ⟨b, off + i, none⟩ = some u)

/-- a number in a range is drawn -/
def Draws (w : World) (g : Nat) (cv : Value) (n : Nat) (lo hi : Int) (e : Ending) (w' : World) : Prop := ∃ r : Int, e = .returned (.int .i64 r) ∧ lo ≤ r ∧ r ≤ hi ∧ CurAt w' g cv n ∧ TurnIn g (g + 1) w w'

theorem draws_end {w : World} {g n at_ c : Nat} {seed s r : Int} {l : List UInt8} {A : Option Addr} (q q' : Nat)
    (hg : w.heap[g]? = some (.cells #[.slice A l.length c, .int .i64 at_, .int .u64 seed] 54 (0, 0))) (hat : at_ ≤ n) (hlc : l.length ≤ c) (hcm : c ≤ maxLen)
    (hx : 0 < l.length → ∃ b off, A = some ⟨b, off, none⟩ ∧ b < g ∧ ∀ i u, (bys l)[i]? = some u → w.cell? ⟨b, off + i, none⟩ = some u) (h0 : 0 ≤ r) (h1 : r ≤ 255) :
    Draws w g (.slice A l.length c) (n + 1) 0 255 (.returned (.int .i64 r)) ((((w.drewN q).setCell ⟨g, 1, none⟩ (.int .i64 ((at_ : Int) + 1))).setCell ⟨g, 2, none⟩ (.int .u64 s)).drewN q') := by
  have e1 : ((((w.drewN q).setCell ⟨g, 1, none⟩ (.int .i64 ((at_ : Int) + 1))).setCell ⟨g, 2, none⟩ (.int .u64 s)).drewN q').heap[g]? = some (.cells #[.slice A l.length c, .int .i64 ((at_ + 1 : Nat) : Int), .int .u64 s] 54 (0, 0)) := by
    have h2 : (w.drewN q).heap[g]? = some (.cells #[.slice A l.length c, .int .i64 at_, .int .u64 seed] 54 (0, 0)) := hg
    have h3 := heap_setCell_same (w.drewN q) g 1 _ _ (.int .i64 ((at_ : Int) + 1)) h2
    have h4 := heap_setCell_same _ g 2 _ _ (.int .u64 s) h3
    exact h4.trans (by simp)
  have hblk : ∀ k, k ≠ g → ((((w.drewN q).setCell ⟨g, 1, none⟩ (.int .i64 ((at_ : Int) + 1))).setCell ⟨g, 2, none⟩ (.int .u64 s)).drewN q').heap[k]? = w.heap[k]? := fun k hk => by
    have h3 := heap_setCell_other (w.drewN q) ⟨g, 1, none⟩ k (.int .i64 ((at_ : Int) + 1)) hk
    have h4 := heap_setCell_other ((w.drewN q).setCell ⟨g, 1, none⟩ (.int .i64 ((at_ : Int) + 1))) ⟨g, 2, none⟩ k (.int .u64 s) hk
    exact h4.trans h3
  refine ⟨r, rfl, h0, h1, ⟨at_ + 1, s, l, A, c, e1, by omega, rfl, hlc, hcm, fun hp => ?_⟩, ⟨rfl, rfl, rfl, ?_, fun k hk hd => hblk k (by omega)⟩⟩
  · obtain ⟨b, off, rfl, hb, hc⟩ := hx hp
    exact ⟨b, off, rfl, hb, fun i u hu => (World.cell?_of_block (a := ⟨b, off + i, none⟩) (hblk b (by omega))).trans (hc i u hu)⟩
  · simp [World.setCell, World.drewN]
theorem wrap64_u8 (x : UInt8) : wrap64 (x.toNat : Int) = (x.toNat : Int) := by
  have := x.toNat_lt
  unfold wrap64; omega
theorem and255 (x : Int) : 0 ≤ wrap64 (bits BinOp.and IntKind.u64 x 255) ∧ wrap64 (bits BinOp.and IntKind.u64 x 255) ≤ 255 := by
  have h : 0 ≤ bits BinOp.and IntKind.u64 x 255 ∧ bits BinOp.and IntKind.u64 x 255 ≤ 255 := by
    show 0 ≤ IntKind.u64.wrap ((BitVec.ofInt 64 x &&& BitVec.ofInt 64 255).toNat : Int) ∧ IntKind.u64.wrap ((BitVec.ofInt 64 x &&& BitVec.ofInt 64 255).toNat : Int) ≤ 255
    have e : (BitVec.ofInt 64 255).toNat = 255 := by decide
    have hle : (BitVec.ofInt 64 x &&& BitVec.ofInt 64 255).toNat ≤ 255 := by
      rw [BitVec.toNat_and, e]; exact Nat.and_le_right
    generalize (BitVec.ofInt 64 x &&& BitVec.ofInt 64 255).toNat = y at *
    have : IntKind.u64.wrap (y : Int) = y := by simp [IntKind.wrap, IntKind.bits, IntKind.signed]; omega
    omega
  generalize bits BinOp.and IntKind.u64 x 255 = y at *
  unfold wrap64; omega

set_option maxHeartbeats 1000000 in
theorem next_any (g : Nat) (cv : Value) (n : Nat) (w : World) (hc : CurAt w g cv n) (hn : n ≤ 1000000000000) :
    Calls Tryd.prog 54 #[.pointer (some ⟨g, 0, none⟩)] w (Draws w g cv (n + 1) 0 255) := by
  obtain ⟨at_, seed, l, A, c, hg, hat, rfl, hlc, hcm, hx⟩ := hc
  unfold maxLen at hcm
  have hc0 : w.cell? ⟨g, 0, none⟩ = some (.slice A l.length c) := by rw [cell_of_row w g 0 _ _ _ hg]; rfl
  have hc1 : w.cell? ⟨g, 1, none⟩ = some (.int .i64 at_) := by rw [cell_of_row w g 1 _ _ _ hg]; rfl
  have hc2 : w.cell? ⟨g, 2, none⟩ = some (.int .u64 seed) := by rw [cell_of_row w g 2 _ _ _ hg]; rfl
  have hf1 : w.frozen? ⟨g, 1, none⟩ = false := frozen_of_row w g 1 _ _ hg
  have hf2 : w.frozen? ⟨g, 2, none⟩ = false := frozen_of_row w g 2 _ _ hg
  have HG := Lib.hid hg
  clear hg
  by_cases hlt : at_ < l.length
  · obtain ⟨b, off, rfl, hbl, hcell⟩ := hx (by omega)
    have hcx := hcell at_ _ (bys_get l at_ hlt)
    have hd : decide ((at_ : Int) < (l.length : Int)) = true := by simp; omega
    have hli : (at_ : Int) < (l.length : Int) := by omega
    have HX := Lib.hid hcell
    clear hcell hx
    go_enter Tryd.func54, Tryd.ntmps54
    go_wp2_with fail
    go_quiet (fail)
    go_wp2_with fail
    go_quiet (fail)
    go_wp2_with fail
    go_quiet (fail)
    go_wp2_with fail
    go_ret
    have hu := l[at_].toNat_lt
    exact draws_end _ _ HG.out hat hlc hcm (fun _ => ⟨b, off, rfl, hbl, HX.out⟩) (by rw [wrap64_u8]; omega) (by rw [wrap64_u8]; omega)
  · have HX := Lib.hid hx
    clear hx
    have hd : decide ((at_ : Int) < (l.length : Int)) = false := by simp; omega
    go_enter Tryd.func54, Tryd.ntmps54
    go_wp2_with fail
    go_quiet (fail)
    go_wp2_with fail
    go_quiet (fail)
    go_wp2_with fail
    go_ret
    exact draws_end _ _ HG.out hat hlc hcm HX.out (and255 _).1 (and255 _).2

theorem CurAt.more {w : World} {g : Nat} {cv : Value} {n m : Nat} (h : CurAt w g cv n) (hm : n ≤ m) : CurAt w g cv m := by
  obtain ⟨at_, seed, l, A, c, h1, h2, h3⟩ := h
  exact ⟨at_, seed, l, A, c, h1, by omega, h3⟩
theorem CurAt.lt {w : World} {g : Nat} {cv : Value} {n : Nat} (h : CurAt w g cv n) : g < w.heap.size := by
  obtain ⟨at_, seed, l, A, c, h1, _⟩ := h
  exact (Array.getElem?_eq_some_iff.1 h1).1
theorem CurAt.keep {w w' : World} {g : Nat} {cv : Value} {n a b : Nat} (h : CurAt w g cv n) (t : TurnIn a b w w') (hd : g < a ∨ b ≤ 0) : CurAt w' g cv n := by
  have hl := h.lt
  obtain ⟨at_, seed, l, A, c, h1, h2, h3, h4, h5, h6⟩ := h
  refine ⟨at_, seed, l, A, c, (t.block g hl (by omega)).trans h1, h2, h3, h4, h5, fun hp => ?_⟩
  obtain ⟨b', off, rfl, hb, hc⟩ := h6 hp
  exact ⟨b', off, rfl, hb, fun i u hu => (World.cell?_of_block (a := ⟨b', off + i, none⟩) (t.block b' (by omega) (by omega))).trans (hc i u hu)⟩

/-- what pick may answer at most -/
def pickHi (n : Int) : Int := if n ≤ 1 then 0 else n - 1

set_option maxHeartbeats 1000000 in
theorem pick_any (g : Nat) (cv : Value) (m : Nat) (n : Int) (w : World) (hc : CurAt w g cv m) (hm : m ≤ 100000000000) :
    Calls Tryd.prog 26 #[.pointer (some ⟨g, 0, none⟩), .int .i64 n] w (Draws w g cv (m + 2) 0 (pickHi n)) := by
  by_cases h1 : n ≤ 1
  · have HP : Hid (pickHi n = 0) := if_pos h1
    go_enter Tryd.func26, Tryd.ntmps26
    go_wp2_with fail
    go_ret
    exact ⟨0, rfl, by omega, by rw [HP.out]; omega, hc.more (by omega), ⟨rfl, rfl, rfl, Nat.le_refl _, fun _ _ _ => rfl⟩⟩
  · have HP : Hid (pickHi n = n - 1) := if_neg h1
    by_cases h2 : 200 < n
    · go_enter Tryd.func26, Tryd.ntmps26
      go_wp2_with fail
      refine (next_any g cv m _ hc (by omega)).mono ?_
      rintro e w1 ⟨x, rfl, x0, x1, hc1, k1⟩
      go_wp2_with fail
      refine (next_any g cv (m + 1) _ hc1 (by omega)).mono ?_
      rintro e w2 ⟨y, rfl, y0, y1, hc2, k2⟩
      have hn0 : (n == 0) = false := by simp; omega
      have HR := Lib.hid (Int.emod_nonneg (x * 256 + y) (show n ≠ 0 by omega))
      have HL := Lib.hid (Int.emod_lt_of_pos (x * 256 + y) (show 0 < n by omega))
      go_wp2_with fail
      go_ret
      refine ⟨(x * 256 + y) % n, rfl, HR.out, by rw [HP.out]; have := HL.out; omega, hc2, turn_trans k1 k2 (by omega)⟩
    · go_enter Tryd.func26, Tryd.ntmps26
      go_wp2_with fail
      refine (next_any g cv m _ hc (by omega)).mono ?_
      rintro e w1 ⟨x, rfl, x0, x1, hc1, k1⟩
      have hn0 : (n == 0) = false := by simp; omega
      have HR := Lib.hid (Int.emod_nonneg x (show n ≠ 0 by omega))
      have HL := Lib.hid (Int.emod_lt_of_pos x (show 0 < n by omega))
      go_wp2_with fail
      go_ret
      exact ⟨x % n, rfl, HR.out, by rw [HP.out]; have := HL.out; omega, hc1.more (by omega), k1⟩

/-- a bool is drawn -/
def DrawsB (w : World) (g : Nat) (cv : Value) (n : Nat) (e : Ending) (w' : World) : Prop := ∃ b : Bool, e = .returned (.bool b) ∧ CurAt w' g cv n ∧ TurnIn g (g + 1) w w'

set_option maxHeartbeats 400000 in
theorem one_any (g : Nat) (cv : Value) (m : Nat) (n : Int) (w : World) (hc : CurAt w g cv m) (hm : m ≤ 100000000000) :
    Calls Tryd.prog 34 #[.pointer (some ⟨g, 0, none⟩), .int .i64 n] w (DrawsB w g cv (m + 2)) := by
  go_enter Tryd.func34, Tryd.ntmps34
  go_wp2_with fail
  refine (pick_any g cv m n _ hc hm).mono ?_
  rintro e w1 ⟨x, rfl, x0, x1, hc1, k1⟩
  go_wp2_with fail
  go_ret
  exact ⟨_, rfl, hc1, k1⟩

/-- one of some numbers is drawn -/
def DrawsOf (w : World) (g : Nat) (cv : Value) (n : Nat) (l : List Int) (e : Ending) (w' : World) : Prop := ∃ r : Int, e = .returned (.int .i64 r) ∧ r ∈ l ∧ CurAt w' g cv n ∧ TurnIn g (g + 1) w w'

set_option maxHeartbeats 400000 in
theorem among_any (g : Nat) (cv : Value) (m : Nat) (b c : Nat) (l : List Int) (w : World) (hc : CurAt w g cv m) (hm : m ≤ 100000000000) (hp : 0 < l.length) (hl : l.length ≤ 1000) (hlc : l.length ≤ c) (hc' : c ≤ 1000) (hbg : b ≠ g) (hbl : b < w.heap.size)
    (hcell : ∀ i u, (ints l)[i]? = some u → w.cell? ⟨b, i, none⟩ = some u) :
    Calls Tryd.prog 33 #[.pointer (some ⟨g, 0, none⟩), .slice (some ⟨b, 0, none⟩) l.length c] w (DrawsOf w g cv (m + 2) l) := by
  have HC := Lib.hid hcell
  clear hcell
  generalize hnn : l.length = n at *
  have HN := Lib.hid hnn
  clear hnn
  go_enter Tryd.func33, Tryd.ntmps33
  go_wp2_with fail
  refine (pick_any g cv m n _ hc hm).mono ?_
  rintro e w1 ⟨x, rfl, x0, x1, hc1, k1⟩
  have hxn : x < n := by
    unfold pickHi at x1
    split at x1 <;> omega
  clear x1
  obtain ⟨i, rfl⟩ := Int.eq_ofNat_of_zero_le x0
  have hi : i < l.length := by rw [HN.out]; omega
  have hcx : w1.cell? ⟨b, i, none⟩ = some (.int .i64 l[i]) :=
    (World.cell?_of_block (a := ⟨b, i, none⟩) (k1.block b hbl (by omega))).trans (HC.out i _ (by simp [ints, hi]))
  go_wp2_with fail
  go_ret
  exact ⟨l[i], rfl, List.getElem_mem hi, hc1, k1⟩

/-- a new cursor -/
theorem cur_new {w : World} {v : Value} {l : List UInt8} (hv : Seen w v (bys l)) : CurAt (w.alloc (.cells #[v, .int .i64 0, .int .u64 0] 54)) w.heap.size v 0 := by
  obtain ⟨A, c, rfl, hlc, hcm, hx⟩ := hv
  rw [bys_length] at hlc hx ⊢
  refine ⟨0, 0, l, A, c, heap_alloc_new w _, Nat.le_refl _, rfl, hlc, hcm, fun hp => ?_⟩
  obtain ⟨b, off, rfl, hb, hc⟩ := hx hp
  exact ⟨b, off, rfl, hb, fun i u hu => (World.cell?_alloc_lt w _ ⟨b, off + i, none⟩ hb).trans (hc i u hu)⟩

theorem turn_own {B : Nat} {w w' : World} {e : TypeId} {size n : Nat} {v : Value} {xs : List Value} (hown : w.ownsRow B e size v n xs) (hg : w.grownBy w' v.ownBlock) : TurnIn B w.heap.size w w' :=
  TurnIn.of_grown hg fun g h => hown.lt g h

end Go.Proofs.YtbfchebnooanjaaDoor

/- Contracts of the model's cursor: what it draws is some number; only its own block is written. -/
namespace Go.Proofs.YtbfchebnooanjaaDoor
open Go.RowKit G294

/-- a byte is drawn -/
def DrawsU (w : World) (g : Nat) (cv : Value) (n : Nat) (e : Ending) (w' : World) : Prop := ∃ x : UInt8, e = .returned (.int .u8 (x.toNat : Int)) ∧ CurAt w' g cv n ∧ TurnIn g (g + 1) w w'
theorem to_byte (r : Int) : r % 256 = ((UInt8.ofNat (r % 256).toNat).toNat : Int) := by
  rw [UInt8.toNat_ofNat']; omega

set_option maxHeartbeats 1000000 in
theorem byte_any (g : Nat) (cv : Value) (m : Nat) (w : World) (hc : CurAt w g cv m) (hm : m ≤ 10000000000) :
    Calls Tryd.prog 89 #[.pointer (some ⟨g, 0, none⟩)] w (DrawsU w g cv (m + 4)) := by
  go_enter Tryd.func89, Tryd.ntmps89
  go_wp2_with fail
  refine (one_any g cv m 5 _ hc (by omega)).mono ?_
  rintro e w1 ⟨b, rfl, hc1, k1⟩
  have hg1 := hc1.lt
  cases b
  · go_wp2_with fail
    refine (pick_any g cv (m + 2) 256 _ hc1 (by omega)).mono ?_
    rintro e w2 ⟨r, rfl, r0, r1, hc2, k2⟩
    clear r1
    go_wp2_with fail
    go_ret
    exact ⟨_, by rw [← to_byte r]; rfl, hc2, turn_trans k1 k2 (by omega)⟩
  · go_wp2_with fail
    have k2 := turn_alloc w1 (.cells #[.int .i64 0, .int .i64 1, .int .i64 2, .int .i64 3, .int .i64 255, .int .i64 27] 3)
    refine (among_any g cv (m + 2) w1.heap.size 6 [0, 1, 2, 3, 255, 27] _ (hc1.keep k2 (by omega)) (by omega) (by simp) (by simp) (by simp) (by omega) (by omega) (by simp) ?_).mono ?_
    · intro i u hu
      rw [cell_of_row _ w1.heap.size i _ _ _ (heap_alloc_new w1 _)]
      simpa [ints] using hu
    rintro e w3 ⟨r, rfl, hr, hc3, k3⟩
    clear hr
    go_wp2_with fail
    go_ret
    exact ⟨_, by rw [← to_byte r]; rfl, hc3, turn_trans (turn_trans k1 k2 (by omega)) k3 (by omega)⟩

end Go.Proofs.YtbfchebnooanjaaDoor

/- Drawn vectors. -/
namespace Go.Proofs.YtbfchebnooanjaaDoor
open Go.RowKit G294

/-- some bytes of a given number are drawn into a new row -/
def DrawsBytes (w : World) (g : Nat) (cv : Value) (m n : Nat) (e : Ending) (w' : World) : Prop :=
  ∃ (v : Value) (l : List UInt8), e = .returned v ∧ l.length = n ∧ w'.ownsRow w.heap.size 5 1 v l.length (bys l) ∧ CurAt w' g cv m ∧ TurnIn g (g + 1) w w'

set_option maxHeartbeats 1000000 in
theorem vector_any (g : Nat) (cv : Value) (m n : Nat) (w : World) (hc : CurAt w g cv m) (hm : m + 4 * n ≤ 1000000000) :
    Calls Tryd.prog 64 #[.pointer (some ⟨g, 0, none⟩), .int .i64 n] w (DrawsBytes w g cv (m + 4 * n) n) := by
  have hgw := hc.lt
  go_enter Tryd.func64, Tryd.ntmps64
  go_wp2_with fail
  go_loopw [1, 5] (fun y o wr => ∃ (k : Nat) (l : List UInt8), k ≤ n ∧ y = .int .i64 k ∧ Hid (l.length + k = n) ∧ wr.ownsRow w.heap.size 5 1 o l.length (bys l) ∧ CurAt wr g cv (m + 4 * (n - k)) ∧ TurnIn g (g + 1) w wr)
    (fun y _ _ => (intOf y).toNat)
  case atStart => exact ⟨n, [], Nat.le_refl _, rfl, by show 0 + n = n; omega, World.ownsRow_nil _ _ _ _, hc.more (by omega), ⟨rfl, rfl, rfl, Nat.le_refl _, fun _ _ _ => rfl⟩⟩
  case round =>
    obtain ⟨k, l, hk, rfl, HL, hown, hcr, kr⟩ := hrel
    have hsr := kr.size
    by_cases hlt : 0 < k
    · go_wp2_with fail
      refine (byte_any g cv _ _ hcr (by omega)).mono ?_
      rintro e w1 ⟨x, rfl, hc1, k1⟩
      have hs1 := k1.size
      have hown1 : w1.ownsRow w.heap.size 5 1 u5 l.length (bys l) := by
        refine ⟨hown.1, ?_⟩
        rcases hown.2 with hn | ⟨g', cap, cur, e1, hbg, hg', rest⟩
        · exact .inl hn
        · refine .inr ⟨g', cap, cur, e1, hbg, ?_, rest⟩
          rw [k1.block g' (Array.getElem?_eq_some_iff.1 hg').1 (by omega)]
          exact hg'
      have hll : l.length ≤ 1000000000 := by have := HL.out; omega
      go_wp2_with (at_builtin; refine wpList_append1 rfl _ _ _ rfl w.heap.size 5 _ _ Tryd.underlying22 infoByte rfl _ l.length _ rfl (hown1.alloc _) w1.heap.size (.int .u8 (x.toNat : Int)) rfl ?c1 rfl ?c2 ?c3 ?c4 ?_)
      case c1 => simp
      case c2 => exact hll
      case c3 => omega
      case c4 => simp; omega
      intro v' w2 hown2 hg2 _
      have ka := turn_alloc w1 (.cells #[.int .u8 (x.toNat : Int)] 5)
      have ko := turn_own (hown1.alloc (.cells #[.int .u8 (x.toNat : Int)] 5)) hg2
      have hc2 := (hc1.keep ka (by omega)).keep ko (by omega)
      have k2 : TurnIn g (g + 1) w w2 := turn_trans (turn_trans (turn_trans kr k1 (by omega)) ka (by omega)) ko (by omega)
      have hown3 : w2.ownsRow w.heap.size 5 1 v' (l ++ [x]).length (bys (l ++ [x])) := by
        rw [bys_append, List.length_append]; exact hown2
      clear hown2 hg2 hown1 ka ko hc1 k1 hown hcr kr
      go_wp2_with fail
      go_roundw
      case rel => exact ⟨k - 1, l ++ [x], by omega, by go_num, by show _ = _; have := HL.out; rw [List.length_append, List.length_singleton]; omega, hown3, hc2.more (by omega), k2⟩
      case measure => simp [intOf]; omega
    · obtain rfl : k = 0 := by omega
      go_wp2_with fail
      go_ret
      exact ⟨_, l, rfl, HL.out, hown, hcr.more (by omega), kr⟩

/-- two drawn vectors -/
def RetVecs (w : World) (e : Ending) (w' : World) : Prop :=
  ∃ (v u : Value) (l m : List UInt8), e = .returned (.tuple #[v, u]) ∧ Seen w' v (bys l) ∧ Seen w' u (bys m) ∧ l.length ≤ 100 ∧ m.length ≤ 100 ∧ TurnIn 0 0 w w'

end Go.Proofs.YtbfchebnooanjaaDoor

/- The cursor's shapes and data, and the drawn arguments of EncodeShards. -/
namespace Go.Proofs.YtbfchebnooanjaaDoor
open Go.RowKit G294

set_option maxRecDepth 100000 in
set_option maxHeartbeats 1000000 in
theorem text_any (g : Nat) (cv : Value) (m n : Nat) (w : World) (hc : CurAt w g cv m) (hm : m + 4 * n ≤ 1000000000) :
    Calls Tryd.prog 35 #[.pointer (some ⟨g, 0, none⟩), .int .i64 n] w fun e w' => ∃ l : List UInt8, e = .returned (.string (str l)) ∧ l.length = n ∧ CurAt w' g cv (m + 4 * n) ∧ TurnIn g (g + 1) w w' := by
  go_enter Tryd.func35, Tryd.ntmps35
  go_wp2_with fail
  refine (vector_any g cv m n _ hc hm).mono ?_
  rintro e w1 ⟨v, l, rfl, hl, ho, hc1, k1⟩
  have r1 := run_string_seen (P := Tryd.prog) 22 5 9 Tryd.underlying22 Tryd.underlying5 Tryd.underlying9 (Seen.of_own ho)
  obtain ⟨A, c, N, rfl⟩ := own_isSlice ho
  have HL := Lib.hid hl
  clear hl ho
  go_wp2_with fail
  go_ret
  exact ⟨l, rfl, HL.out, hc1, k1⟩

theorem infoStr3 : (Tryd.prog.info? 9).map (fun i => (i.zero, i.size, i.bytes)) = some (some (.string ⟨#[]⟩), 1, 16) := by kernel_rfl

/-- some texts are drawn -/
def DrawsStrs (w : World) (g : Nat) (cv : Value) (m : Nat) (e : Ending) (w' : World) : Prop := ∃ (v : Value) (T : List (List UInt8)), e = .returned v ∧ Seen w' v (strs T) ∧ CurAt w' g cv m ∧ TurnIn g (g + 1) w w'

set_option maxRecDepth 100000 in
set_option maxHeartbeats 4000000 in
theorem data_any (g : Nat) (cv : Value) (m k : Nat) (w : World) (hc : CurAt w g cv m) (hm : m ≤ 100000000) (hk : k ≤ 9) :
    Calls Tryd.prog 52 #[.pointer (some ⟨g, 0, none⟩), .int .i64 k] w (DrawsStrs w g cv (m + 10 + 200 * k)) := by
  have hgw := hc.lt
  go_enter Tryd.func52, Tryd.ntmps52
  go_wp2_with fail
  refine (pick_any g cv m 5 _ hc (by omega)).mono ?_
  rintro e w1 ⟨r, rfl, r0, r1, hc1, k1⟩
  have hr : r ≤ 4 := by simpa [pickHi] using r1
  have s1 := k1.size
  clear r1
  go_wp2_with fail
  refine (one_any g cv _ 20 _ hc1 (by omega)).mono ?_
  rintro e w2 ⟨b, rfl, hc2, k2⟩
  have s2 := k2.size
  cases b
  · obtain ⟨n, rfl⟩ := Int.eq_ofNat_of_zero_le r0
    have hcS := hc2
    have kS := turn_trans k1 k2 (by omega)
    clear hc1 hc2 k1 k2
    go_wp2_with fail
    go_loopw [1, 6] (fun y o wr => ∃ (j : Nat) (T : List (List UInt8)), j ≤ k ∧ y = .int .i64 j ∧ Hid (T.length + j = k ∧ ∀ s ∈ T, s.length = n) ∧ wr.ownsRow w.heap.size 9 1 o T.length (strs T) ∧ CurAt wr g cv (m + 6 + 200 * (k - j)) ∧ TurnIn g (g + 1) w wr)
      (fun y _ _ => (intOf y).toNat)
    case atStart => exact ⟨k, [], Nat.le_refl _, rfl, ⟨by simp, by simp⟩, World.ownsRow_nil _ _ _ _, hcS.more (by omega), kS⟩
    case round =>
      clear hcS kS
      obtain ⟨j, T, hj, rfl, HL, hown, hcr, kr⟩ := hrel
      have hsr := kr.size
      have hgr := hcr.lt
      by_cases hlt : 0 < j
      · go_wp2_with fail
        refine (text_any g cv _ n _ hcr (by omega)).mono ?_
        rintro e w5 ⟨x, rfl, hx, hc5, k5⟩
        have hs5 := k5.size
        have hown5 : w5.ownsRow w.heap.size 9 1 u6 T.length (strs T) := by
          refine ⟨hown.1, ?_⟩
          rcases hown.2 with hn | ⟨g', cap, cur, e1, hbg, hg', rest⟩
          · exact .inl hn
          · refine .inr ⟨g', cap, cur, e1, hbg, ?_, rest⟩
            rw [k5.block g' (Array.getElem?_eq_some_iff.1 hg').1 (by omega)]
            exact hg'
        have hll : T.length ≤ 1000 := by have := HL.out.1; omega
        have HX := Lib.hid hx
        clear hx
        go_wp2_with (at_builtin; refine wpList_append1 rfl _ _ _ rfl w.heap.size 9 _ _ Tryd.underlying35 infoStr3 rfl _ T.length _ rfl (hown5.alloc _) w5.heap.size (.string (str x)) rfl ?c1 rfl ?c2 ?c3 ?c4 ?_)
        case c1 => simp
        case c2 => omega
        case c3 => omega
        case c4 => simp; omega
        intro v' w6 hown6 hg6 _
        have ka := turn_alloc w5 (.cells #[.string (str x)] 9)
        have ko := turn_own (hown5.alloc (.cells #[.string (str x)] 9)) hg6
        have hc6 := (hc5.keep ka (by omega)).keep ko (by omega)
        have k6 : TurnIn g (g + 1) w w6 := turn_trans (turn_trans (turn_trans kr k5 (by omega)) ka (by omega)) ko (by omega)
        have hown7 : w6.ownsRow w.heap.size 9 1 v' (T ++ [x]).length (strs (T ++ [x])) := by
          rw [strs_append, List.length_append]; exact hown6
        clear hown6 hg6 hown5 ka ko hc5 k5 hown hcr kr
        go_wp2_with fail
        go_roundw
        case rel => exact ⟨j - 1, T ++ [x], by omega, by go_num, ⟨by have := HL.out.1; rw [List.length_append, List.length_singleton]; omega, fun s hs => by rcases List.mem_append.1 hs with h | h; exact HL.out.2 s h; rw [List.mem_singleton] at h; rw [h]; exact HX.out⟩, hown7, hc6.more (by omega), k6⟩
        case measure => simp [intOf]; omega
      · obtain rfl : j = 0 := by omega
        obtain ⟨A6, n6, c6, rfl⟩ := own_isSlice hown
        have hn6 : n6 = T.length := by
          rcases hown.2 with ⟨hh, h0⟩ | ⟨g', c', cur, hh, _⟩
          · simp at hh; omega
          · simp at hh; exact hh.2.1
        subst hn6
        have hTk : T.length = k := by have := HL.out.1; omega
        subst hTk
        by_cases hk0 : T.length = 0
        · have hz : decide ((0 : Int) < (T.length : Int)) = false := decide_eq_false (by omega)
          have HOWN := Lib.hid hown
          clear hown
          go_wp2_with fail
          go_ret
          exact ⟨_, T, rfl, Seen.of_own HOWN.out, hcr.more (by omega), kr⟩
        · have hz : decide ((0 : Int) < (T.length : Int)) = true := decide_eq_true (by omega)
          go_wp2_with fail
          refine (one_any g cv _ 30 _ hcr (by omega)).mono ?_
          rintro e w7 ⟨b7, rfl, hc7, k7⟩
          have hs7 := k7.size
          have hown7 : w7.ownsRow w.heap.size 9 1 (.slice A6 T.length c6) T.length (strs T) := owns_turn (hi := wr.heap.size) hown (fun x hx => (hown.lt x hx).2) k7 (by omega)
          cases b7
          · have HOWN := Lib.hid hown7
            clear hown7 hown
            go_wp2_with fail
            go_ret
            exact ⟨_, T, rfl, Seen.of_own HOWN.out, hc7.more (by omega), turn_trans kr k7 (by omega)⟩
          · obtain ⟨g', rfl, hbg⟩ : ∃ g', A6 = some ⟨g', 0, none⟩ ∧ w.heap.size ≤ g' := by
              rcases hown7.2 with ⟨hh, h0⟩ | ⟨g', c', cur, hh, hbg, _⟩
              · omega
              · simp at hh; exact ⟨g', hh.1, hbg⟩
            have hT0 : 0 < T.length := by omega
            have cc := hown7.cells (g := g') rfl 0 _ (strs_get T 0 hT0)
            rw [Addr.add_lit, Nat.zero_add] at cc
            have hfz := hown7.frozenAt 0
            have hts := str_size T[0]
            rw [HL.out.2 T[0] (List.getElem_mem hT0)] at hts
            generalize hx0 : T[0] = x0 at *
            have hst := fun y => (hown7.stored 0 y).1
            have ks := fun y => turn_setCell w7 g' 0 y
            have HST := Lib.hid hst
            have HKS := Lib.hid ks
            clear hst ks hown7 hown hx0
            go_wp2_with fail
            go_ret
            generalize hs : (str x0 ++ { data := #[120] } : ByteArray) = sx
            refine ⟨_, T.set 0 sx.data.toList, rfl, ?_, (hc7.keep (HKS.out _) (by omega)).more (by omega), turn_trans (turn_trans kr k7 (by omega)) (HKS.out _) (by omega)⟩
            have e1 : strs (T.set 0 sx.data.toList) = (strs T).set 0 (.string sx) := by
              simp only [strs, List.map_set, ← str_eq]
            rw [e1]
            exact Seen.of_own (HST.out _)
  · go_wp2_with fail
    refine (pick_any g cv _ 2 _ hc2 (by omega)).mono ?_
    rintro e w3 ⟨q, rfl, q0, q1, hc3, k3⟩
    have hq : q ≤ 1 := by simpa [pickHi] using q1
    have s3 := k3.size
    clear q1
    obtain ⟨n, hn⟩ : ∃ n : Nat, (40 : Int) + q = (n : Int) := Int.eq_ofNat_of_zero_le (by omega)
    have hn41 : n ≤ 41 := by omega
    have hcS := hc3
    have kS := turn_trans (turn_trans k1 k2 (by omega)) k3 (by omega)
    clear hc1 hc2 hc3 k1 k2 k3
    go_wp2_with fail
    go_loopw [1, 6] (fun y o wr => ∃ (j : Nat) (T : List (List UInt8)), j ≤ k ∧ y = .int .i64 j ∧ Hid (T.length + j = k ∧ ∀ s ∈ T, s.length = n) ∧ wr.ownsRow w.heap.size 9 1 o T.length (strs T) ∧ CurAt wr g cv (m + 6 + 200 * (k - j)) ∧ TurnIn g (g + 1) w wr)
      (fun y _ _ => (intOf y).toNat)
    case atStart => exact ⟨k, [], Nat.le_refl _, rfl, ⟨by simp, by simp⟩, World.ownsRow_nil _ _ _ _, hcS.more (by omega), kS⟩
    case round =>
      clear hcS kS
      obtain ⟨j, T, hj, rfl, HL, hown, hcr, kr⟩ := hrel
      have hsr := kr.size
      have hgr := hcr.lt
      by_cases hlt : 0 < j
      · go_wp2_with fail
        refine (text_any g cv _ n _ hcr (by omega)).mono ?_
        rintro e w5 ⟨x, rfl, hx, hc5, k5⟩
        have hs5 := k5.size
        have hown5 : w5.ownsRow w.heap.size 9 1 u6 T.length (strs T) := by
          refine ⟨hown.1, ?_⟩
          rcases hown.2 with hn | ⟨g', cap, cur, e1, hbg, hg', rest⟩
          · exact .inl hn
          · refine .inr ⟨g', cap, cur, e1, hbg, ?_, rest⟩
            rw [k5.block g' (Array.getElem?_eq_some_iff.1 hg').1 (by omega)]
            exact hg'
        have hll : T.length ≤ 1000 := by have := HL.out.1; omega
        have HX := Lib.hid hx
        clear hx
        go_wp2_with (at_builtin; refine wpList_append1 rfl _ _ _ rfl w.heap.size 9 _ _ Tryd.underlying35 infoStr3 rfl _ T.length _ rfl (hown5.alloc _) w5.heap.size (.string (str x)) rfl ?c1 rfl ?c2 ?c3 ?c4 ?_)
        case c1 => simp
        case c2 => omega
        case c3 => omega
        case c4 => simp; omega
        intro v' w6 hown6 hg6 _
        have ka := turn_alloc w5 (.cells #[.string (str x)] 9)
        have ko := turn_own (hown5.alloc (.cells #[.string (str x)] 9)) hg6
        have hc6 := (hc5.keep ka (by omega)).keep ko (by omega)
        have k6 : TurnIn g (g + 1) w w6 := turn_trans (turn_trans (turn_trans kr k5 (by omega)) ka (by omega)) ko (by omega)
        have hown7 : w6.ownsRow w.heap.size 9 1 v' (T ++ [x]).length (strs (T ++ [x])) := by
          rw [strs_append, List.length_append]; exact hown6
        clear hown6 hg6 hown5 ka ko hc5 k5 hown hcr kr
        go_wp2_with fail
        go_roundw
        case rel => exact ⟨j - 1, T ++ [x], by omega, by go_num, ⟨by have := HL.out.1; rw [List.length_append, List.length_singleton]; omega, fun s hs => by rcases List.mem_append.1 hs with h | h; exact HL.out.2 s h; rw [List.mem_singleton] at h; rw [h]; exact HX.out⟩, hown7, hc6.more (by omega), k6⟩
        case measure => simp [intOf]; omega
      · obtain rfl : j = 0 := by omega
        obtain ⟨A6, n6, c6, rfl⟩ := own_isSlice hown
        have hn6 : n6 = T.length := by
          rcases hown.2 with ⟨hh, h0⟩ | ⟨g', c', cur, hh, _⟩
          · simp at hh; omega
          · simp at hh; exact hh.2.1
        subst hn6
        have hTk : T.length = k := by have := HL.out.1; omega
        subst hTk
        by_cases hk0 : T.length = 0
        · have hz : decide ((0 : Int) < (T.length : Int)) = false := decide_eq_false (by omega)
          have HOWN := Lib.hid hown
          clear hown
          go_wp2_with fail
          go_ret
          exact ⟨_, T, rfl, Seen.of_own HOWN.out, hcr.more (by omega), kr⟩
        · have hz : decide ((0 : Int) < (T.length : Int)) = true := decide_eq_true (by omega)
          go_wp2_with fail
          refine (one_any g cv _ 30 _ hcr (by omega)).mono ?_
          rintro e w7 ⟨b7, rfl, hc7, k7⟩
          have hs7 := k7.size
          have hown7 : w7.ownsRow w.heap.size 9 1 (.slice A6 T.length c6) T.length (strs T) := owns_turn (hi := wr.heap.size) hown (fun x hx => (hown.lt x hx).2) k7 (by omega)
          cases b7
          · have HOWN := Lib.hid hown7
            clear hown7 hown
            go_wp2_with fail
            go_ret
            exact ⟨_, T, rfl, Seen.of_own HOWN.out, hc7.more (by omega), turn_trans kr k7 (by omega)⟩
          · obtain ⟨g', rfl, hbg⟩ : ∃ g', A6 = some ⟨g', 0, none⟩ ∧ w.heap.size ≤ g' := by
              rcases hown7.2 with ⟨hh, h0⟩ | ⟨g', c', cur, hh, hbg, _⟩
              · omega
              · simp at hh; exact ⟨g', hh.1, hbg⟩
            have hT0 : 0 < T.length := by omega
            have cc := hown7.cells (g := g') rfl 0 _ (strs_get T 0 hT0)
            rw [Addr.add_lit, Nat.zero_add] at cc
            have hfz := hown7.frozenAt 0
            have hts := str_size T[0]
            rw [HL.out.2 T[0] (List.getElem_mem hT0)] at hts
            generalize hx0 : T[0] = x0 at *
            have hst := fun y => (hown7.stored 0 y).1
            have ks := fun y => turn_setCell w7 g' 0 y
            have HST := Lib.hid hst
            have HKS := Lib.hid ks
            clear hst ks hown7 hown hx0
            go_wp2_with fail
            go_ret
            generalize hs : (str x0 ++ { data := #[120] } : ByteArray) = sx
            refine ⟨_, T.set 0 sx.data.toList, rfl, ?_, (hc7.keep (HKS.out _) (by omega)).more (by omega), turn_trans (turn_trans kr k7 (by omega)) (HKS.out _) (by omega)⟩
            have e1 : strs (T.set 0 sx.data.toList) = (strs T).set 0 (.string sx) := by
              simp only [strs, List.map_set, ← str_eq]
            rw [e1]
            exact Seen.of_own (HST.out _)

end Go.Proofs.YtbfchebnooanjaaDoor

/- What someOf takes. -/
namespace G294
def risesB (is : List Nat) (n : Nat) : Prop := (∀ i ∈ is, i < n) ∧ is.Pairwise (· < ·)
/-- what someOf answers: the numbers taken so far -/
def takes (n least : Nat) (b : Nat → Bool) : Nat → List Nat
  | 0 => []
  | t + 1 => if n - t ≤ least - (takes n least b t).length ∨ b t = true then takes n least b t ++ [t] else takes n least b t
theorem takes_inv {n least : Nat} (hl : least ≤ n) (b : Nat → Bool) : ∀ t, t ≤ n → risesB (takes n least b t) t ∧ least ≤ (takes n least b t).length + (n - t) ∧ (takes n least b t).length ≤ t
  | 0, _ => ⟨⟨by simp [takes], by simp [takes]⟩, by simp [takes]; omega, by simp [takes]⟩
  | t + 1, ht => by
    obtain ⟨⟨h1, h2⟩, h3, h4⟩ := takes_inv hl b t (by omega)
    unfold takes
    split
    · refine ⟨⟨fun i hi => ?_, ?_⟩, by simp; omega, by simp; omega⟩
      · rcases List.mem_append.1 hi with h | h
        · have := h1 i h; omega
        · simp at h; omega
      · rw [List.pairwise_append]
        exact ⟨h2, by simp, fun a ha c hc => by simp at hc; have := h1 a ha; omega⟩
    · rename_i hc
      exact ⟨⟨fun i hi => by have := h1 i hi; omega, h2⟩, by omega, by omega⟩
end G294

/- Elimination's mathematics: a full rank leaves the identity, the inverse on the left, kernels; Cauchy's matrix has no kernel. -/
namespace G294
theorem g_cancel {a b : UInt8} (ha : a ≠ 0) (h : gmul a b = 0) : b = 0 := by
  have := congrArg (gmul (ginv a)) h
  rwa [← gmul_assoc, ginv_gmul ha, one_gmul, gmul_zero] at this
theorem g_ne {a b : UInt8} (ha : a ≠ 0) (hb : b ≠ 0) : gmul a b ≠ 0 := fun h => hb (g_cancel ha h)
theorem ginv_ne {a : UInt8} (ha : a ≠ 0) : ginv a ≠ 0 := fun h => by
  have := gmul_ginv ha
  rw [h, gmul_zero] at this
  exact absurd this (by decide)
theorem x_self (a : UInt8) : a ^^^ a = 0 := by simp
theorem x_eq {a b : UInt8} (h : a ^^^ b = 0) : a = b := by
  have := congrArg (· ^^^ b) h
  simpa [UInt8.xor_assoc] using this
theorem x_ne {a b : UInt8} (h : a ≠ b) : a ^^^ b ≠ 0 := fun e => h (x_eq e)
/-- full rank at column k: the first k columns are those of the identity -/
theorem est_unit {F : Ents} {r : Nat} : ∀ k, (est F r k).2 = k → ∀ j, j < k → ∀ i, i < r → (est F r k).1 i j = idF i j := by
  intro k
  induction k with
  | zero => intro _ j hj; omega
  | succ k ih =>
    intro hk j hj i hi
    have hle := est_le F r k
    rcases piv_cases (est F r k).1 r (est F r k).2 k with ⟨e, _⟩ | ⟨p, e, h1, h2, h3, _⟩
    · rw [est_none e] at hk; omega
    · rw [est_some e] at hk ⊢
      simp only at hk ⊢
      have hk' : (est F r k).2 = k := by omega
      have ih := ih hk'
      rw [hk'] at h1 ⊢
      have hkr : k < r := by omega
      unfold opF opAt clF scF swF
      simp only
      have s1 : sw k p k = p := by simp [sw]
      by_cases hjk : j = k
      · subst hjk
        by_cases hij : i = j
        · subst hij
          simp only [if_true, s1, idF, ginv_gmul h3]
        · simp only [hij, if_false, if_true, s1, idF, ginv_gmul h3, gmul_one, x_self]
      · have hj' : j < k := by omega
        have z1 : (est F r k).1 p j = 0 := by rw [ih j hj' p (by omega)]; simp [idF, show ¬ p = j by omega]
        by_cases hik : i = k
        · subst hik
          simp only [if_true, s1, z1, gmul_zero, idF, show ¬ i = j by omega, if_false]
        · simp only [hik, if_false, if_true, s1, z1, gmul_zero, UInt8.xor_zero]
          have hsw : sw k p i < r := sw_lt hkr h2 hi
          rw [ih j hj' _ hsw]
          unfold idF sw
          rw [if_neg hik]
          by_cases hip : i = p
          · subst hip; simp [show ¬ k = j by omega, show ¬ i = j by omega]
          · simp [hip]
/-- the inverse on the left -/
theorem inv_left {F : Ents} {k : Nat} (h : (est F k k).2 = k) {i j : Nat} (hi : i < k) (hj : j < k) : sumK k (fun l => gmul (bst F idF k k i l) (F l j)) = idF i j := by
  rw [← bst_lin F F k k i j hi, bst_self]
  exact est_unit k h j hj i hi
/-- an operation takes no kernel away and adds none -/
def kerAt (F : Ents) (r c : Nat) (v : Nat → UInt8) : Prop := ∀ i, i < r → sumK c (fun j => gmul (F i j) (v j)) = 0
theorem op_ker {o : Op} {F : Ents} {r c : Nat} {v : Nat → UInt8} (ha : o.a < r) (hp : o.p < r) (hs : o.s ≠ 0) (h : kerAt (opF o F) r c v) : kerAt F r c v := by
  have row : ∀ i, i < r → sumK c (fun j => gmul (F (sw o.a o.p i) j) (v j)) = 0 := by
    have ra : sumK c (fun j => gmul (F (sw o.a o.p o.a) j) (v j)) = 0 := by
      have := h o.a ha
      have e : (fun j => gmul (opF o F o.a j) (v j)) = fun j => gmul o.s (gmul (F (sw o.a o.p o.a) j) (v j)) := by
        funext j; simp [opF, clF, scF, swF, gmul_assoc]
      rw [e, sumK_mul] at this
      exact g_cancel hs this
    intro i hi
    by_cases hia : i = o.a
    · rw [hia]; exact ra
    · have := h i hi
      have e : (fun j => gmul (opF o F i j) (v j)) = fun j => gmul (F (sw o.a o.p i) j) (v j) ^^^ gmul (gmul (o.fs i) o.s) (gmul (F (sw o.a o.p o.a) j) (v j)) := by
        funext j; simp [opF, clF, scF, swF, hia, gmul_assoc, xor_gmul]
      rw [e, sumK_xor, sumK_mul, ra, gmul_zero, UInt8.xor_zero] at this
      exact this
  intro i hi
  have e : sw o.a o.p (sw o.a o.p i) = i := by
    unfold sw
    by_cases h1 : i = o.a
    · by_cases h2 : o.p = o.a <;> simp [h1, h2]
    · by_cases h2 : i = o.p
      · simp [h2]
      · simp [h1, h2]
  have := row (sw o.a o.p i) (sw_lt ha hp hi)
  rwa [e] at this
theorem est_ker {F : Ents} {r c : Nat} {v : Nat → UInt8} : ∀ k, kerAt (est F r k).1 r c v → kerAt F r c v := by
  intro k
  induction k with
  | zero => exact id
  | succ k ih =>
    intro h
    rcases piv_cases (est F r k).1 r (est F r k).2 k with ⟨e, _⟩ | ⟨p, e, h1, h2, h3, _⟩
    · rw [est_none e] at h; exact ih h
    · rw [est_some e] at h
      exact ih (op_ker (o := opAt (est F r k).1 (est F r k).2 k p) (by show (est F r k).2 < r; omega) h2 (ginv_ne h3) h)
/-- the rank falls short somewhere: the first column without a pivot -/
theorem est_short {F : Ents} {r : Nat} : ∀ k, (est F r k).2 ≠ k → ∃ c, c < k ∧ (est F r c).2 = c ∧ piv (est F r c).1 r c c = none := by
  intro k
  induction k with
  | zero => intro h; exact absurd rfl h
  | succ k ih =>
    intro h
    by_cases hk : (est F r k).2 = k
    · rcases piv_cases (est F r k).1 r (est F r k).2 k with ⟨e, _⟩ | ⟨p, e, _⟩
      · exact ⟨k, by omega, hk, by rw [hk] at e; exact e⟩
      · rw [est_some e] at h; simp only at h; omega
    · obtain ⟨c, h1, h2⟩ := ih hk
      exact ⟨c, by omega, h2⟩
theorem piv_none_at {F : Ents} {r a j : Nat} (h : piv F r a j = none) : ∀ i, a ≤ i → i < r → F i j = 0 := by
  rcases piv_cases F r a j with ⟨_, h'⟩ | ⟨p, e, _⟩
  · exact h'
  · rw [h] at e; cases e
theorem sumK_split {n c : Nat} (f : Nat → UInt8) (hc : c < n) (h : ∀ l, c < l → l < n → f l = 0) : sumK n f = sumK c f ^^^ f c := by
  induction n with
  | zero => omega
  | succ n ih =>
    show sumK n f ^^^ f n = _
    by_cases e : n = c
    · subst e; rfl
    · rw [ih (by omega) (fun l h1 h2 => h l h1 (by omega)), h n (by omega) (by omega), UInt8.xor_zero]
/-- no kernel: full rank -/
theorem rank_full {F : Ents} {r n : Nat} (hn : n ≤ r) (h : ∀ v, kerAt F r n v → ∀ j, j < n → v j = 0) : (est F r n).2 = n := by
  by_cases hk : (est F r n).2 = n
  · exact hk
  · exfalso
    obtain ⟨c, hc, hcc, hp⟩ := est_short n hk
    have hz := piv_none_at hp
    have hu := est_unit c hcc
    have hv := h (fun j => if j < c then (est F r c).1 j c else if j = c then 1 else 0) (est_ker c fun i hi => by
      rw [sumK_split _ hc (fun l h1 h2 => by simp [show ¬ l < c by omega, show ¬ l = c by omega, gmul_zero])]
      simp only [Nat.lt_irrefl, if_false, if_true, gmul_one]
      have e : sumK c (fun j => gmul ((est F r c).1 i j) (if j < c then (est F r c).1 j c else if j = c then 1 else 0)) = sumK c (fun j => gmul (idF i j) ((est F r c).1 j c)) := sumK_congr fun l hl => by
        rw [if_pos hl, hu l hl i hi]
      rw [e]
      by_cases hic : i < c
      · rw [sumK_one _ hic (fun l _ hne => by simp [idF, show ¬ i = l from fun e => hne e.symm, zero_gmul])]
        simp [idF, one_gmul]
      · rw [sumK_congr (g := fun _ => 0) (fun l hl => by simp [idF, show ¬ i = l by omega, zero_gmul]), sumK_zero, hz i (by omega) hi]
        rfl) c hc
    simp at hv
end G294

/- Cauchy's matrix has no kernel; any k rows of the code's matrix have none. -/
namespace G294
theorem gmul_left_comm (a b c : UInt8) : gmul a (gmul b c) = gmul b (gmul a c) := by rw [← gmul_assoc, gmul_comm a b, gmul_assoc]
/-- a sum over a list -/
def sumL {α : Type} (l : List α) (f : α → UInt8) : UInt8 := l.foldr (fun x s => f x ^^^ s) 0
@[simp] theorem sumL_nil {α : Type} (f : α → UInt8) : sumL [] f = 0 := rfl
@[simp] theorem sumL_cons {α : Type} (x : α) (l : List α) (f : α → UInt8) : sumL (x :: l) f = f x ^^^ sumL l f := rfl
theorem sumL_append {α : Type} (l m : List α) (f : α → UInt8) : sumL (l ++ m) f = sumL l f ^^^ sumL m f := by
  induction l with
  | nil => simp
  | cons x l ih => simp [ih, UInt8.xor_assoc]
theorem sumL_range (n : Nat) (f : Nat → UInt8) : sumL (List.range n) f = sumK n f := by
  induction n with
  | zero => rfl
  | succ n ih => rw [List.range_succ, sumL_append, ih]; simp [sumK]
theorem sumL_congr {α : Type} {l : List α} {f g : α → UInt8} (h : ∀ x ∈ l, f x = g x) : sumL l f = sumL l g := by
  induction l with
  | nil => rfl
  | cons x l ih => simp [h x (by simp), ih fun y hy => h y (by simp [hy])]
theorem sumL_xor {α : Type} (l : List α) (f g : α → UInt8) : sumL l (fun x => f x ^^^ g x) = sumL l f ^^^ sumL l g := by
  induction l with
  | nil => simp
  | cons x l ih => simp only [sumL_cons, ih]; exact x4 _ _ _ _
theorem sumL_mul {α : Type} (a : UInt8) (l : List α) (f : α → UInt8) : sumL l (fun x => gmul a (f x)) = gmul a (sumL l f) := by
  induction l with
  | nil => simp [gmul_zero]
  | cons x l ih => simp only [sumL_cons, ih, gmul_xor]
theorem sumL_filter {α : Type} (p : α → Bool) (l : List α) (f : α → UInt8) (h : ∀ x ∈ l, p x = false → f x = 0) : sumL (l.filter p) f = sumL l f := by
  induction l with
  | nil => rfl
  | cons x l ih =>
    have ih := ih fun y hy => h y (by simp [hy])
    cases e : p x with
    | true => simp [List.filter_cons, e, ih]
    | false => simp [List.filter_cons, e, ih, h x (by simp) e]
theorem sumL_zero {α : Type} (l : List α) : sumL l (fun _ => 0) = 0 := by
  induction l with
  | nil => rfl
  | cons x l ih => simp [ih]
theorem sumL_map {α β : Type} (g : α → β) (l : List α) (f : β → UInt8) : sumL (l.map g) f = sumL l (fun x => f (g x)) := by
  induction l with
  | nil => rfl
  | cons x l ih => simp [ih]
theorem cau_term {u v d : UInt8} (hu : u ≠ 0) (hv : v ≠ 0) : gmul (u ^^^ d) (ginv u) ^^^ gmul (v ^^^ d) (ginv v) = gmul (u ^^^ v) (gmul d (gmul (ginv v) (ginv u))) := by
  have e1 : gmul u (gmul d (gmul (ginv v) (ginv u))) = gmul d (ginv v) := by
    rw [gmul_left_comm u d, gmul_left_comm u (ginv v), gmul_ginv hu, gmul_one]
  have e2 : gmul v (gmul d (gmul (ginv v) (ginv u))) = gmul d (ginv u) := by
    rw [gmul_left_comm v d, ← gmul_assoc v, gmul_ginv hv, one_gmul]
  rw [xor_gmul, xor_gmul, xor_gmul, gmul_ginv hu, gmul_ginv hv, e1, e2, x4, x_self, UInt8.zero_xor, UInt8.xor_comm]
/-- Cauchy's matrix has no kernel -/
theorem cau_list : ∀ (ys xs : List UInt8) (a : UInt8 → UInt8), ys.length ≤ xs.length → xs.Nodup → ys.Nodup → (∀ x ∈ xs, ∀ y ∈ ys, x ≠ y) →
    (∀ x ∈ xs, sumL ys (fun y => gmul (a y) (ginv (x ^^^ y))) = 0) → ∀ y ∈ ys, a y = 0
  | [], _, _, _, _, _, _, _ => by simp
  | Y :: ys, [], _, h, _, _, _, _ => by simp at h
  | Y :: ys, X :: xs, a, hl, hx, hy, hd, hs => by
    have hx' := List.nodup_cons.1 hx
    have hy' := List.nodup_cons.1 hy
    have hXY : X ^^^ Y ≠ 0 := x_ne (hd X (by simp) Y (by simp))
    have mul : ∀ x ∈ X :: xs, a Y = sumL ys (fun y => gmul (a y) (gmul (x ^^^ Y) (ginv (x ^^^ y)))) := by
      intro x hx1
      have h1 := hs x hx1
      have hxY : x ^^^ Y ≠ 0 := x_ne (hd x hx1 Y (by simp))
      have h2 := congrArg (gmul (x ^^^ Y)) h1
      rw [sumL_cons, gmul_xor, gmul_zero, gmul_left_comm, gmul_ginv hxY, gmul_one, ← sumL_mul] at h2
      rw [x_eq h2]
      exact sumL_congr fun y _ => gmul_left_comm _ _ _
    have hb : ∀ y ∈ ys, gmul (a y) (gmul (y ^^^ Y) (ginv (X ^^^ y))) = 0 := by
      refine cau_list ys xs (fun y => gmul (a y) (gmul (y ^^^ Y) (ginv (X ^^^ y)))) (by simpa using hl) hx'.2 hy'.2 (fun x h1 y h2 => hd x (by simp [h1]) y (by simp [h2])) ?_
      intro x h1
      have hxX : x ^^^ X ≠ 0 := x_ne fun e => hx'.1 (e ▸ h1)
      have e := (mul x (by simp [h1])).symm.trans (mul X (by simp))
      have e2 : sumL ys (fun y => gmul (a y) (gmul (x ^^^ Y) (ginv (x ^^^ y))) ^^^ gmul (a y) (gmul (X ^^^ Y) (ginv (X ^^^ y)))) = 0 := by rw [sumL_xor, e, x_self]
      have e3 : sumL ys (fun y => gmul (x ^^^ X) (gmul (gmul (a y) (gmul (y ^^^ Y) (ginv (X ^^^ y)))) (ginv (x ^^^ y)))) = 0 := by
        rw [← e2]
        refine sumL_congr fun y h2 => ?_
        have n1 : x ^^^ y ≠ 0 := x_ne (hd x (by simp [h1]) y (by simp [h2]))
        have n2 : X ^^^ y ≠ 0 := x_ne (hd X (by simp) y (by simp [h2]))
        have t := cau_term (d := y ^^^ Y) n1 n2
        have w1 : x ^^^ y ^^^ (y ^^^ Y) = x ^^^ Y := by rw [UInt8.xor_assoc, ← UInt8.xor_assoc y y Y, x_self, UInt8.zero_xor]
        have w2 : X ^^^ y ^^^ (y ^^^ Y) = X ^^^ Y := by rw [UInt8.xor_assoc, ← UInt8.xor_assoc y y Y, x_self, UInt8.zero_xor]
        have w3 : x ^^^ y ^^^ (X ^^^ y) = x ^^^ X := by rw [x4, x_self, UInt8.xor_zero]
        rw [w1, w2, w3] at t
        rw [← gmul_xor, t]
        rw [gmul_assoc, gmul_assoc, gmul_left_comm (x ^^^ X) (a y)]
      rw [sumL_mul] at e3
      exact g_cancel hxX e3
    have ha : ∀ y ∈ ys, a y = 0 := fun y h2 => by
      have n1 : y ^^^ Y ≠ 0 := x_ne fun e => hy'.1 (e ▸ h2)
      have n2 : X ^^^ y ≠ 0 := x_ne (hd X (by simp) y (by simp [h2]))
      have := hb y h2
      rw [gmul_comm] at this
      exact g_cancel (g_ne n1 (ginv_ne n2)) this
    intro y h2
    rcases List.mem_cons.1 h2 with rfl | h2
    · rw [mul X (by simp), sumL_congr (g := fun _ => 0) (fun z hz => by rw [ha z hz, zero_gmul])]
      exact sumL_zero ys
    · exact ha y h2
theorem len_sub {α : Type} [DecidableEq α] : ∀ {l l' : List α}, l.Nodup → (∀ x ∈ l, x ∈ l') → l.length ≤ l'.length
  | [], _, _, _ => by simp
  | x :: l, l', hn, hs => by
    have h1 := List.nodup_cons.1 hn
    have hx := hs x (by simp)
    have := len_sub (l' := l'.erase x) h1.2 fun y hy => (List.mem_erase_of_ne (show y ≠ x from fun e => h1.1 (by rw [← e]; exact hy))).2 (hs y (by simp [hy]))
    rw [List.length_erase_of_mem hx] at this
    have : 0 < l'.length := List.length_pos_of_mem hx
    simp; omega
theorem len_parts {α : Type} (p : α → Bool) (l : List α) : (l.filter p).length + (l.filter fun x => !p x).length = l.length := by
  induction l with
  | nil => rfl
  | cons x l ih => cases e : p x <;> simp [List.filter_cons, e] <;> omega
end G294
