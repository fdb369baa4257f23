/- Joined texts: CurWalks, CurVec. -/
import Derived.Test.YtfglkgeeelapgaaDoorProg
import Derived.Deep.QuietTactic
import Derived.BigQuiet
import Derived.Test.YtfglkgeeelapgaaDoorBd02
import Derived.Test.YtfglkgeeelapgaaDoorBd03
set_option linter.unusedSimpArgs false
set_option linter.unusedVariables false
/- Contracts of the model's cursor: what it draws is some number; only its own block is written. -/
namespace Go.Proofs.YtfglkgeeelapgaaDoor
open Go.RowKit G294

/-- the cursor at block g: its code lies below g, it has moved at most n times -/
def CurAt (w : World) (g : Nat) (cv : Value) (n : Nat) : Prop :=
  ∃ (at_ : Nat) (seed : Int) (l : List UInt8) (A : Option Addr) (c : Nat), w.heap[g]? = some (.cells #[cv, .int .i64 at_, .int .u64 seed] 62 (0, 0)) ∧ at_ ≤ n ∧
    cv = .slice A l.length c ∧ l.length ≤ c ∧ c ≤ maxLen ∧ (0 < l.length → ∃ b off, A = some ⟨b, off, none⟩ ∧ b < g ∧ ∀ i u, (bys l)[i]? = some u → w.cell? ⟨b, off + i, none⟩ = some u)

/-- a number in a range is drawn -/
def Draws (w : World) (g : Nat) (cv : Value) (n : Nat) (lo hi : Int) (e : Ending) (w' : World) : Prop := ∃ r : Int, e = .returned (.int .i64 r) ∧ lo ≤ r ∧ r ≤ hi ∧ CurAt w' g cv n ∧ TurnIn g (g + 1) w w'

theorem draws_end {w : World} {g n at_ c : Nat} {seed s r : Int} {l : List UInt8} {A : Option Addr} (q q' : Nat)
    (hg : w.heap[g]? = some (.cells #[.slice A l.length c, .int .i64 at_, .int .u64 seed] 62 (0, 0))) (hat : at_ ≤ n) (hlc : l.length ≤ c) (hcm : c ≤ maxLen)
    (hx : 0 < l.length → ∃ b off, A = some ⟨b, off, none⟩ ∧ b < g ∧ ∀ i u, (bys l)[i]? = some u → w.cell? ⟨b, off + i, none⟩ = some u) (h0 : 0 ≤ r) (h1 : r ≤ 255) :
    Draws w g (.slice A l.length c) (n + 1) 0 255 (.returned (.int .i64 r)) ((((w.drewN q).setCell ⟨g, 1, none⟩ (.int .i64 ((at_ : Int) + 1))).setCell ⟨g, 2, none⟩ (.int .u64 s)).drewN q') := by
  have e1 : ((((w.drewN q).setCell ⟨g, 1, none⟩ (.int .i64 ((at_ : Int) + 1))).setCell ⟨g, 2, none⟩ (.int .u64 s)).drewN q').heap[g]? = some (.cells #[.slice A l.length c, .int .i64 ((at_ + 1 : Nat) : Int), .int .u64 s] 62 (0, 0)) := by
    have h2 : (w.drewN q).heap[g]? = some (.cells #[.slice A l.length c, .int .i64 at_, .int .u64 seed] 62 (0, 0)) := hg
    have h3 := heap_setCell_same (w.drewN q) g 1 _ _ (.int .i64 ((at_ : Int) + 1)) h2
    have h4 := heap_setCell_same _ g 2 _ _ (.int .u64 s) h3
    exact h4.trans (by simp)
  have hblk : ∀ k, k ≠ g → ((((w.drewN q).setCell ⟨g, 1, none⟩ (.int .i64 ((at_ : Int) + 1))).setCell ⟨g, 2, none⟩ (.int .u64 s)).drewN q').heap[k]? = w.heap[k]? := fun k hk => by
    have h3 := heap_setCell_other (w.drewN q) ⟨g, 1, none⟩ k (.int .i64 ((at_ : Int) + 1)) hk
    have h4 := heap_setCell_other ((w.drewN q).setCell ⟨g, 1, none⟩ (.int .i64 ((at_ : Int) + 1))) ⟨g, 2, none⟩ k (.int .u64 s) hk
    exact h4.trans h3
  refine ⟨r, rfl, h0, h1, ⟨at_ + 1, s, l, A, c, e1, by omega, rfl, hlc, hcm, fun hp => ?_⟩, ⟨rfl, rfl, rfl, ?_, fun k hk hd => hblk k (by omega)⟩⟩
  · obtain ⟨b, off, rfl, hb, hc⟩ := hx hp
    exact ⟨b, off, rfl, hb, fun i u hu => (World.cell?_of_block (a := ⟨b, off + i, none⟩) (hblk b (by omega))).trans (hc i u hu)⟩
  · simp [World.setCell, World.drewN]
theorem wrap64_u8 (x : UInt8) : wrap64 (x.toNat : Int) = (x.toNat : Int) := by
  have := x.toNat_lt
  unfold wrap64; omega
theorem and255 (x : Int) : 0 ≤ wrap64 (bits BinOp.and IntKind.u64 x 255) ∧ wrap64 (bits BinOp.and IntKind.u64 x 255) ≤ 255 := by
  have h : 0 ≤ bits BinOp.and IntKind.u64 x 255 ∧ bits BinOp.and IntKind.u64 x 255 ≤ 255 := by
    show 0 ≤ IntKind.u64.wrap ((BitVec.ofInt 64 x &&& BitVec.ofInt 64 255).toNat : Int) ∧ IntKind.u64.wrap ((BitVec.ofInt 64 x &&& BitVec.ofInt 64 255).toNat : Int) ≤ 255
    have e : (BitVec.ofInt 64 255).toNat = 255 := by decide
    have hle : (BitVec.ofInt 64 x &&& BitVec.ofInt 64 255).toNat ≤ 255 := by
      rw [BitVec.toNat_and, e]; exact Nat.and_le_right
    generalize (BitVec.ofInt 64 x &&& BitVec.ofInt 64 255).toNat = y at *
    have : IntKind.u64.wrap (y : Int) = y := by simp [IntKind.wrap, IntKind.bits, IntKind.signed]; omega
    omega
  generalize bits BinOp.and IntKind.u64 x 255 = y at *
  unfold wrap64; omega

set_option maxHeartbeats 1000000 in
theorem next_any (g : Nat) (cv : Value) (n : Nat) (w : World) (hc : CurAt w g cv n) (hn : n ≤ 1000000000000) :
    Calls Tryd.prog 109 #[.pointer (some ⟨g, 0, none⟩)] w (Draws w g cv (n + 1) 0 255) := by
  obtain ⟨at_, seed, l, A, c, hg, hat, rfl, hlc, hcm, hx⟩ := hc
  unfold maxLen at hcm
  have hc0 : w.cell? ⟨g, 0, none⟩ = some (.slice A l.length c) := by rw [cell_of_row w g 0 _ _ _ hg]; rfl
  have hc1 : w.cell? ⟨g, 1, none⟩ = some (.int .i64 at_) := by rw [cell_of_row w g 1 _ _ _ hg]; rfl
  have hc2 : w.cell? ⟨g, 2, none⟩ = some (.int .u64 seed) := by rw [cell_of_row w g 2 _ _ _ hg]; rfl
  have hf1 : w.frozen? ⟨g, 1, none⟩ = false := frozen_of_row w g 1 _ _ hg
  have hf2 : w.frozen? ⟨g, 2, none⟩ = false := frozen_of_row w g 2 _ _ hg
  have HG := Lib.hid hg
  clear hg
  by_cases hlt : at_ < l.length
  · obtain ⟨b, off, rfl, hbl, hcell⟩ := hx (by omega)
    have hcx := hcell at_ _ (bys_get l at_ hlt)
    have hd : decide ((at_ : Int) < (l.length : Int)) = true := by simp; omega
    have hli : (at_ : Int) < (l.length : Int) := by omega
    have HX := Lib.hid hcell
    clear hcell hx
    go_enter Tryd.func109, Tryd.ntmps109
    go_wp2_with fail
    go_quiet (fail)
    go_wp2_with fail
    go_quiet (fail)
    go_wp2_with fail
    go_quiet (fail)
    go_wp2_with fail
    go_ret
    have hu := l[at_].toNat_lt
    exact draws_end _ _ HG.out hat hlc hcm (fun _ => ⟨b, off, rfl, hbl, HX.out⟩) (by rw [wrap64_u8]; omega) (by rw [wrap64_u8]; omega)
  · have HX := Lib.hid hx
    clear hx
    have hd : decide ((at_ : Int) < (l.length : Int)) = false := by simp; omega
    go_enter Tryd.func109, Tryd.ntmps109
    go_wp2_with fail
    go_quiet (fail)
    go_wp2_with fail
    go_quiet (fail)
    go_wp2_with fail
    go_ret
    exact draws_end _ _ HG.out hat hlc hcm HX.out (and255 _).1 (and255 _).2

theorem CurAt.more {w : World} {g : Nat} {cv : Value} {n m : Nat} (h : CurAt w g cv n) (hm : n ≤ m) : CurAt w g cv m := by
  obtain ⟨at_, seed, l, A, c, h1, h2, h3⟩ := h
  exact ⟨at_, seed, l, A, c, h1, by omega, h3⟩
theorem CurAt.lt {w : World} {g : Nat} {cv : Value} {n : Nat} (h : CurAt w g cv n) : g < w.heap.size := by
  obtain ⟨at_, seed, l, A, c, h1, _⟩ := h
  exact (Array.getElem?_eq_some_iff.1 h1).1
theorem CurAt.keep {w w' : World} {g : Nat} {cv : Value} {n a b : Nat} (h : CurAt w g cv n) (t : TurnIn a b w w') (hd : g < a ∨ b ≤ 0) : CurAt w' g cv n := by
  have hl := h.lt
  obtain ⟨at_, seed, l, A, c, h1, h2, h3, h4, h5, h6⟩ := h
  refine ⟨at_, seed, l, A, c, (t.block g hl (by omega)).trans h1, h2, h3, h4, h5, fun hp => ?_⟩
  obtain ⟨b', off, rfl, hb, hc⟩ := h6 hp
  exact ⟨b', off, rfl, hb, fun i u hu => (World.cell?_of_block (a := ⟨b', off + i, none⟩) (t.block b' (by omega) (by omega))).trans (hc i u hu)⟩

/-- what pick may answer at most -/
def pickHi (n : Int) : Int := if n ≤ 1 then 0 else n - 1

set_option maxHeartbeats 1000000 in
theorem pick_any (g : Nat) (cv : Value) (m : Nat) (n : Int) (w : World) (hc : CurAt w g cv m) (hm : m ≤ 100000000000) :
    Calls Tryd.prog 66 #[.pointer (some ⟨g, 0, none⟩), .int .i64 n] w (Draws w g cv (m + 2) 0 (pickHi n)) := by
  by_cases h1 : n ≤ 1
  · have HP : Hid (pickHi n = 0) := if_pos h1
    go_enter Tryd.func66, Tryd.ntmps66
    go_wp2_with fail
    go_ret
    exact ⟨0, rfl, by omega, by rw [HP.out]; omega, hc.more (by omega), ⟨rfl, rfl, rfl, Nat.le_refl _, fun _ _ _ => rfl⟩⟩
  · have HP : Hid (pickHi n = n - 1) := if_neg h1
    by_cases h2 : 200 < n
    · go_enter Tryd.func66, Tryd.ntmps66
      go_wp2_with fail
      refine (next_any g cv m _ hc (by omega)).mono ?_
      rintro e w1 ⟨x, rfl, x0, x1, hc1, k1⟩
      go_wp2_with fail
      refine (next_any g cv (m + 1) _ hc1 (by omega)).mono ?_
      rintro e w2 ⟨y, rfl, y0, y1, hc2, k2⟩
      have hn0 : (n == 0) = false := by simp; omega
      have HR := Lib.hid (Int.emod_nonneg (x * 256 + y) (show n ≠ 0 by omega))
      have HL := Lib.hid (Int.emod_lt_of_pos (x * 256 + y) (show 0 < n by omega))
      go_wp2_with fail
      go_ret
      refine ⟨(x * 256 + y) % n, rfl, HR.out, by rw [HP.out]; have := HL.out; omega, hc2, turn_trans k1 k2 (by omega)⟩
    · go_enter Tryd.func66, Tryd.ntmps66
      go_wp2_with fail
      refine (next_any g cv m _ hc (by omega)).mono ?_
      rintro e w1 ⟨x, rfl, x0, x1, hc1, k1⟩
      have hn0 : (n == 0) = false := by simp; omega
      have HR := Lib.hid (Int.emod_nonneg x (show n ≠ 0 by omega))
      have HL := Lib.hid (Int.emod_lt_of_pos x (show 0 < n by omega))
      go_wp2_with fail
      go_ret
      exact ⟨x % n, rfl, HR.out, by rw [HP.out]; have := HL.out; omega, hc1.more (by omega), k1⟩

/-- a bool is drawn -/
def DrawsB (w : World) (g : Nat) (cv : Value) (n : Nat) (e : Ending) (w' : World) : Prop := ∃ b : Bool, e = .returned (.bool b) ∧ CurAt w' g cv n ∧ TurnIn g (g + 1) w w'

set_option maxHeartbeats 400000 in
theorem one_any (g : Nat) (cv : Value) (m : Nat) (n : Int) (w : World) (hc : CurAt w g cv m) (hm : m ≤ 100000000000) :
    Calls Tryd.prog 100 #[.pointer (some ⟨g, 0, none⟩), .int .i64 n] w (DrawsB w g cv (m + 2)) := by
  go_enter Tryd.func100, Tryd.ntmps100
  go_wp2_with fail
  refine (pick_any g cv m n _ hc hm).mono ?_
  rintro e w1 ⟨x, rfl, x0, x1, hc1, k1⟩
  go_wp2_with fail
  go_ret
  exact ⟨_, rfl, hc1, k1⟩

/-- one of some numbers is drawn -/
def DrawsOf (w : World) (g : Nat) (cv : Value) (n : Nat) (l : List Int) (e : Ending) (w' : World) : Prop := ∃ r : Int, e = .returned (.int .i64 r) ∧ r ∈ l ∧ CurAt w' g cv n ∧ TurnIn g (g + 1) w w'

set_option maxHeartbeats 400000 in
theorem among_any (g : Nat) (cv : Value) (m : Nat) (b c : Nat) (l : List Int) (w : World) (hc : CurAt w g cv m) (hm : m ≤ 100000000000) (hp : 0 < l.length) (hl : l.length ≤ 1000) (hlc : l.length ≤ c) (hc' : c ≤ 1000) (hbg : b ≠ g) (hbl : b < w.heap.size)
    (hcell : ∀ i u, (ints l)[i]? = some u → w.cell? ⟨b, i, none⟩ = some u) :
    Calls Tryd.prog 108 #[.pointer (some ⟨g, 0, none⟩), .slice (some ⟨b, 0, none⟩) l.length c] w (DrawsOf w g cv (m + 2) l) := by
  have HC := Lib.hid hcell
  clear hcell
  generalize hnn : l.length = n at *
  have HN := Lib.hid hnn
  clear hnn
  go_enter Tryd.func108, Tryd.ntmps108
  go_wp2_with fail
  refine (pick_any g cv m n _ hc hm).mono ?_
  rintro e w1 ⟨x, rfl, x0, x1, hc1, k1⟩
  have hxn : x < n := by
    unfold pickHi at x1
    split at x1 <;> omega
  clear x1
  obtain ⟨i, rfl⟩ := Int.eq_ofNat_of_zero_le x0
  have hi : i < l.length := by rw [HN.out]; omega
  have hcx : w1.cell? ⟨b, i, none⟩ = some (.int .i64 l[i]) :=
    (World.cell?_of_block (a := ⟨b, i, none⟩) (k1.block b hbl (by omega))).trans (HC.out i _ (by simp [ints, hi]))
  go_wp2_with fail
  go_ret
  exact ⟨l[i], rfl, List.getElem_mem hi, hc1, k1⟩

/-- a byte is drawn -/
def DrawsU (w : World) (g : Nat) (cv : Value) (n : Nat) (e : Ending) (w' : World) : Prop := ∃ x : UInt8, e = .returned (.int .u8 (x.toNat : Int)) ∧ CurAt w' g cv n ∧ TurnIn g (g + 1) w w'
theorem to_byte (r : Int) : r % 256 = ((UInt8.ofNat (r % 256).toNat).toNat : Int) := by
  rw [UInt8.toNat_ofNat']; omega

set_option maxHeartbeats 1000000 in
theorem byte_any (g : Nat) (cv : Value) (m : Nat) (w : World) (hc : CurAt w g cv m) (hm : m ≤ 10000000000) :
    Calls Tryd.prog 129 #[.pointer (some ⟨g, 0, none⟩)] w (DrawsU w g cv (m + 4)) := by
  go_enter Tryd.func129, Tryd.ntmps129
  go_wp2_with fail
  refine (one_any g cv m 5 _ hc (by omega)).mono ?_
  rintro e w1 ⟨b, rfl, hc1, k1⟩
  have hg1 := hc1.lt
  cases b
  · go_wp2_with fail
    refine (pick_any g cv (m + 2) 256 _ hc1 (by omega)).mono ?_
    rintro e w2 ⟨r, rfl, r0, r1, hc2, k2⟩
    clear r1
    go_wp2_with fail
    go_ret
    exact ⟨_, by rw [← to_byte r]; rfl, hc2, turn_trans k1 k2 (by omega)⟩
  · go_wp2_with fail
    have k2 := turn_alloc w1 (.cells #[.int .i64 0, .int .i64 1, .int .i64 2, .int .i64 3, .int .i64 255, .int .i64 27] 3)
    refine (among_any g cv (m + 2) w1.heap.size 6 [0, 1, 2, 3, 255, 27] _ (hc1.keep k2 (by omega)) (by omega) (by simp) (by simp) (by simp) (by omega) (by omega) (by simp) ?_).mono ?_
    · intro i u hu
      rw [cell_of_row _ w1.heap.size i _ _ _ (heap_alloc_new w1 _)]
      simpa [ints] using hu
    rintro e w3 ⟨r, rfl, hr, hc3, k3⟩
    clear hr
    go_wp2_with fail
    go_ret
    exact ⟨_, by rw [← to_byte r]; rfl, hc3, turn_trans (turn_trans k1 k2 (by omega)) k3 (by omega)⟩

end Go.Proofs.YtfglkgeeelapgaaDoor

/- Drawn vectors. -/
namespace Go.Proofs.YtfglkgeeelapgaaDoor
open Go.RowKit G294

/-- a new cursor -/
theorem cur_new {w : World} {v : Value} {l : List UInt8} (hv : Seen w v (bys l)) : CurAt (w.alloc (.cells #[v, .int .i64 0, .int .u64 0] 62)) w.heap.size v 0 := by
  obtain ⟨A, c, rfl, hlc, hcm, hx⟩ := hv
  rw [bys_length] at hlc hx ⊢
  refine ⟨0, 0, l, A, c, heap_alloc_new w _, Nat.le_refl _, rfl, hlc, hcm, fun hp => ?_⟩
  obtain ⟨b, off, rfl, hb, hc⟩ := hx hp
  exact ⟨b, off, rfl, hb, fun i u hu => (World.cell?_alloc_lt w _ ⟨b, off + i, none⟩ hb).trans (hc i u hu)⟩

/-- some bytes of a given number are drawn into a new row -/
def DrawsBytes (w : World) (g : Nat) (cv : Value) (m n : Nat) (e : Ending) (w' : World) : Prop :=
  ∃ (v : Value) (l : List UInt8), e = .returned v ∧ l.length = n ∧ w'.ownsRow w.heap.size 5 1 v l.length (bys l) ∧ CurAt w' g cv m ∧ TurnIn g (g + 1) w w'

theorem turn_own {B : Nat} {w w' : World} {e : TypeId} {size n : Nat} {v : Value} {xs : List Value} (hown : w.ownsRow B e size v n xs) (hg : w.grownBy w' v.ownBlock) : TurnIn B w.heap.size w w' :=
  TurnIn.of_grown hg fun g h => hown.lt g h

set_option maxHeartbeats 1000000 in
theorem vector_any (g : Nat) (cv : Value) (m n : Nat) (w : World) (hc : CurAt w g cv m) (hm : m + 4 * n ≤ 1000000000) :
    Calls Tryd.prog 112 #[.pointer (some ⟨g, 0, none⟩), .int .i64 n] w (DrawsBytes w g cv (m + 4 * n) n) := by
  have hgw := hc.lt
  go_enter Tryd.func112, Tryd.ntmps112
  go_wp2_with fail
  go_loopw [1, 5] (fun y o wr => ∃ (k : Nat) (l : List UInt8), k ≤ n ∧ y = .int .i64 k ∧ Hid (l.length + k = n) ∧ wr.ownsRow w.heap.size 5 1 o l.length (bys l) ∧ CurAt wr g cv (m + 4 * (n - k)) ∧ TurnIn g (g + 1) w wr)
    (fun y _ _ => (intOf y).toNat)
  case atStart => exact ⟨n, [], Nat.le_refl _, rfl, by show 0 + n = n; omega, World.ownsRow_nil _ _ _ _, hc.more (by omega), ⟨rfl, rfl, rfl, Nat.le_refl _, fun _ _ _ => rfl⟩⟩
  case round =>
    obtain ⟨k, l, hk, rfl, HL, hown, hcr, kr⟩ := hrel
    have hsr := kr.size
    by_cases hlt : 0 < k
    · go_wp2_with fail
      refine (byte_any g cv _ _ hcr (by omega)).mono ?_
      rintro e w1 ⟨x, rfl, hc1, k1⟩
      have hs1 := k1.size
      have hown1 : w1.ownsRow w.heap.size 5 1 u5 l.length (bys l) := by
        refine ⟨hown.1, ?_⟩
        rcases hown.2 with hn | ⟨g', cap, cur, e1, hbg, hg', rest⟩
        · exact .inl hn
        · refine .inr ⟨g', cap, cur, e1, hbg, ?_, rest⟩
          rw [k1.block g' (Array.getElem?_eq_some_iff.1 hg').1 (by omega)]
          exact hg'
      have hll : l.length ≤ 1000000000 := by have := HL.out; omega
      go_wp2_with (at_builtin; refine wpList_append1 rfl _ _ _ rfl w.heap.size 5 _ _ Tryd.underlying22 infoByte rfl _ l.length _ rfl (hown1.alloc _) w1.heap.size (.int .u8 (x.toNat : Int)) rfl ?c1 rfl ?c2 ?c3 ?c4 ?_)
      case c1 => simp
      case c2 => exact hll
      case c3 => omega
      case c4 => simp; omega
      intro v' w2 hown2 hg2 _
      have ka := turn_alloc w1 (.cells #[.int .u8 (x.toNat : Int)] 5)
      have ko := turn_own (hown1.alloc (.cells #[.int .u8 (x.toNat : Int)] 5)) hg2
      have hc2 := (hc1.keep ka (by omega)).keep ko (by omega)
      have k2 : TurnIn g (g + 1) w w2 := turn_trans (turn_trans (turn_trans kr k1 (by omega)) ka (by omega)) ko (by omega)
      have hown3 : w2.ownsRow w.heap.size 5 1 v' (l ++ [x]).length (bys (l ++ [x])) := by
        rw [bys_append, List.length_append]; exact hown2
      clear hown2 hg2 hown1 ka ko hc1 k1 hown hcr kr
      go_wp2_with fail
      go_roundw
      case rel => exact ⟨k - 1, l ++ [x], by omega, by go_num, by show _ = _; have := HL.out; rw [List.length_append, List.length_singleton]; omega, hown3, hc2.more (by omega), k2⟩
      case measure => simp [intOf]; omega
    · obtain rfl : k = 0 := by omega
      go_wp2_with fail
      go_ret
      exact ⟨_, l, rfl, HL.out, hown, hcr.more (by omega), kr⟩

/-- two drawn vectors -/
def RetVecs (w : World) (e : Ending) (w' : World) : Prop :=
  ∃ (v u : Value) (l m : List UInt8), e = .returned (.tuple #[v, u]) ∧ Seen w' v (bys l) ∧ Seen w' u (bys m) ∧ l.length ≤ 100 ∧ m.length ≤ 100 ∧ TurnIn 0 0 w w'

end Go.Proofs.YtfglkgeeelapgaaDoor
