/- Joined texts: CutS, Strp5, AddMath, AddM2, Add1. -/
import Derived.Test.YtbopocpmodpfcaaDoorBd07
import Derived.Lib.ConvBytes
import Derived.Deep.AppendSrc
import Derived.StillTailTactics
import Derived.Test.YtbopocpmodpfcaaDoorBd10
import Derived.Deep.QuietTactic
import Derived.BigQuiet
import Derived.Deep.RegionHeld3
import Derived.Test.YtbopocpmodpfcaaDoorBd08
set_option linter.unusedSimpArgs false
set_option linter.unusedVariables false
/- A stripe that a call hands back, in a box of two cells that was made ahead of the call or behind it. -/
namespace G294
open Go Go.RowKit
/-- two cells of a box -/
def BoxD (B : Nat) (a b : Value) (W : World) : Prop := W.cell? ⟨B, 0, none⟩ = some a ∧ W.cell? ⟨B, 1, none⟩ = some b ∧ W.frozen? ⟨B, 0, none⟩ = false ∧ W.frozen? ⟨B, 1, none⟩ = false ∧ B < W.heap.size
theorem boxD_made {X W : World} {a b : Value} {T : TypeId} (k : TurnIn 0 0 (X.alloc (.cells #[a, b] T)) W) : BoxD X.heap.size a b W :=
  ⟨cell_turn k (alloc_duo0 _ _ _ _) (alloc_lt _ _), cell_turn k (alloc_duo1 _ _ _ _) (alloc_lt _ _), frozen_turn k (alloc_frz _ _ _ _) (alloc_lt _ _), frozen_turn k (alloc_frz _ _ _ _) (alloc_lt _ _), Nat.lt_of_lt_of_le (alloc_lt _ _) k.size⟩
theorem boxD_kept {W W' : World} {B : Nat} {a b : Value} (h : BoxD B a b W) (k : TurnIn 0 0 W W') : BoxD B a b W' :=
  ⟨cell_turn k h.1 h.2.2.2.2, cell_turn k h.2.1 h.2.2.2.2, frozen_turn k h.2.2.1 h.2.2.2.2, frozen_turn k h.2.2.2.1 h.2.2.2.2, Nat.lt_of_lt_of_le h.2.2.2.2 k.size⟩
def TBoxOk (E : TypeId) (w0 : World) (t : Strp) (ok : Bool) (s6 s7 : Value) (W : World) : Prop := ∃ B x y lo hi, s6 = .pointer (some ⟨B, 0, none⟩) ∧ s7 = .bool ok ∧ W.cell? ⟨B, 0, none⟩ = some x ∧ W.cell? ⟨B, 1, none⟩ = some y ∧ B < W.heap.size ∧ w0.heap.size ≤ B ∧
  OwnT E W lo hi x y t ∧ w0.heap.size ≤ lo ∧ hi ≤ W.heap.size ∧ (B < lo ∨ hi ≤ B) ∧ TurnIn 0 0 w0 W
theorem tbox_new {E : TypeId} {w0 X : World} {lo : Nat} {x y : Value} {t : Strp} {ok : Bool} {T : TypeId} (k : TurnIn 0 0 w0 X) (o : OwnT E X lo X.heap.size x y t) (h : w0.heap.size ≤ lo) : TBoxOk E w0 t ok (.pointer (some ⟨X.heap.size, 0, none⟩)) (.bool ok) (X.alloc (.cells #[x, y] T)) :=
  ⟨_, _, _, lo, X.heap.size, rfl, rfl, alloc_duo0 _ _ _ _, alloc_duo1 _ _ _ _, alloc_lt _ _, k.size, o.keep (turn_alloc _ _) (by omega), h, Nat.le_of_lt (alloc_lt _ _), .inr (Nat.le_refl _), turn_trans k (turn_alloc _ _) (by omega)⟩
theorem tbox_set {E : TypeId} {w0 X : World} {lo B : Nat} {x y p q : Value} {t : Strp} {ok : Bool} (b : BoxD B p q X) (hl : B < lo) (hB : w0.heap.size ≤ B) (k : TurnIn 0 0 w0 X) (o : OwnT E X lo X.heap.size x y t) :
    TBoxOk E w0 t ok (.pointer (some ⟨B, 0, none⟩)) (.bool ok) ((X.setCell ⟨B, 0, none⟩ x).setCell ⟨B, 1, none⟩ y) := by
  obtain ⟨b0, b1, _, _, b4⟩ := b
  have k0 := turn_setCell X B 0 x
  have k1 := turn_setCell (X.setCell ⟨B, 0, none⟩ x) B 1 y
  have e1 : (X.setCell ⟨B, 0, none⟩ x).cell? ⟨B, 1, none⟩ = some q := (World.cell?_setCell_other _ _ _ _ (by simp)).trans b1
  have s0 := k0.size
  have s1 := k1.size
  have hlo : w0.heap.size ≤ lo := by omega
  exact ⟨B, x, y, lo, X.heap.size, rfl, rfl, (World.cell?_setCell_other _ _ _ _ (by simp)).trans (World.cell?_setCell_same _ _ _ b0), World.cell?_setCell_same _ _ _ e1, by omega, hB, (o.keep k0 (by omega)).keep k1 (by omega), hlo, by omega, .inl hl, TurnIn.of_below ((k.to_below.setCell (p := ⟨B, 0, none⟩) hB _).setCell (p := ⟨B, 1, none⟩) hB _)⟩
/-- what the loads of a drawn region read: two boxes of two cells, in worlds that grew -/
def FourAt (w1 : World) (B C : Nat) (a b c d : Value) (W : World) : Prop := Below w1.heap.size w1 W ∧ W.cell? ⟨B, 0, none⟩ = some a ∧ W.cell? ⟨B, 1, none⟩ = some b ∧ W.cell? ⟨C, 0, none⟩ = some c ∧ W.cell? ⟨C, 1, none⟩ = some d
theorem four_below {w1 W : World} {B C : Nat} {a b c d : Value} (h1 : w1.cell? ⟨B, 0, none⟩ = some a) (h2 : w1.cell? ⟨B, 1, none⟩ = some b) (h3 : w1.cell? ⟨C, 0, none⟩ = some c) (h4 : w1.cell? ⟨C, 1, none⟩ = some d) (hB : B < w1.heap.size) (hC : C < w1.heap.size) (hb : Below w1.heap.size w1 W) : FourAt w1 B C a b c d W :=
  ⟨hb, (hb.cell (p := ⟨B, 0, none⟩) hB).trans h1, (hb.cell (p := ⟨B, 1, none⟩) hB).trans h2, (hb.cell (p := ⟨C, 0, none⟩) hC).trans h3, (hb.cell (p := ⟨C, 1, none⟩) hC).trans h4⟩
end G294

/- The model's l6Plus and l6Own. -/
namespace G294
open Go Go.RowKit
/-- bytes in a block, each of which may be written -/
structure BytesIn (W : World) (B : Nat) (l : List UInt8) : Prop where
  lt : B < W.heap.size
  cell : ∀ j, j < l.length → W.cell? ⟨B, j, none⟩ = some (.int .u8 ((l.getD j 0).toNat : Int))
  free : ∀ j, j < l.length → W.frozen? ⟨B, j, none⟩ = false
theorem BytesIn.store {W : World} {B q : Nat} {l l' : List UInt8} {x : UInt8} (h : BytesIn W B l) (hq : q < l.length) (e : l.set q x = l') : BytesIn (W.setCell ⟨B, q, none⟩ (.int .u8 (x.toNat : Int))) B l' := by
  subst e
  refine ⟨by simpa using h.lt, fun j hj => ?_, fun j hj => by simpa using h.free j (by simpa using hj)⟩
  rw [List.length_set] at hj
  by_cases e : j = q
  · subst e
    have := World.cell?_setCell_same W ⟨B, j, none⟩ (.int .u8 (x.toNat : Int)) (h.cell j hj)
    rw [this]; simp [List.getD, hj]
  · rw [World.cell?_setCell_other _ _ _ _ (by simp <;> exact fun h => e h.symm), h.cell j hj]
    simp [List.getD, List.getElem?_set, show ¬ q = j from fun h => e h.symm]
theorem BytesIn.drew {W : World} {B : Nat} {l : List UInt8} (h : BytesIn W B l) : BytesIn W.drew B l := ⟨h.lt, h.cell, h.free⟩
theorem BytesIn.seen {W : World} {B cp : Nat} {l : List UInt8} (h : BytesIn W B l) (h1 : l.length ≤ cp) (h2 : cp ≤ maxLen) : Seen W (.slice (some ⟨B, 0, none⟩) l.length cp) (bys l) := by
  refine ⟨some ⟨B, 0, none⟩, cp, by rw [bys_length], by rw [bys_length]; exact h1, h2, fun _ => ⟨B, 0, rfl, h.lt, fun i u hu => ?_⟩⟩
  have hi : i < l.length := by
    rcases Nat.lt_or_ge i l.length with h | h
    · exact h
    · rw [List.getElem?_eq_none (by simpa using h)] at hu; cases hu
  rw [bys_get l i hi] at hu
  cases hu
  rw [Nat.zero_add, h.cell i hi]; simp [List.getD, hi]
theorem bytes_of_str {P : Program} (w : World) (src dst e : TypeId) (l : List UInt8) (hs : P.underlying src = some .string) (hd : P.underlying dst = some (.slice e)) (he : P.underlying e = some (.int .u8)) (hl : l.length ≤ maxLen) :
    ∃ cp w1, (convert src dst (.string (str l))).run P w = .ok (.slice (some ⟨w.heap.size, 0, none⟩) l.length cp) w1 ∧ l.length ≤ cp ∧ cp ≤ maxLen ∧ BytesIn w1 w.heap.size l ∧ Below w.heap.size w w1 := by
  have h := Lib.run_convert_string_bytes (P := P) w src dst e (str l) hs hd he
  rw [str_size] at h
  refine ⟨_, _, h, grownCap_ge _ _ _ _, grownCap_le_maxLen _ _ _ _ hl, ⟨by rw [Lib.bytesWorld_size]; omega, fun j hj => ?_, fun j hj => ?_⟩, ⟨rfl, rfl, rfl, by rw [Lib.bytesWorld_size]; omega, fun k hk => Lib.bytesWorld_at_old _ _ _ _ hk⟩⟩
  · have := Lib.bytesWorld_cell w e (str l) j (by rw [str_size]; exact hj)
    rw [this]; rfl
  · simp only [World.frozen?, Lib.bytesWorld_at_new]
    have : j < (Lib.bytesCells w e (str l)).size := by
      have e1 : (Lib.bytesCells w e (str l)).size = (str l).data.size + (grownCap w (str l).size 0 e - (str l).size) := by simp [Lib.bytesCells]
      have e2 : (str l).data.size = l.length := by show l.toArray.size = _; simp
      omega
    simp; omega
/-- append([]T{}, x...) of a row that is not empty: a new row -/
theorem run_appendLit {P : Program} (w : World) (t ty e : TypeId) (z : Value) (bytes : Nat) (ht : P.underlying t = some (.slice e)) (hinfo : (P.info? e).map (fun i => (i.zero, i.size, i.bytes)) = some (some z, 1, bytes)) (hzs : z.cells.size = 1)
    (base : Addr) (A : Addr) (m c : Nat) (ys : List Value) (h1m : 1 ≤ m) (hl : ys.length = m) (hc : ∀ j y, ys[j]? = some y → w.cell? (A.add j) = some y) (h1 : ∀ y, y ∈ ys → y.oneCell' = true) (hn : m ≤ 1000000) (hby : bytes ≤ 1000) :
    ∃ cp w', (Builtin.append_ #[t, t] ty #[.slice (some base) 0 0, .slice (some A) m c]).run P w = .ok (.slice (some ⟨w.heap.size, 0, none⟩) m cp) w' ∧ w'.ownsRow w.heap.size e 1 (.slice (some ⟨w.heap.size, 0, none⟩) m cp) m ys ∧ TurnIn 0 0 w w' := by
  obtain ⟨i, hi, hz, hsz, hbs⟩ := info_parts hinfo
  have hge := grownCap_ge w m 0 e
  have hcm : grownCap w m 0 e ≤ maxLen := grownCap_le_maxLen w m 0 e (by unfold maxLen; omega)
  have hb : m * bytes ≤ 1000000 * 1000 := Nat.mul_le_mul hn hby
  have h := run_append_grow_src (P := P) w t t ty e i z ht hi hz (some base) 0 0 [] (by simp [Builtin.firstCells, loadCells, loadCellsFrom]) (.slice (some A) m c) m ys (by rw [hsz]; exact Src.ofSlice w ht A m c ys (by omega) hc h1) (by omega) (by omega) (by rw [Nat.zero_add, nextslicecap_zero (by omega), hbs]; omega)
  rw [Nat.zero_add] at h
  refine ⟨_, _, h, ⟨by omega, .inr ⟨w.heap.size, _, _, rfl, Nat.le_refl _, heap_alloc_new w.drew _, hge, hcm, ?_, ?_⟩⟩, TurnIn.of_below ((Below.refl _ _).drew.alloc (Nat.le_refl _) _)⟩
  · simp only [List.nil_append, Array.size_append, List.size_toArray, size_zeroCells, hzs, hl]; omega
  · simp only [List.nil_append, Array.toList_append, Nat.mul_one]
    rw [← hl]; exact List.take_left
theorem step_appendLit {P : Program} {w : World} {ops : Array Oper} {o : Oper} {a : Act} {K : Act → World → Prop} {Q : Exit → Act → World → Prop} {E : Prop} (hw : Region.wanted o (yielded ops a.tmps) = true) (s x : Operand) (t : TypeId)
    (ho : o.op = .call { callee := .builtin .append, args := #[s, x], argTypes := #[t, t] })
    (e : TypeId) (z : Value) (bytes : Nat) (ht : P.underlying t = some (.slice e)) (hinfo : (P.info? e).map (fun i => (i.zero, i.size, i.bytes)) = some (some z, 1, bytes)) (hzs : z.cells.size = 1)
    (base : Addr) (hs : a.eval s = .slice (some base) 0 0)
    (A : Addr) (m c : Nat) (ys : List Value) (hx : a.eval x = .slice (some A) m c) (h1m : 1 ≤ m) (hl : ys.length = m) (hc : ∀ j y, ys[j]? = some y → w.cell? (A.add j) = some y) (h1 : ∀ y, y ∈ ys → y.oneCell' = true)
    (hn : m ≤ 1000000) (hby : bytes ≤ 1000)
    (h : ∀ g cp w', Hid (g = w.heap.size) → w'.ownsRow g e 1 (.slice (some ⟨g, 0, none⟩) m cp) m ys → TurnIn 0 0 w w' → K (a.put o.dst (.slice (some ⟨g, 0, none⟩) m cp)) w') :
    if Region.wanted o (yielded ops a.tmps) = true then Oper.wp P o a w K Q else E := by
  rw [if_pos hw]
  obtain ⟨cp, w', hrun, r1, r2⟩ := run_appendLit (P := P) w t o.type e z bytes ht hinfo hzs base A m c ys h1m hl hc h1 hn hby
  unfold Oper.wp execOp
  simp only [ho, resolve, invoke, builtin, Sem.run_bind, Sem.run_pure, Result.andThen_ok, List.map_toArray, List.map_cons, List.map_nil, hs, hx, hrun]
  exact h _ cp w' (Lib.hid rfl) r1 r2
theorem own_lower {w : World} {e : TypeId} {v : Value} {lo lo' n : Nat} {l : List (List UInt8)} (h : w.ownsRow lo e 1 v n (strs l)) (hl : lo' ≤ lo) (hn : n = l.length) : w.ownsRow lo' e 1 v l.length (strs l) := by
  subst hn
  refine ⟨h.1, ?_⟩
  rcases h.2 with hh | ⟨g, cap, cur, rfl, hbg, rest⟩
  · exact .inl hh
  · exact .inr ⟨g, cap, cur, rfl, Nat.le_trans hl hbg, rest⟩
theorem plus_step (a b : List UInt8) (f : UInt8) (q : Nat) : (mkRow a.length fun p => if p < q then a.getD p 0 ^^^ gmul f (b.getD p 0) else a.getD p 0).set q (a.getD q 0 ^^^ gmul f (b.getD q 0)) = mkRow a.length fun p => if p < q + 1 then a.getD p 0 ^^^ gmul f (b.getD p 0) else a.getD p 0 := by
  rw [mkRow_set]
  apply mkRow_congr
  intro p hp
  by_cases e : p = q
  · subst e; simp
  · rw [if_neg e]
    by_cases h2 : p < q
    · rw [if_pos h2, if_pos (by omega)]
    · rw [if_neg h2, if_neg (by omega)]
theorem mkRow_self (a : List UInt8) : mkRow a.length (fun p => a.getD p 0) = a := by
  refine List.ext_getElem (by simp) fun i h1 h2 => ?_
  simp [mkRow, List.getD, h2]
end G294
namespace Go.Proofs.YtbopocpmodpfcaaDoor
open Go.RowKit G294

set_option maxRecDepth 100000 in
set_option maxHeartbeats 2000000 in
theorem l6Plus_own (a b : List UInt8) (f : UInt8) (w : World) (hl : b.length = a.length) (hn : a.length ≤ 1000) : Calls Tryd.prog 55 #[.string (str a), .int .u8 (f.toNat : Int), .string (str b)] w (RetStr w (plusL a f b)) := by
  obtain ⟨cp, w1, hcv, hc1, hc2, hO, hb1⟩ := bytes_of_str (P := Tryd.prog) w 9 22 5 a Tryd.underlying9 Tryd.underlying22 Tryd.underlying5 (by unfold maxLen; omega)
  have HM := Lib.hid hc2
  have hs2 := str_size b
  rw [hl] at hs2
  have HP : Hid (plusL a f b = mkRow a.length fun p => a.getD p 0 ^^^ gmul f (b.getD p 0)) := Lib.hid rfl
  have HST := Lib.hid (plus_step a b f)
  have HXY : Hid (∀ q, a.getD q 0 ^^^ gmul f (b.getD q 0) = a.getD q 0 ^^^ gmul f (b.getD q 0)) := Lib.hid (fun _ => rfl)
  have hO0 : BytesIn w1 w.heap.size (mkRow a.length fun p => if p < 0 then a.getD p 0 ^^^ gmul f (b.getD p 0) else a.getD p 0) := by
    have e0 : (mkRow a.length fun p => if p < 0 then a.getD p 0 ^^^ gmul f (b.getD p 0) else a.getD p 0) = a := (mkRow_congr fun p _ => if_neg (Nat.not_lt_zero p)).trans (mkRow_self a)
    rw [e0]; exact hO
  have HO0 := Lib.hid hO0
  have HB1 := Lib.hid hb1
  rw [HP.out]
  clear hl hO hO0 HP hb1
  unfold maxLen at hc2
  generalize hG : a.length = n at *
  have hsb : (str b).size = n := hs2
  clear hG hs2
  go_enter Tryd.func55, Tryd.ntmps55
  go_wp2_with fail
  go_loopw [13] (fun i wr => ∃ q : Nat, q ≤ n ∧ i = .int .i64 q ∧ Hid (BytesIn wr w.heap.size (mkRow n fun p => if p < q then a.getD p 0 ^^^ gmul f (b.getD p 0) else a.getD p 0)) ∧ Hid (Below w.heap.size w wr))
    (fun i _ => n - (intOf i).toNat)
  case atStart => exact ⟨0, Nat.zero_le _, rfl, HO0, HB1⟩
  case round =>
    obtain ⟨q, hq, rfl, HO, HB⟩ := hrel
    clear HO0 HB1
    by_cases hlq : q < n
    · have hqi : (q : Int) < (n : Int) := by omega
      have hcs := HO.out.cell q (by simpa using hlq)
      have hfr := HO.out.free q (by simpa using hlq)
      rw [mkRow_getD _ _ _ hlq, if_neg (by omega)] at hcs
      have hsg := str_get b q (by omega)
      have hst := HST.out q
      generalize a.getD q 0 = x at *
      generalize b.getD q 0 = y at *
      have HC := Lib.hid (stilly (l1Times_u8 f y wr.drew))
      have hxor : bits BinOp.xor IntKind.u8 (x.toNat : Int) ((gmul f y).toNat : Int) = ((x ^^^ gmul f y).toNat : Int) := xor_u8 _ _
      have HO3 := Lib.hid ((HO.out.store (q := q) (x := x ^^^ gmul f y) (by simpa using hlq) hst).drew)
      have HB3 := Lib.hid ((HB.out.setCell (p := ⟨w.heap.size, q, none⟩) (Nat.le_refl _) (.int .u8 ((x ^^^ gmul f y).toNat : Int))).drew)
      clear hst HST
      generalize x ^^^ gmul f y = r at *
      go_wp2_with fail
      refine wp_region_still_tail 11 (by kernel_rfl) (by kernel_rfl) ?_
      simp only [List.take_succ_cons, List.take_zero, List.drop_succ_cons, List.drop_zero]
      repeat (first | still_step | still_call (HC.out))
      refine wpStill_nil ?_
      go_wp2_with fail
      go_roundw
      case rel => exact ⟨q + 1, by omega, by go_num, HO3, HB3⟩
      case measure => simp [intOf]; omega
    · obtain rfl : q = n := by omega
      have hqi : ¬ (q : Int) < (q : Int) := by omega
      have HE : Hid ((mkRow q fun p => if p < q then a.getD p 0 ^^^ gmul f (b.getD p 0) else a.getD p 0) = mkRow q fun p => a.getD p 0 ^^^ gmul f (b.getD p 0)) := Lib.hid (mkRow_congr fun p hp => if_pos hp)
      rw [HE.out] at HO
      have hseen := HO.out.seen (cp := cp) (by simpa using hc1) HM.out
      rw [mkRow_length] at hseen
      have hconv := run_string_seen (P := Tryd.prog) 22 5 9 Tryd.underlying22 Tryd.underlying5 Tryd.underlying9 hseen
      clear hseen
      go_wp2_with fail
      go_ret
      exact ⟨rfl, TurnIn.of_below HB.out⟩

set_option maxRecDepth 100000 in
set_option maxHeartbeats 4000000 in
theorem l6Own_own (v u : Value) (s : Strp) (w : World) (hv : Seen w v (strs s.1)) (hu : Seen w u (strs s.2)) (h1 : 1 ≤ s.1.length ∧ s.1.length ≤ 1000) (h2 : 1 ≤ s.2.length ∧ s.2.length ≤ 1000) : Calls Tryd.prog 59 #[.agg #[v, u]] w (RetT 9 w s) := by
  obtain ⟨b, off, c, rfl, hbl, hlm, hcell⟩ := seen_cells (W := w) hv (by omega)
  obtain ⟨b', off', d, rfl, hbl', hlm', hcell'⟩ := seen_cells (W := w) hu (by omega)
  have HC0 := Lib.hid hcell
  have HC1 := Lib.hid hcell'
  have HL0 : Hid ((strs s.1).length = s.1.length) := Lib.hid (strs_length _)
  have HL1 : Hid ((strs s.2).length = s.2.length) := Lib.hid (strs_length _)
  obtain ⟨n, hn⟩ : ∃ n, n = s.1.length := ⟨_, rfl⟩
  obtain ⟨m, hm⟩ : ∃ m, m = s.2.length := ⟨_, rfl⟩
  have HN := Lib.hid hn
  have HM := Lib.hid hm
  rw [← hn] at HL0 h1 hlm ⊢
  rw [← hm] at HL1 h2 hlm' ⊢
  clear hv hu hcell hcell' hn hm
  have a1 := turn_alloc w (.cells #[.slice (some ⟨b, off, none⟩) n c, .slice (some ⟨b', off', none⟩) m d] 25)
  have a2 := turn_alloc (w.alloc (.cells #[.slice (some ⟨b, off, none⟩) n c, .slice (some ⟨b', off', none⟩) m d] 25)) (.cells #[.slice none 0 0, .slice none 0 0] 25)
  have z2 : ((w.alloc (.cells #[.slice (some ⟨b, off, none⟩) n c, .slice (some ⟨b', off', none⟩) m d] 25)).alloc (.cells #[.slice none 0 0, .slice none 0 0] 25)).heap.size = w.heap.size + 2 := by simp
  have c0 := cell_turn a2 (alloc_duo0 w (.slice (some ⟨b, off, none⟩) n c) (.slice (some ⟨b', off', none⟩) m d) 25) (alloc_lt _ _)
  have c1 := cell_turn a2 (alloc_duo1 w (.slice (some ⟨b, off, none⟩) n c) (.slice (some ⟨b', off', none⟩) m d) 25) (alloc_lt _ _)
  have r0 := alloc_duo0 (w.alloc (.cells #[.slice (some ⟨b, off, none⟩) n c, .slice (some ⟨b', off', none⟩) m d] 25)) (.slice none 0 0) (.slice none 0 0) 25
  have r1 := alloc_duo1 (w.alloc (.cells #[.slice (some ⟨b, off, none⟩) n c, .slice (some ⟨b', off', none⟩) m d] 25)) (.slice none 0 0) (.slice none 0 0) 25
  have f0 := alloc_frz (w.alloc (.cells #[.slice (some ⟨b, off, none⟩) n c, .slice (some ⟨b', off', none⟩) m d] 25)) #[.slice none 0 0, .slice none 0 0] 25 0
  have f1 := alloc_frz (w.alloc (.cells #[.slice (some ⟨b, off, none⟩) n c, .slice (some ⟨b', off', none⟩) m d] 25)) #[.slice none 0 0, .slice none 0 0] 25 1
  rw [World.size_alloc] at r0 r1 f0 f1
  have k2 := turn_trans a1 a2 (by omega)
  go_enter Tryd.func59, Tryd.ntmps59
  go_wp2_with fail
  generalize ((w.alloc (.cells #[.slice (some ⟨b, off, none⟩) n c, .slice (some ⟨b', off', none⟩) m d] 25)).alloc (.cells #[.slice none 0 0, .slice none 0 0] 25)) = w2 at *
  have hz2 : w.heap.size + 2 ≤ w2.heap.size := by omega
  clear z2 a1 a2
  have HW : Hid (∀ W, Below w2.heap.size w2 W → Below w.heap.size w W) := Lib.hid (fun W h => (TurnIn.of_below h).base k2.to_below k2.size (by omega))
  have HS : Hid (∀ W, Below w2.heap.size w2 W → DuoAt w2 w.heap.size (.slice (some ⟨b, off, none⟩) n c) (.slice (some ⟨b', off', none⟩) m d) W) := Lib.hid (fun W h => duo_below c0 c1 (by omega) h)
  have hS0 : w2.drew.cell? ⟨w.heap.size, 0, none⟩ = some (.slice (some ⟨b, off, none⟩) n c) ∧ w2.drew.cell? ⟨w.heap.size, 1, none⟩ = some (.slice (some ⟨b', off', none⟩) m d) := ⟨c0, c1⟩
  have hbA : Below w2.heap.size w2 (w2.alloc (.cells #[] 9)).drew := ((Below.refl _ _).alloc (Nat.le_refl _) _).drew
  have hbB : Below w2.heap.size w2 ((w2.alloc (.cells #[] 9)).alloc (.cells #[] 9)).drew := (((Below.refl _ _).alloc (Nat.le_refl _) _).alloc (by simp) _).drew
  have HSA := Lib.hid (HS.out _ hbA)
  have HSB := Lib.hid (HS.out _ hbB)
  have HYA := Lib.hid (HC0.out _ (HW.out _ hbA))
  have HYB := Lib.hid (HC0.out _ (HW.out _ hbB))
  go_region_held3 (fun W => W.cell? ⟨w.heap.size, 0, none⟩ = some (.slice (some ⟨b, off, none⟩) n c) ∧ W.cell? ⟨w.heap.size, 1, none⟩ = some (.slice (some ⟨b', off', none⟩) m d))
    (first | exact hS0 | exact HSA.out.2 | exact HSB.out.2 | exact hS3.2 | exact HS3L.out.2 | exact hS4.2 | exact ⟨(cell_set_other _ _ _ _ (by omega)).trans ((cell_set_other _ _ _ _ (by omega)).trans hS4.2.1), (cell_set_other _ _ _ _ (by omega)).trans ((cell_set_other _ _ _ _ (by omega)).trans hS4.2.2)⟩)
    (first
      | (refine step_appendLit (by rfl) _ _ _ (by rfl) 9 _ _ Tryd.underlying23 infoStr rfl _ (by rfl) ⟨b, off, none⟩ n c (strs s.1) (by rfl) h1.1 HL0.out (by first | exact HYA.out | exact HYB.out) (strs_oneC _) (by omega) (by omega) ?_; intro g1 cp1 w3 HG1 ho1 k3; have hb3 : Below w2.heap.size w2 w3 := (by first | exact k3.base hbA hbA.size (by omega) | exact k3.base hbB hbB.size (by omega)); have hS3 := HS.out _ hb3; have HS3L := Lib.hid (HS.out _ (hb3.alloc hb3.size (.cells #[] 9))); have HYC := Lib.hid (HC1.out _ (HW.out _ hb3)); have HYD := Lib.hid (HC1.out _ (HW.out _ (hb3.alloc hb3.size (.cells #[] 9)))); have s3 := hb3.size)
      | (refine step_appendLit (by rfl) _ _ _ (by rfl) 9 _ _ Tryd.underlying23 infoStr rfl _ (by rfl) ⟨b', off', none⟩ m d (strs s.2) (by rfl) h2.1 HL1.out (by first | exact HYC.out | exact HYD.out) (strs_oneC _) (by omega) (by omega) ?_; intro g2 cp2 w4 HG2 ho2 k4; have k34 : TurnIn 0 0 w3 w4 := (by first | exact k4 | exact turn_trans (turn_alloc _ _) k4 (by omega)); have hb4 : Below w2.heap.size w2 w4 := k34.base hb3 s3 (by omega); have hS4 := HS.out _ hb4; have q0 := cell_turn (TurnIn.of_below hb4) r0 (by omega); have q1 := cell_turn (TurnIn.of_below hb4) r1 (by omega); have g0 := frozen_turn (TurnIn.of_below hb4) f0 (by omega); have g1' := frozen_turn (TurnIn.of_below hb4) f1 (by omega)))
  all_goals
    have s4 := k34.size
    have e1 : w.heap.size + 2 ≤ g1 := by
      have := HG1.out
      first | omega | (simp at this; omega)
    have e2 : w3.heap.size ≤ g2 := by
      have := HG2.out
      first | omega | (simp at this; omega)
    have hO : OwnT 9 w4 (w.heap.size + 2) w4.heap.size (.slice (some ⟨g1, 0, none⟩) n cp1) (.slice (some ⟨g2, 0, none⟩) m cp2) s := ⟨w3.heap.size, by omega, by omega, OwnStrs.keep (hi := w3.heap.size) ⟨own_lower ho1 e1 HN.out, Nat.le_refl _, fun g e => (ho1.lt g e).2⟩ k34 (by omega), ⟨own_lower ho2 e2 HM.out, Nat.le_refl _, fun g e => (ho2.lt g e).2⟩⟩
    have HF := Lib.hid (duo_store (R := w.heap.size + 1) hO (HW.out _ hb4) (by omega) (by omega) (by omega))
    clear hO ho1 ho2 k3 k4 k34
    go_wp2_with fail
    refine bodyPost_ret (v := .agg #[.slice (some ⟨g1, 0, none⟩) n cp1, .slice (some ⟨g2, 0, none⟩) m cp2]) (by simp [results, Tryd.results59, go_sem, q0, q1, g0, g1']) rfl ?_
    exact ⟨_, _, rfl, HF.out.1, HF.out.2⟩

end Go.Proofs.YtbopocpmodpfcaaDoor

/- AddStripes: what is added; a stripe in a box whose texts are replaced one by one. -/
namespace G294
open Go Go.RowKit
def firstLen (s : Strp) : Nat := (s.1.getD 0 []).length
def sadOk (a b : Strp) : Bool := strpOk a && (strpOk b && (decide (a.1.length = b.1.length) && (decide (a.2.length = b.2.length) && decide (firstLen a = firstLen b))))
def sadT (L M : List (List UInt8)) : List (List UInt8) := textsF L.length fun i => plusL (L.getD i []) 1 (M.getD i [])
def sadS (a b : Strp) : Strp := (sadT a.1 b.1, sadT a.2 b.2)
def sadR (a b : Strp) : Strp := if sadOk a b = true then sadS a b else ([], [])
theorem sadR_no {a b : Strp} (h : sadOk a b = false) : sadR a b = ([], []) := if_neg (by rw [h]; simp)
theorem sadR_yes {a b : Strp} (h : sadOk a b = true) : sadR a b = sadS a b := if_pos h
@[simp] theorem sadT_length (L M : List (List UInt8)) : (sadT L M).length = L.length := by simp [sadT]
theorem sadR_len (a b : Strp) : (sadR a b).1.length + (sadR a b).2.length ≤ 20 := by
  unfold sadR; split
  · rename_i h
    simp only [sadOk, Bool.and_eq_true] at h
    have := strpOk_b h.1
    simp only [sadS, sadT_length]; omega
  · simp
theorem sadOk_b {a b : Strp} (h : sadOk a b = true) : strpOk a = true ∧ strpOk b = true ∧ a.1.length = b.1.length ∧ a.2.length = b.2.length ∧ firstLen a = firstLen b := by
  simpa [sadOk] using h
theorem strp_len1 {s : Strp} (h : strpOk s = true) {i : Nat} (hi : i < s.1.length) : (s.1.getD i []).length = firstLen s := (strpOk_len h).1 _ (getD_mem hi)
theorem strp_len2 {s : Strp} (h : strpOk s = true) {i : Nat} (hi : i < s.2.length) : (s.2.getD i []).length = firstLen s := (strpOk_len h).2.1 _ (getD_mem hi)
theorem strp_len40 {s : Strp} (h : strpOk s = true) : firstLen s ≤ 40 := (strpOk_len h).2.2
/-- the first k texts are replaced -/
def halfT (L : List (List UInt8)) (F : Nat → List UInt8) (k : Nat) : List (List UInt8) := textsF L.length fun i => if i < k then F i else L.getD i []
@[simp] theorem halfT_length (L : List (List UInt8)) (F : Nat → List UInt8) (k : Nat) : (halfT L F k).length = L.length := by simp [halfT]
theorem halfT_zero (L : List (List UInt8)) (F : Nat → List UInt8) : halfT L F 0 = L := by
  unfold halfT
  have : (fun i => if i < 0 then F i else L.getD i []) = fun i => L.getD i [] := by funext i; simp
  rw [this, textsF_self]
theorem halfT_all (L : List (List UInt8)) (F : Nat → List UInt8) : halfT L F L.length = textsF L.length F := textsF_congr fun i hi => if_pos hi
theorem halfT_get (L : List (List UInt8)) (F : Nat → List UInt8) (k : Nat) (hk : k < L.length) : (halfT L F k).getD k [] = L.getD k [] := by rw [halfT, textsF_getD _ _ _ hk, if_neg (by omega)]
theorem textsF_set (n : Nat) (F : Nat → List UInt8) (k : Nat) (x : List UInt8) : (textsF n F).set k x = textsF n fun i => if i = k then x else F i := by
  refine List.ext_getElem (by simp) fun i h1 h2 => ?_
  simp only [textsF, List.getElem_set, List.getElem_map, List.getElem_range]
  by_cases e : k = i
  · subst e; simp
  · rw [if_neg e, if_neg (fun h => e h.symm)]
theorem halfT_next (L : List (List UInt8)) (F : Nat → List UInt8) (k : Nat) : (halfT L F k).set k (F k) = halfT L F (k + 1) := by
  unfold halfT
  rw [textsF_set]
  refine textsF_congr fun i hi => ?_
  by_cases e : i = k
  · subst e; simp
  · rw [if_neg e]
    by_cases h : i < k
    · rw [if_pos h, if_pos (by omega)]
    · rw [if_neg h, if_neg (by omega)]
theorem OwnStrs.store {E : TypeId} {w : World} {lo hi g n cap q : Nat} {l l' : List (List UInt8)} {x : List UInt8} (h : OwnStrs E w lo hi (.slice (some ⟨g, 0, none⟩) n cap) l) (hn : l.length = n) (e : l.set q x = l') :
    OwnStrs E (w.setCell ⟨g, q, none⟩ (.string (str x))) lo hi (.slice (some ⟨g, 0, none⟩) n cap) l' := by
  have h1 := h.1
  rw [hn] at h1
  have hst := h1.stored q (.string (str x))
  refine ⟨?_, by simpa using h.2.1, h.2.2⟩
  have e2 : strs l' = (strs l).set q (.string (str x)) := by rw [← e]; simp [strs, List.map_set]
  have e3 : l'.length = n := by rw [← e]; simpa using hn
  rw [e2, e3]
  exact hst.1
theorem OwnStrs.shape {E : TypeId} {w : World} {lo hi : Nat} {v : Value} {l : List (List UInt8)} (h : OwnStrs E w lo hi v l) (h1 : 1 ≤ l.length) : ∃ g cap, v = .slice (some ⟨g, 0, none⟩) l.length cap ∧ lo ≤ g ∧ g < hi ∧ l.length ≤ cap ∧ cap ≤ maxLen ∧
    (∀ k, k < l.length → w.cell? ⟨g, k, none⟩ = some (.string (str (l.getD k [])))) ∧ ∀ k, w.frozen? ⟨g, k, none⟩ = false := by
  obtain ⟨ho, ht, hg⟩ := h
  rcases ho.2 with ⟨rfl, hn⟩ | ⟨g, cap, cur, rfl, hbg, hgg, hnc, hcm, hcs, htk⟩
  · omega
  · refine ⟨g, cap, rfl, hbg, hg g rfl, hnc, hcm, fun k hk => ?_, fun k => ho.frozenAt k⟩
    rw [ho.cellAt k (by omega), strs_get l k hk]
    simp [List.getD, hk]
/-- a stripe of the call's own in a box, beside cells of older boxes -/
structure SBox (E : TypeId) (w W : World) (B lo mid hi : Nat) (va vp : Value) (D P : List (List UInt8)) : Prop where
  data : OwnStrs E W lo mid va D
  par : OwnStrs E W mid hi vp P
  c0 : W.cell? ⟨B, 0, none⟩ = some va
  c1 : W.cell? ⟨B, 1, none⟩ = some vp
  hB : B < lo
  hlm : lo ≤ mid
  hmh : mid ≤ hi
  old : Below w.heap.size w W
section
variable {E : TypeId} {w W W' : World} {B lo mid hi : Nat} {va vp : Value} {D P : List (List UInt8)}
theorem SBox.top (h : SBox E w W B lo mid hi va vp D P) : hi ≤ W.heap.size := h.par.2.1
theorem SBox.turn (h : SBox E w W B lo mid hi va vp D P) (t : TurnIn 0 0 W W') (hw : w.heap.size ≤ W.heap.size) : SBox E w W' B lo mid hi va vp D P := by
  have h1 := h.hB; have h2 := h.hlm; have h3 := h.hmh; have h4 := h.top
  exact ⟨h.data.keep t (by omega), h.par.keep t (by omega), cell_turn t h.c0 (by omega), cell_turn t h.c1 (by omega), h1, h2, h3, t.base h.old hw (by omega)⟩
theorem SBox.storeD {g n cap q : Nat} {l' : List (List UInt8)} {x : List UInt8} (h : SBox E w W B lo mid hi (.slice (some ⟨g, 0, none⟩) n cap) vp D P) (hn : D.length = n) (e : D.set q x = l') (hw : w.heap.size ≤ lo) :
    SBox E w (W.setCell ⟨g, q, none⟩ (.string (str x))) B lo mid hi (.slice (some ⟨g, 0, none⟩) n cap) vp l' P := by
  have h1 := h.hB
  have g1 := (h.data.1.lt g rfl).1
  have g2 := h.data.2.2 g rfl
  have k := turn_setCell W g q (.string (str x))
  exact ⟨h.data.store hn e, h.par.keep k (by omega), (cell_set_other W _ _ _ (by omega)).trans h.c0, (cell_set_other W _ _ _ (by omega)).trans h.c1, h1, h.hlm, h.hmh, h.old.setCell (show w.heap.size ≤ g by omega) _⟩
theorem SBox.storeP {g n cap q : Nat} {l' : List (List UInt8)} {x : List UInt8} (h : SBox E w W B lo mid hi va (.slice (some ⟨g, 0, none⟩) n cap) D P) (hn : P.length = n) (e : P.set q x = l') (hw : w.heap.size ≤ lo) :
    SBox E w (W.setCell ⟨g, q, none⟩ (.string (str x))) B lo mid hi va (.slice (some ⟨g, 0, none⟩) n cap) D l' := by
  have h1 := h.hB
  have h2 := h.hlm
  have g1 := (h.par.1.lt g rfl).1
  have g2 := h.par.2.2 g rfl
  have k := turn_setCell W g q (.string (str x))
  exact ⟨h.data.keep k (by omega), h.par.store hn e, (cell_set_other W _ _ _ (by omega)).trans h.c0, (cell_set_other W _ _ _ (by omega)).trans h.c1, h1, h2, h.hmh, h.old.setCell (show w.heap.size ≤ g by omega) _⟩
theorem SBox.own (h : SBox E w W B lo mid hi va vp D P) : OwnT E W lo hi va vp (D, P) := ⟨mid, h.hlm, h.hmh, h.data, h.par⟩
end
/-- cells that stay: two of a box, and of a result's box with leave to write -/
structure Kept (W : World) (C R : Nat) (x y p q : Value) : Prop where
  x0 : W.cell? ⟨C, 0, none⟩ = some x
  x1 : W.cell? ⟨C, 1, none⟩ = some y
  r0 : W.cell? ⟨R, 0, none⟩ = some p
  r1 : W.cell? ⟨R, 1, none⟩ = some q
  f0 : W.frozen? ⟨R, 0, none⟩ = false
  f1 : W.frozen? ⟨R, 1, none⟩ = false
theorem Kept.turn {W W' : World} {C R : Nat} {x y p q : Value} (h : Kept W C R x y p q) (t : TurnIn 0 0 W W') (hC : C < W.heap.size) (hR : R < W.heap.size) : Kept W' C R x y p q :=
  ⟨cell_turn t h.x0 hC, cell_turn t h.x1 hC, cell_turn t h.r0 hR, cell_turn t h.r1 hR, frozen_turn t h.f0 hR, frozen_turn t h.f1 hR⟩
theorem Kept.set {W : World} {C R g o : Nat} {x y p q z : Value} (h : Kept W C R x y p q) (h1 : g ≠ C) (h2 : g ≠ R) : Kept (W.setCell ⟨g, o, none⟩ z) C R x y p q :=
  ⟨(cell_set_other W _ _ _ h1).trans h.x0, (cell_set_other W _ _ _ h1).trans h.x1, (cell_set_other W _ _ _ h2).trans h.r0, (cell_set_other W _ _ _ h2).trans h.r1, (frozen_set_other W _ _ _ h2).trans h.f0, (frozen_set_other W _ _ _ h2).trans h.f1⟩
end G294

/- A stripe in a box, begun; cells that stay. -/
namespace G294
open Go Go.RowKit
theorem OwnStrs.atK {E : TypeId} {w : World} {lo hi g n cap : Nat} {l : List (List UInt8)} (h : OwnStrs E w lo hi (.slice (some ⟨g, 0, none⟩) n cap) l) (hn : l.length = n) {k : Nat} (hk : k < n) : w.cell? ⟨g, k, none⟩ = some (.string (str (l.getD k []))) ∧ w.frozen? ⟨g, k, none⟩ = false := by
  have h1 := h.1
  rw [hn] at h1
  refine ⟨?_, h1.frozenAt k⟩
  rw [h1.cellAt k (by omega), strs_get l k (by omega)]
  simp [List.getD, show k < l.length by omega]
theorem SBox.start {E : TypeId} {w W : World} {B lo mid hi : Nat} {va vp x y : Value} {D P : List (List UInt8)} (hD : OwnStrs E W lo mid va D) (hP : OwnStrs E W mid hi vp P) (x0 : W.cell? ⟨B, 0, none⟩ = some x) (x1 : W.cell? ⟨B, 1, none⟩ = some y) (hB : B < lo) (h1 : lo ≤ mid) (h2 : mid ≤ hi) (hb : Below w.heap.size w W) (hw : w.heap.size ≤ B) :
    SBox E w ((W.setCell ⟨B, 0, none⟩ va).setCell ⟨B, 1, none⟩ vp) B lo mid hi va vp D P := by
  have k0 := turn_setCell W B 0 va
  have k1 := turn_setCell (W.setCell ⟨B, 0, none⟩ va) B 1 vp
  have e1 : (W.setCell ⟨B, 0, none⟩ va).cell? ⟨B, 1, none⟩ = some y := (World.cell?_setCell_other _ _ _ _ (by simp)).trans x1
  exact ⟨(hD.keep k0 (by omega)).keep k1 (by omega), (hP.keep k0 (by omega)).keep k1 (by omega), (World.cell?_setCell_other _ _ _ _ (by simp)).trans (World.cell?_setCell_same _ _ _ x0), World.cell?_setCell_same _ _ _ e1, hB, h1, h2, (hb.setCell (p := ⟨B, 0, none⟩) hw _).setCell (p := ⟨B, 1, none⟩) hw _⟩
theorem three_frz (w : World) (cs : Array Value) (o2 o3 : Obj) (T : TypeId) (o : Nat) : (((w.alloc (.cells cs T)).alloc o2).alloc o3).frozen? ⟨w.heap.size, o, none⟩ = false :=
  frozen_turn (turn_alloc _ o3) (frozen_turn (turn_alloc _ o2) (alloc_frz w cs T o) (alloc_lt _ _)) (Nat.lt_of_lt_of_le (alloc_lt _ _) (turn_alloc _ o2).size)
theorem grew_frz {w : World} {B o : Nat} {x : Bool} (h : w.frozen? ⟨B, o, none⟩ = x) (hB : B < w.heap.size) (p : Grew w) : p.at_.frozen? ⟨B, o, none⟩ = x := (p.old.frozen (p := ⟨B, o, none⟩) hB).trans h
end G294

/- sameShape, the program's. -/
namespace Go.Proofs.YtbopocpmodpfcaaDoor
open Go.RowKit G294

set_option maxRecDepth 100000 in
set_option maxHeartbeats 4000000 in
theorem sameShape_any (v u v2 u2 : Value) (a q : Strp) (w : World) (hv : Seen w v (strs a.1)) (hu : Seen w u (strs a.2)) (hv2 : Seen w v2 (strs q.1)) (hu2 : Seen w u2 (strs q.2)) :
    Calls Tryd.prog 57 #[.agg #[v, u], .agg #[v2, u2]] w (RetBool w (sadOk a q)) := by
  have HV := Lib.hid hv
  have HU := Lib.hid hu
  have HV2 := Lib.hid hv2
  have HU2 := Lib.hid hu2
  have HDEF : Hid (sadOk a q = (strpOk a && (strpOk q && (decide (a.1.length = q.1.length) && (decide (a.2.length = q.2.length) && decide (firstLen a = firstLen q)))))) := Lib.hid rfl
  by_cases h1 : strpOk a = true
  · have HA := Lib.hid h1
    have b1 := strpOk_b h1
    by_cases h2 : strpOk q = true
    · have HQ := Lib.hid h2
      have b2 := strpOk_b h2
      obtain ⟨b, off, c, rfl, hbl, hlm, hcx⟩ := seen_at hv (show 0 < a.1.length by omega)
      obtain ⟨b', off', c2, rfl, hbl', hlm', hcy⟩ := seen_at hv2 (show 0 < q.1.length by omega)
      rw [Nat.add_zero] at hcx hcy
      obtain ⟨B, d, huu⟩ := hu.len
      obtain ⟨B2, d2, huu2⟩ := hu2.len
      rw [strs_length] at huu huu2
      subst huu huu2
      have g1 : 0 < a.1.length := b1.1.1
      have g2 : 0 < q.1.length := b2.1.1
      obtain ⟨x, hx⟩ : ∃ x, x = a.1.getD 0 [] := ⟨_, rfl⟩
      obtain ⟨y, hy⟩ : ∃ y, y = q.1.getD 0 [] := ⟨_, rfl⟩
      have HX : Hid (firstLen a = x.length) := Lib.hid (by rw [hx]; rfl)
      have HY : Hid (firstLen q = y.length) := Lib.hid (by rw [hy]; rfl)
      rw [← hx] at hcx
      rw [← hy] at hcy
      have hsx := str_size x
      have hsy := str_size y
      clear hx hy b1 b2 hv hu hv2 hu2
      generalize x.length = lx at *
      generalize y.length = ly at *
      by_cases h3 : a.1.length = q.1.length
      · by_cases h4 : a.2.length = q.2.length
        · by_cases h5 : lx = ly
          · have HO : Hid (sadOk a q = true) := Lib.hid (by rw [HDEF.out, h1, h2, HX.out, HY.out]; simp [h3, h4, h5])
            have t1 : ((a.1.length : Int) == (q.1.length : Int)) = true := by simp [h3]
            have t2 : ((a.2.length : Int) == (q.2.length : Int)) = true := by simp [h4]
            have t3 : ((lx : Int) == (ly : Int)) = true := by simp [h5]
            clear h1 h2 h3 h4 h5 HX HY
            clear HDEF
            generalize a.1.length = n at *
            generalize a.2.length = m at *
            generalize q.1.length = n2 at *
            generalize q.2.length = m2 at *
            have a1 := turn_alloc w (.cells #[.slice (some ⟨b, off, none⟩) n c, .slice B m d] 25)
            have a2 := turn_alloc (w.alloc (.cells #[.slice (some ⟨b, off, none⟩) n c, .slice B m d] 25)) (.cells #[.slice (some ⟨b', off', none⟩) n2 c2, .slice B2 m2 d2] 25)
            have z2 : ((w.alloc (.cells #[.slice (some ⟨b, off, none⟩) n c, .slice B m d] 25)).alloc (.cells #[.slice (some ⟨b', off', none⟩) n2 c2, .slice B2 m2 d2] 25)).heap.size = w.heap.size + 2 := by simp
            have x0 := cell_turn a2 (alloc_duo0 w (.slice (some ⟨b, off, none⟩) n c) (.slice B m d) 25) (alloc_lt _ _)
            have x1 := cell_turn a2 (alloc_duo1 w (.slice (some ⟨b, off, none⟩) n c) (.slice B m d) 25) (alloc_lt _ _)
            have y0 := alloc_duo0 (w.alloc (.cells #[.slice (some ⟨b, off, none⟩) n c, .slice B m d] 25)) (.slice (some ⟨b', off', none⟩) n2 c2) (.slice B2 m2 d2) 25
            have y1 := alloc_duo1 (w.alloc (.cells #[.slice (some ⟨b, off, none⟩) n c, .slice B m d] 25)) (.slice (some ⟨b', off', none⟩) n2 c2) (.slice B2 m2 d2) 25
            rw [World.size_alloc] at y0 y1
            have k2 := turn_trans a1 a2 (by omega)
            go_enter Tryd.func57, Tryd.ntmps57
            go_wp2_with fail
            generalize ((w.alloc (.cells #[.slice (some ⟨b, off, none⟩) n c, .slice B m d] 25)).alloc (.cells #[.slice (some ⟨b', off', none⟩) n2 c2, .slice B2 m2 d2] 25)) = w1 at *
            have e0 := grew_cell x0 (by omega)
            have e1 := grew_cell x1 (by omega)
            have e2 := grew_cell y0 (by omega)
            have e3 := grew_cell y1 (by omega)
            have HG1 := Lib.hid (fun p : Grew w1 => grew_bool (goodStripe_any _ _ a p.at_ ((HV.out.touch k2).below p.old) ((HU.out.touch k2).below p.old)))
            have HG2 := Lib.hid (fun p : Grew w1 => grew_bool (goodStripe_any _ _ q p.at_ ((HV2.out.touch k2).below p.old) ((HU2.out.touch k2).below p.old)))
            rw [HA.out] at HG1
            rw [HQ.out] at HG2
            have e4 := grew_cell (cell_turn k2 hcx hbl) (Nat.lt_of_lt_of_le hbl k2.size)
            have e5 := grew_cell (cell_turn k2 hcy hbl') (Nat.lt_of_lt_of_le hbl' k2.size)
            have K2 := Lib.hid k2
            clear x0 x1 y0 y1 z2 k2 a1 a2
            refine wp_region_grew (by kernel_rfl) (by kernel_rfl) ?_
            repeat (first | go_big_quiet_skip | quiet_step ((go_at_call 20; first | with_reducible exact HG1.out _ | exact HG2.out _)))
            refine wpQuiet_nil ?_
            rintro _ ⟨p, rfl⟩
            go_wp2_with fail
            go_ret
            exact ⟨by rw [HO.out]; rfl, turn_of_below K2.out.to_below (TurnIn.of_below p.old)⟩
          · have HO : Hid (sadOk a q = false) := Lib.hid (by rw [HDEF.out, HX.out, HY.out]; simp [h5])
            have t1 : ((a.1.length : Int) == (q.1.length : Int)) = true := by simp [h3]
            have t2 : ((a.2.length : Int) == (q.2.length : Int)) = true := by simp [h4]
            have t3 : ((lx : Int) == (ly : Int)) = false := by simp; omega
            clear h1 h2 h3 h4 h5 HX HY
            clear HDEF
            generalize a.1.length = n at *
            generalize a.2.length = m at *
            generalize q.1.length = n2 at *
            generalize q.2.length = m2 at *
            have a1 := turn_alloc w (.cells #[.slice (some ⟨b, off, none⟩) n c, .slice B m d] 25)
            have a2 := turn_alloc (w.alloc (.cells #[.slice (some ⟨b, off, none⟩) n c, .slice B m d] 25)) (.cells #[.slice (some ⟨b', off', none⟩) n2 c2, .slice B2 m2 d2] 25)
            have z2 : ((w.alloc (.cells #[.slice (some ⟨b, off, none⟩) n c, .slice B m d] 25)).alloc (.cells #[.slice (some ⟨b', off', none⟩) n2 c2, .slice B2 m2 d2] 25)).heap.size = w.heap.size + 2 := by simp
            have x0 := cell_turn a2 (alloc_duo0 w (.slice (some ⟨b, off, none⟩) n c) (.slice B m d) 25) (alloc_lt _ _)
            have x1 := cell_turn a2 (alloc_duo1 w (.slice (some ⟨b, off, none⟩) n c) (.slice B m d) 25) (alloc_lt _ _)
            have y0 := alloc_duo0 (w.alloc (.cells #[.slice (some ⟨b, off, none⟩) n c, .slice B m d] 25)) (.slice (some ⟨b', off', none⟩) n2 c2) (.slice B2 m2 d2) 25
            have y1 := alloc_duo1 (w.alloc (.cells #[.slice (some ⟨b, off, none⟩) n c, .slice B m d] 25)) (.slice (some ⟨b', off', none⟩) n2 c2) (.slice B2 m2 d2) 25
            rw [World.size_alloc] at y0 y1
            have k2 := turn_trans a1 a2 (by omega)
            go_enter Tryd.func57, Tryd.ntmps57
            go_wp2_with fail
            generalize ((w.alloc (.cells #[.slice (some ⟨b, off, none⟩) n c, .slice B m d] 25)).alloc (.cells #[.slice (some ⟨b', off', none⟩) n2 c2, .slice B2 m2 d2] 25)) = w1 at *
            have e0 := grew_cell x0 (by omega)
            have e1 := grew_cell x1 (by omega)
            have e2 := grew_cell y0 (by omega)
            have e3 := grew_cell y1 (by omega)
            have HG1 := Lib.hid (fun p : Grew w1 => grew_bool (goodStripe_any _ _ a p.at_ ((HV.out.touch k2).below p.old) ((HU.out.touch k2).below p.old)))
            have HG2 := Lib.hid (fun p : Grew w1 => grew_bool (goodStripe_any _ _ q p.at_ ((HV2.out.touch k2).below p.old) ((HU2.out.touch k2).below p.old)))
            rw [HA.out] at HG1
            rw [HQ.out] at HG2
            have e4 := grew_cell (cell_turn k2 hcx hbl) (Nat.lt_of_lt_of_le hbl k2.size)
            have e5 := grew_cell (cell_turn k2 hcy hbl') (Nat.lt_of_lt_of_le hbl' k2.size)
            have K2 := Lib.hid k2
            clear x0 x1 y0 y1 z2 k2 a1 a2
            refine wp_region_grew (by kernel_rfl) (by kernel_rfl) ?_
            repeat (first | go_big_quiet_skip | quiet_step ((go_at_call 20; first | with_reducible exact HG1.out _ | exact HG2.out _)))
            refine wpQuiet_nil ?_
            rintro _ ⟨p, rfl⟩
            go_wp2_with fail
            go_ret
            exact ⟨by rw [HO.out]; rfl, turn_of_below K2.out.to_below (TurnIn.of_below p.old)⟩
        · have HO : Hid (sadOk a q = false) := Lib.hid (by rw [HDEF.out]; simp [h4])
          have t1 : ((a.1.length : Int) == (q.1.length : Int)) = true := by simp [h3]
          have t2 : ((a.2.length : Int) == (q.2.length : Int)) = false := by simp; omega
          clear h1 h2 h3 h4 HX HY
          clear HDEF
          generalize a.1.length = n at *
          generalize a.2.length = m at *
          generalize q.1.length = n2 at *
          generalize q.2.length = m2 at *
          have a1 := turn_alloc w (.cells #[.slice (some ⟨b, off, none⟩) n c, .slice B m d] 25)
          have a2 := turn_alloc (w.alloc (.cells #[.slice (some ⟨b, off, none⟩) n c, .slice B m d] 25)) (.cells #[.slice (some ⟨b', off', none⟩) n2 c2, .slice B2 m2 d2] 25)
          have z2 : ((w.alloc (.cells #[.slice (some ⟨b, off, none⟩) n c, .slice B m d] 25)).alloc (.cells #[.slice (some ⟨b', off', none⟩) n2 c2, .slice B2 m2 d2] 25)).heap.size = w.heap.size + 2 := by simp
          have x0 := cell_turn a2 (alloc_duo0 w (.slice (some ⟨b, off, none⟩) n c) (.slice B m d) 25) (alloc_lt _ _)
          have x1 := cell_turn a2 (alloc_duo1 w (.slice (some ⟨b, off, none⟩) n c) (.slice B m d) 25) (alloc_lt _ _)
          have y0 := alloc_duo0 (w.alloc (.cells #[.slice (some ⟨b, off, none⟩) n c, .slice B m d] 25)) (.slice (some ⟨b', off', none⟩) n2 c2) (.slice B2 m2 d2) 25
          have y1 := alloc_duo1 (w.alloc (.cells #[.slice (some ⟨b, off, none⟩) n c, .slice B m d] 25)) (.slice (some ⟨b', off', none⟩) n2 c2) (.slice B2 m2 d2) 25
          rw [World.size_alloc] at y0 y1
          have k2 := turn_trans a1 a2 (by omega)
          go_enter Tryd.func57, Tryd.ntmps57
          go_wp2_with fail
          generalize ((w.alloc (.cells #[.slice (some ⟨b, off, none⟩) n c, .slice B m d] 25)).alloc (.cells #[.slice (some ⟨b', off', none⟩) n2 c2, .slice B2 m2 d2] 25)) = w1 at *
          have e0 := grew_cell x0 (by omega)
          have e1 := grew_cell x1 (by omega)
          have e2 := grew_cell y0 (by omega)
          have e3 := grew_cell y1 (by omega)
          have HG1 := Lib.hid (fun p : Grew w1 => grew_bool (goodStripe_any _ _ a p.at_ ((HV.out.touch k2).below p.old) ((HU.out.touch k2).below p.old)))
          have HG2 := Lib.hid (fun p : Grew w1 => grew_bool (goodStripe_any _ _ q p.at_ ((HV2.out.touch k2).below p.old) ((HU2.out.touch k2).below p.old)))
          rw [HA.out] at HG1
          rw [HQ.out] at HG2
          have e4 := grew_cell (cell_turn k2 hcx hbl) (Nat.lt_of_lt_of_le hbl k2.size)
          have e5 := grew_cell (cell_turn k2 hcy hbl') (Nat.lt_of_lt_of_le hbl' k2.size)
          have K2 := Lib.hid k2
          clear x0 x1 y0 y1 z2 k2 a1 a2
          refine wp_region_grew (by kernel_rfl) (by kernel_rfl) ?_
          repeat (first | go_big_quiet_skip | quiet_step ((go_at_call 20; first | with_reducible exact HG1.out _ | exact HG2.out _)))
          refine wpQuiet_nil ?_
          rintro _ ⟨p, rfl⟩
          go_wp2_with fail
          go_ret
          exact ⟨by rw [HO.out]; rfl, turn_of_below K2.out.to_below (TurnIn.of_below p.old)⟩
      · have HO : Hid (sadOk a q = false) := Lib.hid (by rw [HDEF.out]; simp [h3])
        have t1 : ((a.1.length : Int) == (q.1.length : Int)) = false := by simp; omega
        clear h1 h2 h3 HX HY
        clear HDEF
        generalize a.1.length = n at *
        generalize a.2.length = m at *
        generalize q.1.length = n2 at *
        generalize q.2.length = m2 at *
        have a1 := turn_alloc w (.cells #[.slice (some ⟨b, off, none⟩) n c, .slice B m d] 25)
        have a2 := turn_alloc (w.alloc (.cells #[.slice (some ⟨b, off, none⟩) n c, .slice B m d] 25)) (.cells #[.slice (some ⟨b', off', none⟩) n2 c2, .slice B2 m2 d2] 25)
        have z2 : ((w.alloc (.cells #[.slice (some ⟨b, off, none⟩) n c, .slice B m d] 25)).alloc (.cells #[.slice (some ⟨b', off', none⟩) n2 c2, .slice B2 m2 d2] 25)).heap.size = w.heap.size + 2 := by simp
        have x0 := cell_turn a2 (alloc_duo0 w (.slice (some ⟨b, off, none⟩) n c) (.slice B m d) 25) (alloc_lt _ _)
        have x1 := cell_turn a2 (alloc_duo1 w (.slice (some ⟨b, off, none⟩) n c) (.slice B m d) 25) (alloc_lt _ _)
        have y0 := alloc_duo0 (w.alloc (.cells #[.slice (some ⟨b, off, none⟩) n c, .slice B m d] 25)) (.slice (some ⟨b', off', none⟩) n2 c2) (.slice B2 m2 d2) 25
        have y1 := alloc_duo1 (w.alloc (.cells #[.slice (some ⟨b, off, none⟩) n c, .slice B m d] 25)) (.slice (some ⟨b', off', none⟩) n2 c2) (.slice B2 m2 d2) 25
        rw [World.size_alloc] at y0 y1
        have k2 := turn_trans a1 a2 (by omega)
        go_enter Tryd.func57, Tryd.ntmps57
        go_wp2_with fail
        generalize ((w.alloc (.cells #[.slice (some ⟨b, off, none⟩) n c, .slice B m d] 25)).alloc (.cells #[.slice (some ⟨b', off', none⟩) n2 c2, .slice B2 m2 d2] 25)) = w1 at *
        have e0 := grew_cell x0 (by omega)
        have e1 := grew_cell x1 (by omega)
        have e2 := grew_cell y0 (by omega)
        have e3 := grew_cell y1 (by omega)
        have HG1 := Lib.hid (fun p : Grew w1 => grew_bool (goodStripe_any _ _ a p.at_ ((HV.out.touch k2).below p.old) ((HU.out.touch k2).below p.old)))
        have HG2 := Lib.hid (fun p : Grew w1 => grew_bool (goodStripe_any _ _ q p.at_ ((HV2.out.touch k2).below p.old) ((HU2.out.touch k2).below p.old)))
        rw [HA.out] at HG1
        rw [HQ.out] at HG2
        have e4 := grew_cell (cell_turn k2 hcx hbl) (Nat.lt_of_lt_of_le hbl k2.size)
        have e5 := grew_cell (cell_turn k2 hcy hbl') (Nat.lt_of_lt_of_le hbl' k2.size)
        have K2 := Lib.hid k2
        clear x0 x1 y0 y1 z2 k2 a1 a2
        refine wp_region_grew (by kernel_rfl) (by kernel_rfl) ?_
        repeat (first | go_big_quiet_skip | quiet_step ((go_at_call 20; first | with_reducible exact HG1.out _ | exact HG2.out _)))
        refine wpQuiet_nil ?_
        rintro _ ⟨p, rfl⟩
        go_wp2_with fail
        go_ret
        exact ⟨by rw [HO.out]; rfl, turn_of_below K2.out.to_below (TurnIn.of_below p.old)⟩
    · have HQ : Hid (strpOk q = false) := Lib.hid (by simpa using h2)
      have HO : Hid (sadOk a q = false) := Lib.hid (by rw [HDEF.out, HQ.out]; simp)
      clear h1 h2 b1
      obtain ⟨A, c, hvv⟩ := hv.len
      obtain ⟨A2, c2, hvv2⟩ := hv2.len
      rw [strs_length] at hvv hvv2
      subst hvv hvv2
      obtain ⟨B, d, huu⟩ := hu.len
      obtain ⟨B2, d2, huu2⟩ := hu2.len
      rw [strs_length] at huu huu2
      subst huu huu2
      clear hv hu hv2 hu2
      clear HDEF
      generalize a.1.length = n at *
      generalize a.2.length = m at *
      generalize q.1.length = n2 at *
      generalize q.2.length = m2 at *
      have a1 := turn_alloc w (.cells #[.slice A n c, .slice B m d] 25)
      have a2 := turn_alloc (w.alloc (.cells #[.slice A n c, .slice B m d] 25)) (.cells #[.slice A2 n2 c2, .slice B2 m2 d2] 25)
      have z2 : ((w.alloc (.cells #[.slice A n c, .slice B m d] 25)).alloc (.cells #[.slice A2 n2 c2, .slice B2 m2 d2] 25)).heap.size = w.heap.size + 2 := by simp
      have x0 := cell_turn a2 (alloc_duo0 w (.slice A n c) (.slice B m d) 25) (alloc_lt _ _)
      have x1 := cell_turn a2 (alloc_duo1 w (.slice A n c) (.slice B m d) 25) (alloc_lt _ _)
      have y0 := alloc_duo0 (w.alloc (.cells #[.slice A n c, .slice B m d] 25)) (.slice A2 n2 c2) (.slice B2 m2 d2) 25
      have y1 := alloc_duo1 (w.alloc (.cells #[.slice A n c, .slice B m d] 25)) (.slice A2 n2 c2) (.slice B2 m2 d2) 25
      rw [World.size_alloc] at y0 y1
      have k2 := turn_trans a1 a2 (by omega)
      go_enter Tryd.func57, Tryd.ntmps57
      go_wp2_with fail
      generalize ((w.alloc (.cells #[.slice A n c, .slice B m d] 25)).alloc (.cells #[.slice A2 n2 c2, .slice B2 m2 d2] 25)) = w1 at *
      have e0 := grew_cell x0 (by omega)
      have e1 := grew_cell x1 (by omega)
      have e2 := grew_cell y0 (by omega)
      have e3 := grew_cell y1 (by omega)
      have HG1 := Lib.hid (fun p : Grew w1 => grew_bool (goodStripe_any _ _ a p.at_ ((HV.out.touch k2).below p.old) ((HU.out.touch k2).below p.old)))
      have HG2 := Lib.hid (fun p : Grew w1 => grew_bool (goodStripe_any _ _ q p.at_ ((HV2.out.touch k2).below p.old) ((HU2.out.touch k2).below p.old)))
      rw [HA.out] at HG1
      rw [HQ.out] at HG2
      have K2 := Lib.hid k2
      clear x0 x1 y0 y1 z2 k2 a1 a2
      refine wp_region_grew (by kernel_rfl) (by kernel_rfl) ?_
      repeat (first | go_big_quiet_skip | quiet_step ((go_at_call 20; first | with_reducible exact HG1.out _ | exact HG2.out _)))
      refine wpQuiet_nil ?_
      rintro _ ⟨p, rfl⟩
      go_wp2_with fail
      go_ret
      exact ⟨by rw [HO.out]; rfl, turn_of_below K2.out.to_below (TurnIn.of_below p.old)⟩
  · have HA : Hid (strpOk a = false) := Lib.hid (by simpa using h1)
    have HO : Hid (sadOk a q = false) := Lib.hid (by rw [HDEF.out, HA.out]; simp)
    clear h1
    obtain ⟨A, c, hvv⟩ := hv.len
    obtain ⟨A2, c2, hvv2⟩ := hv2.len
    rw [strs_length] at hvv hvv2
    subst hvv hvv2
    obtain ⟨B, d, huu⟩ := hu.len
    obtain ⟨B2, d2, huu2⟩ := hu2.len
    rw [strs_length] at huu huu2
    subst huu huu2
    clear hv hu hv2 hu2
    clear HDEF
    generalize a.1.length = n at *
    generalize a.2.length = m at *
    generalize q.1.length = n2 at *
    generalize q.2.length = m2 at *
    have a1 := turn_alloc w (.cells #[.slice A n c, .slice B m d] 25)
    have a2 := turn_alloc (w.alloc (.cells #[.slice A n c, .slice B m d] 25)) (.cells #[.slice A2 n2 c2, .slice B2 m2 d2] 25)
    have z2 : ((w.alloc (.cells #[.slice A n c, .slice B m d] 25)).alloc (.cells #[.slice A2 n2 c2, .slice B2 m2 d2] 25)).heap.size = w.heap.size + 2 := by simp
    have x0 := cell_turn a2 (alloc_duo0 w (.slice A n c) (.slice B m d) 25) (alloc_lt _ _)
    have x1 := cell_turn a2 (alloc_duo1 w (.slice A n c) (.slice B m d) 25) (alloc_lt _ _)
    have y0 := alloc_duo0 (w.alloc (.cells #[.slice A n c, .slice B m d] 25)) (.slice A2 n2 c2) (.slice B2 m2 d2) 25
    have y1 := alloc_duo1 (w.alloc (.cells #[.slice A n c, .slice B m d] 25)) (.slice A2 n2 c2) (.slice B2 m2 d2) 25
    rw [World.size_alloc] at y0 y1
    have k2 := turn_trans a1 a2 (by omega)
    go_enter Tryd.func57, Tryd.ntmps57
    go_wp2_with fail
    generalize ((w.alloc (.cells #[.slice A n c, .slice B m d] 25)).alloc (.cells #[.slice A2 n2 c2, .slice B2 m2 d2] 25)) = w1 at *
    have e0 := grew_cell x0 (by omega)
    have e1 := grew_cell x1 (by omega)
    have e2 := grew_cell y0 (by omega)
    have e3 := grew_cell y1 (by omega)
    have HG1 := Lib.hid (fun p : Grew w1 => grew_bool (goodStripe_any _ _ a p.at_ ((HV.out.touch k2).below p.old) ((HU.out.touch k2).below p.old)))
    have HG2 := Lib.hid (fun p : Grew w1 => grew_bool (goodStripe_any _ _ q p.at_ ((HV2.out.touch k2).below p.old) ((HU2.out.touch k2).below p.old)))
    rw [HA.out] at HG1
    have K2 := Lib.hid k2
    clear x0 x1 y0 y1 z2 k2 a1 a2
    refine wp_region_grew (by kernel_rfl) (by kernel_rfl) ?_
    repeat (first | go_big_quiet_skip | quiet_step ((go_at_call 20; first | with_reducible exact HG1.out _ | exact HG2.out _)))
    refine wpQuiet_nil ?_
    rintro _ ⟨p, rfl⟩
    go_wp2_with fail
    go_ret
    exact ⟨by rw [HO.out]; rfl, turn_of_below K2.out.to_below (TurnIn.of_below p.old)⟩

end Go.Proofs.YtbopocpmodpfcaaDoor
