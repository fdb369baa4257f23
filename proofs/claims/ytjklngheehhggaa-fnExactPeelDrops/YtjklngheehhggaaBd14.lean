/- Joined texts: TextsEq, Strp3, Strp4, Strp5, MkDrpT, PeeI, PluI. -/
import Derived.Deep.QuietTactic
import Derived.BigQuiet
import Derived.Test.YtjklngheehhggaaBd02
import Derived.IntWalk
import Derived.Test.YtjklngheehhggaaBd13
import Derived.Lib.ConvBytes
import Derived.Deep.AppendSrc
import Derived.StillTailTactics
import Derived.Test.YtjklngheehhggaaBd09
import Derived.Test.YtjklngheehhggaaBd12
set_option linter.unusedSimpArgs false
set_option linter.unusedVariables false
/- Lists of texts compared: slices.Equal and the model's l6Same. -/
namespace G294
open Go Go.RowKit
theorem str_other {x y : List UInt8} (h : x ≠ y) : ((str x).toList == (str y).toList) = false := by
  rw [str_toList, str_toList]; simpa using h
theorem take_same {α : Type} {L M : List α} {k : Nat} (h : L.take k = M.take k) (h1 : k < L.length) (h2 : k < M.length) (e : L[k] = M[k]) : L.take (k + 1) = M.take (k + 1) := by
  rw [List.take_succ_eq_append_getElem h1, List.take_succ_eq_append_getElem h2, h, e]
end G294
namespace Go.Proofs.Ytjklngheehhggaa
open Go.RowKit G294

end Go.Proofs.Ytjklngheehhggaa

/- MakeStripe and IsRight, the program's. -/
namespace G294
open Go Go.RowKit
/-- the two cells of a result are stored -/
theorem duo_store {E : TypeId} {w W : World} {v u : Value} {s : Strp} {lo hi R : Nat} (h : OwnT E W lo hi v u s) (hb : Below w.heap.size w W) (h1 : w.heap.size ≤ R) (h2 : R < lo) (h3 : w.heap.size ≤ lo) :
    OwnT E ((W.setCell ⟨R, 0, none⟩ v).setCell ⟨R, 1, none⟩ u) w.heap.size ((W.setCell ⟨R, 0, none⟩ v).setCell ⟨R, 1, none⟩ u).heap.size v u s ∧ TurnIn 0 0 w ((W.setCell ⟨R, 0, none⟩ v).setCell ⟨R, 1, none⟩ u) := by
  have k0 := turn_setCell W R 0 v
  have k1 := turn_setCell (W.setCell ⟨R, 0, none⟩ v) R 1 u
  have s0 := k0.size
  have s1 := k1.size
  have hh : hi ≤ W.heap.size := by obtain ⟨_, _, _, _, o⟩ := h; exact o.2.1
  exact ⟨((h.keep k0 (by omega)).keep k1 (by omega)).wider h3 (by omega) (by omega), TurnIn.of_below ((hb.setCell (p := ⟨R, 0, none⟩) h1 _).setCell (p := ⟨R, 1, none⟩) h1 _)⟩
end G294
namespace Go.Proofs.Ytjklngheehhggaa
open Go.RowKit G294

end Go.Proofs.Ytjklngheehhggaa

/- MakeStripe and IsRight, the model's. -/
namespace G294
open Go Go.RowKit
theorem mkS_rows (l : List (List UInt8)) (m : Nat) : (mkS l m).2 = rowsT m l.length (l.getD 0 []).length prmF l := rfl
end G294
namespace Go.Proofs.Ytjklngheehhggaa
open Go.RowKit G294

end Go.Proofs.Ytjklngheehhggaa

/- The model's l6Plus and l6Own. -/
namespace G294
open Go Go.RowKit
/-- bytes in a block, each of which may be written -/
structure BytesIn (W : World) (B : Nat) (l : List UInt8) : Prop where
  lt : B < W.heap.size
  cell : ∀ j, j < l.length → W.cell? ⟨B, j, none⟩ = some (.int .u8 ((l.getD j 0).toNat : Int))
  free : ∀ j, j < l.length → W.frozen? ⟨B, j, none⟩ = false
theorem BytesIn.store {W : World} {B q : Nat} {l l' : List UInt8} {x : UInt8} (h : BytesIn W B l) (hq : q < l.length) (e : l.set q x = l') : BytesIn (W.setCell ⟨B, q, none⟩ (.int .u8 (x.toNat : Int))) B l' := by
  subst e
  refine ⟨by simpa using h.lt, fun j hj => ?_, fun j hj => by simpa using h.free j (by simpa using hj)⟩
  rw [List.length_set] at hj
  by_cases e : j = q
  · subst e
    have := World.cell?_setCell_same W ⟨B, j, none⟩ (.int .u8 (x.toNat : Int)) (h.cell j hj)
    rw [this]; simp [List.getD, hj]
  · rw [World.cell?_setCell_other _ _ _ _ (by simp <;> exact fun h => e h.symm), h.cell j hj]
    simp [List.getD, List.getElem?_set, show ¬ q = j from fun h => e h.symm]
theorem BytesIn.drew {W : World} {B : Nat} {l : List UInt8} (h : BytesIn W B l) : BytesIn W.drew B l := ⟨h.lt, h.cell, h.free⟩
theorem BytesIn.seen {W : World} {B cp : Nat} {l : List UInt8} (h : BytesIn W B l) (h1 : l.length ≤ cp) (h2 : cp ≤ maxLen) : Seen W (.slice (some ⟨B, 0, none⟩) l.length cp) (bys l) := by
  refine ⟨some ⟨B, 0, none⟩, cp, by rw [bys_length], by rw [bys_length]; exact h1, h2, fun _ => ⟨B, 0, rfl, h.lt, fun i u hu => ?_⟩⟩
  have hi : i < l.length := by
    rcases Nat.lt_or_ge i l.length with h | h
    · exact h
    · rw [List.getElem?_eq_none (by simpa using h)] at hu; cases hu
  rw [bys_get l i hi] at hu
  cases hu
  rw [Nat.zero_add, h.cell i hi]; simp [List.getD, hi]
theorem bytes_of_str {P : Program} (w : World) (src dst e : TypeId) (l : List UInt8) (hs : P.underlying src = some .string) (hd : P.underlying dst = some (.slice e)) (he : P.underlying e = some (.int .u8)) (hl : l.length ≤ maxLen) :
    ∃ cp w1, (convert src dst (.string (str l))).run P w = .ok (.slice (some ⟨w.heap.size, 0, none⟩) l.length cp) w1 ∧ l.length ≤ cp ∧ cp ≤ maxLen ∧ BytesIn w1 w.heap.size l ∧ Below w.heap.size w w1 := by
  have h := Lib.run_convert_string_bytes (P := P) w src dst e (str l) hs hd he
  rw [str_size] at h
  refine ⟨_, _, h, grownCap_ge _ _ _ _, grownCap_le_maxLen _ _ _ _ hl, ⟨by rw [Lib.bytesWorld_size]; omega, fun j hj => ?_, fun j hj => ?_⟩, ⟨rfl, rfl, rfl, by rw [Lib.bytesWorld_size]; omega, fun k hk => Lib.bytesWorld_at_old _ _ _ _ hk⟩⟩
  · have := Lib.bytesWorld_cell w e (str l) j (by rw [str_size]; exact hj)
    rw [this]; rfl
  · simp only [World.frozen?, Lib.bytesWorld_at_new]
    have : j < (Lib.bytesCells w e (str l)).size := by
      have e1 : (Lib.bytesCells w e (str l)).size = (str l).data.size + (grownCap w (str l).size 0 e - (str l).size) := by simp [Lib.bytesCells]
      have e2 : (str l).data.size = l.length := by show l.toArray.size = _; simp
      omega
    simp; omega
/-- append([]T{}, x...) of a row that is not empty: a new row -/
theorem run_appendLit {P : Program} (w : World) (t ty e : TypeId) (z : Value) (bytes : Nat) (ht : P.underlying t = some (.slice e)) (hinfo : (P.info? e).map (fun i => (i.zero, i.size, i.bytes)) = some (some z, 1, bytes)) (hzs : z.cells.size = 1)
    (base : Addr) (A : Addr) (m c : Nat) (ys : List Value) (h1m : 1 ≤ m) (hl : ys.length = m) (hc : ∀ j y, ys[j]? = some y → w.cell? (A.add j) = some y) (h1 : ∀ y, y ∈ ys → y.oneCell' = true) (hn : m ≤ 1000000) (hby : bytes ≤ 1000) :
    ∃ cp w', (Builtin.append_ #[t, t] ty #[.slice (some base) 0 0, .slice (some A) m c]).run P w = .ok (.slice (some ⟨w.heap.size, 0, none⟩) m cp) w' ∧ w'.ownsRow w.heap.size e 1 (.slice (some ⟨w.heap.size, 0, none⟩) m cp) m ys ∧ TurnIn 0 0 w w' := by
  obtain ⟨i, hi, hz, hsz, hbs⟩ := info_parts hinfo
  have hge := grownCap_ge w m 0 e
  have hcm : grownCap w m 0 e ≤ maxLen := grownCap_le_maxLen w m 0 e (by unfold maxLen; omega)
  have hb : m * bytes ≤ 1000000 * 1000 := Nat.mul_le_mul hn hby
  have h := run_append_grow_src (P := P) w t t ty e i z ht hi hz (some base) 0 0 [] (by simp [Builtin.firstCells, loadCells, loadCellsFrom]) (.slice (some A) m c) m ys (by rw [hsz]; exact Src.ofSlice w ht A m c ys (by omega) hc h1) (by omega) (by omega) (by rw [Nat.zero_add, nextslicecap_zero (by omega), hbs]; omega)
  rw [Nat.zero_add] at h
  refine ⟨_, _, h, ⟨by omega, .inr ⟨w.heap.size, _, _, rfl, Nat.le_refl _, heap_alloc_new w.drew _, hge, hcm, ?_, ?_⟩⟩, TurnIn.of_below ((Below.refl _ _).drew.alloc (Nat.le_refl _) _)⟩
  · simp only [List.nil_append, Array.size_append, List.size_toArray, size_zeroCells, hzs, hl]; omega
  · simp only [List.nil_append, Array.toList_append, Nat.mul_one]
    rw [← hl]; exact List.take_left
theorem step_appendLit {P : Program} {w : World} {ops : Array Oper} {o : Oper} {a : Act} {K : Act → World → Prop} {Q : Exit → Act → World → Prop} {E : Prop} (hw : Region.wanted o (yielded ops a.tmps) = true) (s x : Operand) (t : TypeId)
    (ho : o.op = .call { callee := .builtin .append, args := #[s, x], argTypes := #[t, t] })
    (e : TypeId) (z : Value) (bytes : Nat) (ht : P.underlying t = some (.slice e)) (hinfo : (P.info? e).map (fun i => (i.zero, i.size, i.bytes)) = some (some z, 1, bytes)) (hzs : z.cells.size = 1)
    (base : Addr) (hs : a.eval s = .slice (some base) 0 0)
    (A : Addr) (m c : Nat) (ys : List Value) (hx : a.eval x = .slice (some A) m c) (h1m : 1 ≤ m) (hl : ys.length = m) (hc : ∀ j y, ys[j]? = some y → w.cell? (A.add j) = some y) (h1 : ∀ y, y ∈ ys → y.oneCell' = true)
    (hn : m ≤ 1000000) (hby : bytes ≤ 1000)
    (h : ∀ g cp w', Hid (g = w.heap.size) → w'.ownsRow g e 1 (.slice (some ⟨g, 0, none⟩) m cp) m ys → TurnIn 0 0 w w' → K (a.put o.dst (.slice (some ⟨g, 0, none⟩) m cp)) w') :
    if Region.wanted o (yielded ops a.tmps) = true then Oper.wp P o a w K Q else E := by
  rw [if_pos hw]
  obtain ⟨cp, w', hrun, r1, r2⟩ := run_appendLit (P := P) w t o.type e z bytes ht hinfo hzs base A m c ys h1m hl hc h1 hn hby
  unfold Oper.wp execOp
  simp only [ho, resolve, invoke, builtin, Sem.run_bind, Sem.run_pure, Result.andThen_ok, List.map_toArray, List.map_cons, List.map_nil, hs, hx, hrun]
  exact h _ cp w' (Lib.hid rfl) r1 r2
theorem own_lower {w : World} {e : TypeId} {v : Value} {lo lo' n : Nat} {l : List (List UInt8)} (h : w.ownsRow lo e 1 v n (strs l)) (hl : lo' ≤ lo) (hn : n = l.length) : w.ownsRow lo' e 1 v l.length (strs l) := by
  subst hn
  refine ⟨h.1, ?_⟩
  rcases h.2 with hh | ⟨g, cap, cur, rfl, hbg, rest⟩
  · exact .inl hh
  · exact .inr ⟨g, cap, cur, rfl, Nat.le_trans hl hbg, rest⟩
theorem plus_step (a b : List UInt8) (f : UInt8) (q : Nat) : (mkRow a.length fun p => if p < q then a.getD p 0 ^^^ gmul f (b.getD p 0) else a.getD p 0).set q (a.getD q 0 ^^^ gmul f (b.getD q 0)) = mkRow a.length fun p => if p < q + 1 then a.getD p 0 ^^^ gmul f (b.getD p 0) else a.getD p 0 := by
  rw [mkRow_set]
  apply mkRow_congr
  intro p hp
  by_cases e : p = q
  · subst e; simp
  · rw [if_neg e]
    by_cases h2 : p < q
    · rw [if_pos h2, if_pos (by omega)]
    · rw [if_neg h2, if_neg (by omega)]
theorem mkRow_self (a : List UInt8) : mkRow a.length (fun p => a.getD p 0) = a := by
  refine List.ext_getElem (by simp) fun i h1 h2 => ?_
  simp [mkRow, List.getD, h2]
end G294
namespace Go.Proofs.Ytjklngheehhggaa
open Go.RowKit G294

set_option maxRecDepth 100000 in
set_option maxHeartbeats 2000000 in
theorem l6Plus_own (a b : List UInt8) (f : UInt8) (w : World) (hl : b.length = a.length) (hn : a.length ≤ 1000) : Calls Try.prog 59 #[.string (str a), .int .u8 (f.toNat : Int), .string (str b)] w (RetStr w (plusL a f b)) := by
  obtain ⟨cp, w1, hcv, hc1, hc2, hO, hb1⟩ := bytes_of_str (P := Try.prog) w 9 53 5 a Try.underlying9 Try.underlying53 Try.underlying5 (by unfold maxLen; omega)
  have HM := Lib.hid hc2
  have hs2 := str_size b
  rw [hl] at hs2
  have HP : Hid (plusL a f b = mkRow a.length fun p => a.getD p 0 ^^^ gmul f (b.getD p 0)) := Lib.hid rfl
  have HST := Lib.hid (plus_step a b f)
  have HXY : Hid (∀ q, a.getD q 0 ^^^ gmul f (b.getD q 0) = a.getD q 0 ^^^ gmul f (b.getD q 0)) := Lib.hid (fun _ => rfl)
  have hO0 : BytesIn w1 w.heap.size (mkRow a.length fun p => if p < 0 then a.getD p 0 ^^^ gmul f (b.getD p 0) else a.getD p 0) := by
    have e0 : (mkRow a.length fun p => if p < 0 then a.getD p 0 ^^^ gmul f (b.getD p 0) else a.getD p 0) = a := (mkRow_congr fun p _ => if_neg (Nat.not_lt_zero p)).trans (mkRow_self a)
    rw [e0]; exact hO
  have HO0 := Lib.hid hO0
  have HB1 := Lib.hid hb1
  rw [HP.out]
  clear hl hO hO0 HP hb1
  unfold maxLen at hc2
  generalize hG : a.length = n at *
  have hsb : (str b).size = n := hs2
  clear hG hs2
  go_enter Try.func59, Try.ntmps59
  go_wp2_with fail
  go_loopw [13] (fun i wr => ∃ q : Nat, q ≤ n ∧ i = .int .i64 q ∧ Hid (BytesIn wr w.heap.size (mkRow n fun p => if p < q then a.getD p 0 ^^^ gmul f (b.getD p 0) else a.getD p 0)) ∧ Hid (Below w.heap.size w wr))
    (fun i _ => n - (intOf i).toNat)
  case atStart => exact ⟨0, Nat.zero_le _, rfl, HO0, HB1⟩
  case round =>
    obtain ⟨q, hq, rfl, HO, HB⟩ := hrel
    clear HO0 HB1
    by_cases hlq : q < n
    · have hqi : (q : Int) < (n : Int) := by omega
      have hcs := HO.out.cell q (by simpa using hlq)
      have hfr := HO.out.free q (by simpa using hlq)
      rw [mkRow_getD _ _ _ hlq, if_neg (by omega)] at hcs
      have hsg := str_get b q (by omega)
      have hst := HST.out q
      generalize a.getD q 0 = x at *
      generalize b.getD q 0 = y at *
      have HC := Lib.hid (stilly (l1Times_u8 f y wr.drew))
      have hxor : bits BinOp.xor IntKind.u8 (x.toNat : Int) ((gmul f y).toNat : Int) = ((x ^^^ gmul f y).toNat : Int) := xor_u8 _ _
      have HO3 := Lib.hid ((HO.out.store (q := q) (x := x ^^^ gmul f y) (by simpa using hlq) hst).drew)
      have HB3 := Lib.hid ((HB.out.setCell (p := ⟨w.heap.size, q, none⟩) (Nat.le_refl _) (.int .u8 ((x ^^^ gmul f y).toNat : Int))).drew)
      clear hst HST
      generalize x ^^^ gmul f y = r at *
      go_wp2_with fail
      refine wp_region_still_tail 11 (by kernel_rfl) (by kernel_rfl) ?_
      simp only [List.take_succ_cons, List.take_zero, List.drop_succ_cons, List.drop_zero]
      repeat (first | still_step | still_call (HC.out))
      refine wpStill_nil ?_
      go_wp2_with fail
      go_roundw
      case rel => exact ⟨q + 1, by omega, by go_num, HO3, HB3⟩
      case measure => simp [intOf]; omega
    · obtain rfl : q = n := by omega
      have hqi : ¬ (q : Int) < (q : Int) := by omega
      have HE : Hid ((mkRow q fun p => if p < q then a.getD p 0 ^^^ gmul f (b.getD p 0) else a.getD p 0) = mkRow q fun p => a.getD p 0 ^^^ gmul f (b.getD p 0)) := Lib.hid (mkRow_congr fun p hp => if_pos hp)
      rw [HE.out] at HO
      have hseen := HO.out.seen (cp := cp) (by simpa using hc1) HM.out
      rw [mkRow_length] at hseen
      have hconv := run_string_seen (P := Try.prog) 53 5 9 Try.underlying53 Try.underlying5 Try.underlying9 hseen
      clear hseen
      go_wp2_with fail
      go_ret
      exact ⟨rfl, TurnIn.of_below HB.out⟩

end Go.Proofs.Ytjklngheehhggaa

/- Chapter 9: small facts of lists. -/
namespace G294
open Go Go.RowKit
theorem getD_lt {α : Type} {l : List α} {k : Nat} (h : k < l.length) (d : α) : l.getD k d = l[k] := by simp [List.getD, h]
theorem addN_take (B : List (List UInt8)) (ks : List Nat) (o : List UInt8) (k : Nat) (h : k < ks.length) : addN B (ks.take (k + 1)) o = plusL (addN B (ks.take k) o) 1 (B.getD (ks.getD k 0) []) := by
  have e : ks.take (k + 1) = ks.take k ++ [ks.getD k 0] := by rw [List.take_add_one, List.getElem?_eq_getElem h]; simp [List.getD, h]
  rw [e, addN_snoc]
end G294

/- Chapter 9: valid states of peeling, the program's; a text plus texts. -/
namespace G294
open Go Go.RowKit
def cntK (p : Pee) (k : Nat) : Nat := ((List.range k).filter fun k => knw p k).length
theorem cntK_yes {p : Pee} {k : Nat} (h : knw p k = true) : cntK p (k + 1) = cntK p k + 1 := by simp [cntK, List.range_succ, List.filter_append, h]
theorem cntK_no {p : Pee} {k : Nat} (h : knw p k = false) : cntK p (k + 1) = cntK p k := by simp [cntK, List.range_succ, List.filter_append, h]
theorem cntK_le (p : Pee) (k : Nat) : cntK p k ≤ k := by
  have := List.length_filter_le (fun k => knw p k) (List.range k)
  simpa [cntK] using this
def lenW (n : Nat) (p : Pee) (k : Nat) : Nat := if knw p k then n else 0
def peeN (n : Nat) (p : Pee) : Bool := bcOk p.1.length && (decide (p.2.1.length = p.1.length) && (decide (p.2.2 = (cntK p p.1.length : Int)) &&
  (List.range p.1.length).all fun k => decide ((p.1.getD k []).length = if knw p k then n else 0)))
theorem peeOk_N (l : List Sh) (p : Pee) : peeOk l p = peeN (l.getD 0 (0, [])).2.length p := rfl
theorem peeN_bad {n : Nat} {p : Pee} {k : Nat} (hk : k < p.1.length) (h : (p.1.getD k []).length ≠ lenW n p k) : peeN n p = false := by
  cases e : peeN n p
  · rfl
  · exfalso
    simp only [peeN, Bool.and_eq_true, List.all_eq_true, decide_eq_true_eq] at e
    exact h (e.2.2.2 k (List.mem_range.2 hk))
theorem peeN_end {n : Nat} {p : Pee} (h1 : bcOk p.1.length = true) (h2 : p.2.1.length = p.1.length) (h : ∀ k, k < p.1.length → (p.1.getD k []).length = lenW n p k) : peeN n p = ((cntK p p.1.length : Int) == p.2.2) := by
  have e1 : ((List.range p.1.length).all fun k => decide ((p.1.getD k []).length = if knw p k then n else 0)) = true := by
    rw [List.all_eq_true]
    intro k hk
    exact decide_eq_true (h k (List.mem_range.1 hk))
  unfold peeN
  rw [h1, decide_eq_true h2, e1]
  by_cases e : p.2.2 = (cntK p p.1.length : Int)
  · rw [decide_eq_true e, e]; simp
  · rw [decide_eq_false e]
    have : ((cntK p p.1.length : Int) == p.2.2) = false := by rw [beq_eq_false_iff_ne]; exact fun h => e h.symm
    rw [this]; rfl
/-- texts added to a text -/
def sumL (T : List (List UInt8)) (o : List UInt8) : List UInt8 := T.foldl (fun o t => plusL o 1 t) o
@[simp] theorem sumL_length (T : List (List UInt8)) (o : List UInt8) : (sumL T o).length = o.length := by
  induction T generalizing o with
  | nil => rfl
  | cons t T ih => show (sumL T (plusL o 1 t)).length = _; rw [ih]; simp
theorem sumL_take (T : List (List UInt8)) (o : List UInt8) (k : Nat) (h : k < T.length) : sumL (T.take (k + 1)) o = plusL (sumL (T.take k) o) 1 (T.getD k []) := by
  have e : T.take (k + 1) = T.take k ++ [T.getD k []] := by rw [List.take_add_one, List.getElem?_eq_getElem h]; simp [List.getD, h]
  rw [e]; simp [sumL, List.foldl_append]
/-- a half sum: the first q bytes are added -/
def halfP (a b : List UInt8) (q : Nat) : List UInt8 := mkRow a.length fun p => if p < q then a.getD p 0 ^^^ b.getD p 0 else a.getD p 0
@[simp] theorem halfP_length (a b : List UInt8) (q : Nat) : (halfP a b q).length = a.length := by simp [halfP]
theorem halfP_zero (a b : List UInt8) : halfP a b 0 = a := (mkRow_congr fun p _ => if_neg (Nat.not_lt_zero p)).trans (mkRow_self a)
theorem halfP_end (a b : List UInt8) : halfP a b b.length = plusL a 1 b := by
  refine mkRow_congr fun p hp => ?_
  rw [gmul_one_left]
  by_cases h : p < b.length
  · rw [if_pos h]
  · rw [if_neg h]
    have : b.getD p 0 = 0 := by simp [List.getD, h]
    rw [this]; simp
theorem halfP_get {a b : List UInt8} {q : Nat} (h : q < a.length) : (halfP a b q).getD q 0 = a.getD q 0 := by unfold halfP; rw [mkRow_getD _ _ _ h, if_neg (by omega)]
theorem halfP_next (a b : List UInt8) (q : Nat) : (halfP a b q).set q (a.getD q 0 ^^^ b.getD q 0) = halfP a b (q + 1) := by
  unfold halfP
  rw [mkRow_set]
  refine mkRow_congr fun p hp => ?_
  by_cases e : p = q
  · subst e; simp
  · rw [if_neg e]
    by_cases h2 : p < q
    · rw [if_pos h2, if_pos (by omega)]
    · rw [if_neg h2, if_neg (by omega)]
end G294
namespace Go.Proofs.Ytjklngheehhggaa
open Go.RowKit G294

set_option maxRecDepth 100000 in
set_option maxHeartbeats 2000000 in
theorem goodPeel_any (v u : Value) (p : Pee) (n : Nat) (w : World) (hv : Seen w v (strs p.1)) (hu : Seen w u (bls p.2.1)) (hn : n ≤ 1000000) :
    Calls Try.prog 53 #[.agg #[v, u, .int .i64 p.2.2], .int .i64 (n : Int)] w (RetBool w (peeN n p)) := by
  obtain ⟨A, c, rfl, hlc, hcm, hx⟩ := hv
  obtain ⟨B, d, rfl, hld, hdm, hy⟩ := hu
  rw [strs_length] at hlc hx
  rw [bls_length] at hld hy
  simp only [strs_length, bls_length]
  unfold maxLen at hcm hdm
  have HBAD := Lib.hid (fun k => @peeN_bad n p k)
  have HEND := Lib.hid (@peeN_end n p)
  have HCY := Lib.hid (fun k => @cntK_yes p k)
  have HCN := Lib.hid (fun k => @cntK_no p k)
  have HCL := Lib.hid (cntK_le p)
  have HBC : Hid (bcOk p.1.length = false → peeN n p = false) := Lib.hid (fun h => by unfold peeN; rw [h]; rfl)
  have HKL : Hid (p.2.1.length ≠ p.1.length → peeN n p = false) := Lib.hid (fun h => by unfold peeN; rw [decide_eq_false h]; simp)
  have HX := Lib.hid hx
  have HY := Lib.hid hy
  clear hx hy
  generalize hz : p.2.2 = zz at *
  obtain ⟨b, hb⟩ : ∃ b, b = p.1.length := ⟨_, rfl⟩
  obtain ⟨m, hm⟩ : ∃ m, m = p.2.1.length := ⟨_, rfl⟩
  have HB := Lib.hid hb
  have HMM := Lib.hid hm
  rw [← hb] at hlc HBC HKL HBAD HEND ⊢
  rw [← hm] at hld HKL HEND ⊢
  have a1 := turn_alloc w (.cells #[.slice A b c, .slice B m d, .int .i64 zz] 33)
  have c0 := alloc_tri0 w (.slice A b c) (.slice B m d) (.int .i64 zz) 33
  have c1 := alloc_tri1 w (.slice A b c) (.slice B m d) (.int .i64 zz) 33
  have c2 := alloc_tri2 w (.slice A b c) (.slice B m d) (.int .i64 zz) 33
  have l1 := alloc_lt w (.cells #[.slice A b c, .slice B m d, .int .i64 zz] 33)
  clear hb hm
  by_cases h1 : bcOk (b : Int) = true
  · have H1 := Lib.hid h1
    have hb12 := bcOk_b h1
    by_cases h2 : m = b
    · have hne : ((m : Int) != (b : Int)) = false := by rw [h2]; simp
      subst h2
      clear h1
      go_enter Try.func53, Try.ntmps53
      go_wp2_with fail
      generalize (w.alloc (.cells #[.slice A m c, .slice B m d, .int .i64 zz] 33)) = wa at *
      refine (goodBlockCount_any _ _).mono ?_
      rintro e w' ⟨rfl, rfl⟩
      rw [H1.out]
      go_wp2_with fail
      go_loopw [5, 26] (fun q i wr => ∃ k : Nat, k ≤ m ∧ i = .int .i64 k ∧ q = .int .i64 ((cntK p k : Nat) : Int) ∧ Hid (∀ j, j < k → (p.1.getD j []).length = lenW n p j) ∧ TurnIn 0 0 wa wr)
        (fun _ i _ => m - (intOf i).toNat)
      case atStart => exact ⟨0, Nat.zero_le _, rfl, rfl, (fun _ h => by omega), TurnIn.refl _⟩
      case round =>
        obtain ⟨k, hk, rfl, rfl, HE, kr⟩ := hrel
        have zr := kr.size
        replace c0 := cell_turn kr c0 l1
        replace c1 := cell_turn kr c1 l1
        replace c2 := cell_turn kr c2 l1
        by_cases hlt : k < m
        · obtain ⟨bb, off, hA, hbl, hcell⟩ := HX.out (by rw [← HB.out]; omega)
          obtain ⟨bb', off', hB, hbl', hcell'⟩ := HY.out (by rw [← HMM.out]; omega)
          subst hA hB
          have kk := turn_trans a1 kr (by omega)
          have hcx := cell_turn kk (hcell k _ (strs_get p.1 k (by rw [← HB.out]; exact hlt))) hbl
          have hcy := cell_turn kk (hcell' k _ (bls_getD p.2.1 k (by rw [← HMM.out]; exact hlt))) hbl'
          rw [← getD_lt (by rw [← HB.out]; exact hlt) []] at hcx
          have hts := str_size (p.1.getD k [])
          have hki : (k : Int) < (m : Int) := by omega
          have hcl := HCL.out k
          have HE2 : Hid ((p.1.getD k []).length = lenW n p k → ∀ j, j < k + 1 → (p.1.getD j []).length = lenW n p j) := Lib.hid (fun h j hj => by
            rcases Nat.lt_or_ge j k with h' | h'
            · exact HE.out j h'
            · obtain rfl : j = k := by omega
              exact h)
          have HBD := Lib.hid (HBAD.out k hlt)
          have HKN : Hid (knw p k = p.2.1.getD k false) := Lib.hid rfl
          have HCY2 := Lib.hid (HCY.out k)
          have HCN2 := Lib.hid (HCN.out k)
          have HLW : Hid (lenW n p k = if knw p k then n else 0) := Lib.hid rfl
          generalize p.1.getD k [] = tx at *
          generalize p.2.1.getD k false = kb at *
          generalize cntK p k = cn at *
          generalize tx.length = tl at *
          clear hcell hcell' kk
          cases kb
          · have HW : Hid (lenW n p k = 0) := by show _ = _; rw [HLW.out, HKN.out]; rfl
            have HCC := Lib.hid (HCN2.out HKN.out)
            by_cases ht : tl = 0
            · have hbn : ((tl : Int) != 0) = false := by rw [ht]; rfl
              have HE3 := Lib.hid (HE2.out (by rw [HW.out]; exact ht))
              clear ht
              go_wp2_with fail
              go_roundw
              case rel => exact ⟨k + 1, by omega, by go_num, by rw [HCC.out], HE3.out, kr⟩
              case measure => simp [intOf]; omega
            · have hbn : ((tl : Int) != 0) = true := by rw [bne_iff_ne]; omega
              have HF := Lib.hid (HBD.out (by rw [HW.out]; exact ht))
              clear ht
              go_wp2_with fail
              go_ret
              exact ⟨by rw [HF.out]; rfl, turn_trans a1 kr (by omega)⟩
          · have HW : Hid (lenW n p k = n) := by show _ = _; rw [HLW.out, HKN.out]; rfl
            have HCC := Lib.hid (HCY2.out HKN.out)
            by_cases ht : tl = n
            · have hbn : ((tl : Int) != (n : Int)) = false := by rw [ht]; simp
              have HE3 := Lib.hid (HE2.out (by rw [HW.out]; exact ht))
              clear ht
              go_wp2_with fail
              go_roundw
              case rel => exact ⟨k + 1, by omega, by go_num, by rw [HCC.out]; go_num, HE3.out, kr⟩
              case measure => simp [intOf]; omega
            · have hbn : ((tl : Int) != (n : Int)) = true := by rw [bne_iff_ne]; omega
              have HF := Lib.hid (HBD.out (by rw [HW.out]; exact ht))
              clear ht
              go_wp2_with fail
              go_ret
              exact ⟨by rw [HF.out]; rfl, turn_trans a1 kr (by omega)⟩
        · obtain rfl : k = m := by omega
          have hki : ¬ (k : Int) < (k : Int) := by omega
          have HF := Lib.hid (HEND.out H1.out (by trivial) HE.out)
          go_wp2_with fail
          go_ret
          exact ⟨by rw [HF.out]; rfl, turn_trans a1 kr (by omega)⟩
    · have hne : ((m : Int) != (b : Int)) = true := by rw [bne_iff_ne]; omega
      have HF := Lib.hid (HKL.out h2)
      clear h1 h2
      go_enter Try.func53, Try.ntmps53
      go_wp2_with fail
      refine (goodBlockCount_any _ _).mono ?_
      rintro e w' ⟨rfl, rfl⟩
      rw [H1.out]
      go_wp2_with fail
      go_ret
      exact ⟨by rw [HF.out]; rfl, a1⟩
  · have h1 : bcOk (b : Int) = false := by simpa using h1
    have H1 := Lib.hid h1
    have HF := Lib.hid (HBC.out h1)
    clear h1
    go_enter Try.func53, Try.ntmps53
    go_wp2_with fail
    refine (goodBlockCount_any _ _).mono ?_
    rintro e w' ⟨rfl, rfl⟩
    rw [H1.out]
    go_wp2_with fail
    go_ret
    exact ⟨by rw [HF.out]; rfl, a1⟩

end Go.Proofs.Ytjklngheehhggaa

/- Chapter 9: a text plus texts, the program's. -/
namespace Go.Proofs.Ytjklngheehhggaa
open Go.RowKit G294

set_option maxRecDepth 100000 in
set_option maxHeartbeats 2000000 in
theorem plusAll_own (a : List UInt8) (u : Value) (T : List (List UInt8)) (w : World) (hu : Seen w u (strs T)) (hl : ∀ j, j < T.length → (T.getD j []).length ≤ a.length) (hn : a.length ≤ 1000) :
    Calls Try.prog 56 #[.string (str a), u] w (RetStr w (sumL T a)) := by
  obtain ⟨cp, w1, hcv, hc1, hc2, hO, hb1⟩ := bytes_of_str (P := Try.prog) w 9 53 5 a Try.underlying9 Try.underlying53 Try.underlying5 (by unfold maxLen; omega)
  obtain ⟨A', c', rfl, hlc', hcm', hx'⟩ := hu
  rw [strs_length] at hlc' hx'
  simp only [strs_length]
  unfold maxLen at hcm'
  have HM := Lib.hid hc2
  have HO0 : Hid (BytesIn w1 w.heap.size (sumL (T.take 0) a)) := hO
  have HB1 := Lib.hid hb1
  have HT : Hid (∀ k, k < T.length → sumL (T.take (k + 1)) a = plusL (sumL (T.take k) a) 1 (T.getD k [])) := Lib.hid (fun k h => sumL_take T a k h)
  have HE : Hid (sumL (T.take T.length) a = sumL T a) := Lib.hid (by rw [List.take_length])
  have HGL : Hid (∀ k, (sumL (T.take k) a).length = a.length) := Lib.hid (fun k => by simp)
  have HL := Lib.hid hl
  have HX := Lib.hid hx'
  have HTC : Hid (∀ j (h : j < T.length), (strs T)[j]? = some (.string (str (T.getD j [])))) := Lib.hid (fun j h => by rw [getD_lt h []]; exact strs_get T j h)
  generalize hg : (fun k => sumL (T.take k) a) = G at *
  have HG : Hid (∀ k, sumL (T.take k) a = G k) := Lib.hid (fun k => by rw [← hg])
  rw [← HE.out]
  simp only [HG.out] at HT HGL HO0 ⊢
  clear hO hb1 hg HG HE hl hx'
  unfold maxLen at hc2
  generalize hG : a.length = n at *
  clear hG
  generalize hm : T.length = m at *
  clear hm
  go_enter Try.func56, Try.ntmps56
  go_wp2_with fail
  go_loopw [13] (fun i wr => ∃ k : Nat, k ≤ m ∧ i = .int .i64 k ∧ Hid (BytesIn wr w.heap.size (G k)) ∧ Hid (Below w.heap.size w wr))
    (fun i _ => m - (intOf i).toNat)
  case atStart => exact ⟨0, Nat.zero_le _, rfl, HO0, HB1⟩
  case round =>
    obtain ⟨k, hk, rfl, HO, HB⟩ := hrel
    clear HO0 HB1 hcv
    by_cases hlt : k < m
    · obtain ⟨b', off', rfl, hbl', hcell'⟩ := HX.out (by omega)
      have hcx := (HB.out.cell (p := ⟨b', off' + k, none⟩) hbl').trans (hcell' k _ (HTC.out k hlt))
      have hts := str_size (T.getD k [])
      have htl := HL.out k hlt
      have HS := Lib.hid (HT.out k hlt)
      have HGK := Lib.hid (HGL.out k)
      have hki : (k : Int) < (m : Int) := by omega
      generalize T.getD k [] = t at *
      have HH0 : Hid (BytesIn wr w.heap.size (halfP (G k) t 0)) := by
        show BytesIn _ _ _
        rw [halfP_zero]; exact HO.out
      have HHE := Lib.hid (halfP_end (G k) t)
      have HHL := Lib.hid (halfP_length (G k) t)
      rw [HGK.out] at HHL
      generalize hq : t.length = q at *
      have HQ := Lib.hid hq
      clear hq hcell' HO
      go_wp2_with fail
      go_loopw [19] (fun i wq => ∃ j : Nat, j ≤ q ∧ i = .int .i64 j ∧ Hid (BytesIn wq w.heap.size (halfP (G k) t j)) ∧ Hid (Below w.heap.size w wq))
        (fun i _ => q - (intOf i).toNat)
      case atStart => exact ⟨0, Nat.zero_le _, rfl, HH0, HB⟩
      case round =>
        obtain ⟨j, hj, rfl, HJ, HBJ⟩ := hrel
        clear HH0 hcx HB
        by_cases hlj : j < q
        · have hjn : j < n := by omega
          have hcs := HJ.out.cell j (by rw [HHL.out]; exact hjn)
          have hfr := HJ.out.free j (by rw [HHL.out]; exact hjn)
          rw [halfP_get (by rw [HGK.out]; exact hjn)] at hcs
          have hsg := str_get t j (by rw [str_size, HQ.out]; exact hlj)
          have hst := HJ.out.store (q := j) (x := (G k).getD j 0 ^^^ t.getD j 0) (by rw [HHL.out]; exact hjn) (halfP_next (G k) t j)
          have hxor : bits BinOp.xor IntKind.u8 (((G k).getD j 0).toNat : Int) ((t.getD j 0).toNat : Int) = (((G k).getD j 0 ^^^ t.getD j 0).toNat : Int) := xor_u8 _ _
          generalize (G k).getD j 0 ^^^ t.getD j 0 = z at *
          generalize (G k).getD j 0 = x at *
          generalize t.getD j 0 = y at *
          have HST := Lib.hid hst
          have HB3 := Lib.hid (HBJ.out.setCell (p := ⟨w.heap.size, j, none⟩) (Nat.le_refl _) (.int .u8 (z.toNat : Int)))
          have hji : (j : Int) < (q : Int) := by omega
          have hjin : (j : Int) < (n : Int) := by omega
          clear hst
          go_wp2_with fail
          refine wp_region_still_tail 9 (by kernel_rfl) (by kernel_rfl) ?_
          simp only [List.take_succ_cons, List.take_zero, List.drop_succ_cons, List.drop_zero]
          repeat (first | still_step)
          refine wpStill_nil ?_
          go_wp2_with fail
          go_roundw
          case rel => exact ⟨j + 1, by omega, by go_num, Lib.hid HST.out.drew, Lib.hid HB3.out.drew⟩
          case measure => simp [intOf]; omega
        · obtain rfl : j = q := by omega
          have hji : ¬ (j : Int) < (j : Int) := by omega
          have HOE : Hid (BytesIn wr w.heap.size (G (k + 1))) := by
            show BytesIn _ _ _
            rw [HS.out, ← HHE.out]; exact HJ.out
          go_wp2_with fail
          go_roundw
          case rel => exact ⟨k + 1, by omega, by go_num, HOE, HBJ⟩
          case measure => simp [intOf]; omega
    · have hke : k = m := by omega
      have hki : ¬ (k : Int) < (m : Int) := by omega
      have HGK := Lib.hid (HGL.out k)
      have hseen := HO.out.seen (cp := cp) (by rw [HGK.out]; exact hc1) HM.out
      rw [HGK.out] at hseen
      have hconv := run_string_seen (P := Try.prog) 53 5 9 Try.underlying53 Try.underlying5 Try.underlying9 hseen
      clear hseen
      go_wp2_with fail
      go_ret
      exact ⟨by rw [← hke]; rfl, TurnIn.of_below HB.out⟩

end Go.Proofs.Ytjklngheehhggaa
