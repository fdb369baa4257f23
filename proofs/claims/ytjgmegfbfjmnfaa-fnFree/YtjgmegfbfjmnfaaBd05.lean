/- Joined texts: AppZ, Box2, VitE, ShardMem, VitE2, Allocs, PartWalks. -/
import Derived.Test.YtjgmegfbfjmnfaaBd00
import Derived.Lib.AppendZeros
import Derived.Test.YtjgmegfbfjmnfaaBd04
import Derived.Deep.RegionHeld3
import Derived.Test.YtjgmegfbfjmnfaaBd01
import Derived.Test.YtjgmegfbfjmnfaaBd03
set_option linter.unusedSimpArgs false
set_option linter.unusedVariables false
/- append(s, make([]T, m)...) onto a row of the call's own: as many zeros more. -/
namespace G294
open Go Go.RowKit

theorem zeroCells_list (z : Value) (m : Nat) : (Builtin.zeroCells #[z] m).toList = List.replicate m z := by
  apply List.ext_getElem
  · simp [Builtin.zeroCells]
  · intro j h1 h2
    simp [Builtin.zeroCells, Nat.mod_one]
section
variable {P : Program}
theorem run_append_zeros_own (w : World) (base : Nat) (t tn ty e : TypeId) (i : TypeInfo) (z : Value) (k kn : IntKind) (ht : P.underlying t = some (.slice e)) (htn : P.underlying tn = some (.int kn)) (hi : P.info? e = some i) (hz : i.zero = some z)
    (hsize : i.size = 1) (hzs : z.cells = #[z]) (hz1 : z.oneCell' = true) (v : Value) (n : Nat) (xs : List Value) (hown : w.ownsRow base e 1 v n xs) (m : Nat) (h0 : 0 < m) (hn : n + m ≤ 1000000000) (hby : i.bytes ≤ 1000) (hbase : base ≤ w.heap.size) :
    ∃ v' w', (Builtin.append_ #[t, tn] ty #[v, .int k m]).run P w = .ok v' w' ∧ w'.ownsRow base e 1 v' (n + m) (xs ++ List.replicate m z) ∧ w.grownBy w' v.ownBlock ∧ (v'.ownBlock = v.ownBlock ∨ v'.ownBlock = some w.heap.size) := by
  have hxl : xs.length = n := by have := hown.1; omega
  have hmn : m ≠ 0 := by omega
  have hw : IntKind.i64.wrap (m : Int) = m := by rw [IntKind.wrap_i64]; omega
  have hneg : ¬ ((m : Int) < 0) := by omega
  have hns : ¬ (m * i.size = 0) := by rw [hsize]; omega
  have h48i : ¬ (281474976710656 < (m : Int) * (i.bytes : Int)) := by
    rw [← Int.natCast_mul]
    have : m * i.bytes ≤ 1000000000 * 1000 := Nat.mul_le_mul (by omega) hby
    omega
  have hnb : (n + m) * i.bytes ≤ 140737488355328 := by
    have : (n + m) * i.bytes ≤ 1000000000 * 1000 := Nat.mul_le_mul (by omega) hby
    omega
  have hlz : (Builtin.zeroCells #[z] m).toList = List.replicate m z := zeroCells_list z m
  have hlen : (xs ++ List.replicate m z).length = (n + m) * 1 := by simp [hxl]
  have grown : ∀ (old : Nat), old < n + m → ∀ (row : Option Nat),
      (w.drew.alloc (.cells (xs.toArray ++ Builtin.zeroCells #[z] m ++ Builtin.zeroCells #[z] (grownCap w (n + m) old e - (n + m))) e)).ownsRow base e 1
        (.slice (some ⟨w.heap.size, 0, none⟩) (n + m) (grownCap w (n + m) old e)) (n + m) (xs ++ List.replicate m z) ∧
      w.grownBy (w.drew.alloc (.cells (xs.toArray ++ Builtin.zeroCells #[z] m ++ Builtin.zeroCells #[z] (grownCap w (n + m) old e - (n + m))) e)) row := by
    intro old ho row
    have hge := grownCap_ge w (n + m) old e
    have hcm : grownCap w (n + m) old e ≤ maxLen := grownCap_le_maxLen w (n + m) old e (by unfold maxLen; omega)
    refine ⟨⟨hlen, .inr ⟨w.heap.size, _, _, rfl, hbase, heap_alloc_new w.drew _, hge, hcm, ?_, ?_⟩⟩, ⟨rfl, rfl, rfl, by simp, fun k hk _ => Go.heap_alloc_old w.drew _ hk⟩⟩
    · simp only [Array.size_append, List.size_toArray, size_zeroCells, hxl]
      simp
      omega
    · simp only [Array.toList_append, hlz]
      rw [← hlen]
      exact List.take_left
  rcases hown.2 with ⟨rfl, rfl⟩ | ⟨g, cap, cur, rfl, hbg, hg, hnc, hcm, hcs, htake⟩
  · have hx : xs = [] := List.eq_nil_of_length_eq_zero hxl
    subst hx
    have hr := Lib.run_append_nil_zeros (P := P) w t tn ty e i z k kn ht htn hi hz m h0 (by omega) (by omega) (by omega)
    have hgr := grown 0 (by omega) (Value.ownBlock (.slice none 0 0))
    simp only [Nat.zero_add, List.nil_append, Array.empty_append] at hgr ⊢
    rw [hzs] at hr
    exact ⟨_, _, hr, hgr.1, hgr.2, Or.inr rfl⟩
  · by_cases hroom : n + m ≤ cap
    · have hfit : n + m ≤ cur.size := by omega
      have hst := run_storeCells_at P g n e (List.replicate m z) 0 cur w hg (by simpa using hfit) (by intro u hu; rw [(List.mem_replicate.1 hu).2]; exact hz1)
      simp only [Nat.add_zero] at hst
      have hr : (Builtin.append_ #[t, tn] ty #[.slice (some ⟨g, 0, none⟩) n cap, .int k m]).run P w = .ok (.slice (some ⟨g, 0, none⟩) (n + m) cap) (w.setRow g (cur.toList.take n ++ List.replicate m z ++ cur.toList.drop (n + (List.replicate m z).length)).toArray) := by
        simp [Builtin.append_, run_underlying ht, run_underlying htn, Go.sizeOf, typeInfo, zeroValue, hi, hz, asInt, asIntOf, hw, hmn, hneg, hsize, h48i, hroom, hzs, hlz, Addr.add_lit, Question.forced]
        have hst2 := hst; simp only [List.append_assoc, List.length_replicate] at hst2
        simp [hst2]
      refine ⟨_, _, hr, ⟨hlen, .inr ⟨g, cap, _, rfl, hbg, setRow_heap w g cur _ e _ hg, hroom, hcm, ?_, ?_⟩⟩, ⟨rfl, rfl, rfl, by simp, fun k _ hk => setRow_other w g k _ (fun e => hk (by simp [Value.ownBlock, e]))⟩, Or.inl rfl⟩
      · simp only [List.size_toArray, List.length_append, List.length_take, List.length_drop, Array.length_toList, List.length_replicate]
        omega
      · have ht1 : cur.toList.take n = xs := by simpa using htake
        rw [ht1, ← hlen]
        exact List.take_left
    · have holds : ∀ j u, xs[j]? = some u → w.cell? ((⟨g, 0, none⟩ : Addr).add j) = some u := hown.cells (g := g) rfl
      have hgr := grown cap (by omega) (Value.ownBlock (.slice (some ⟨g, 0, none⟩) n cap))
      have h63' : ¬ (9223372036854775807 < ((n : Int) + (m : Int))) := by omega
      have hfits : Builtin.nextslicecap (n + m) cap * i.bytes ≤ 281474976710656 := growslice_fits (by omega) hnb
      have h48' : ¬ (281474976710656 < Builtin.nextslicecap (n + m) cap * i.bytes) := by omega
      have hfo := run_firstCells_some (P := P) w.drew i.size n ⟨g, 0, none⟩ n cap xs (by rw [hsize, hxl]; omega) (by simpa using holds)
      have hr : (Builtin.append_ #[t, tn] ty #[.slice (some ⟨g, 0, none⟩) n cap, .int k m]).run P w = .ok (.slice (some ⟨w.heap.size, 0, none⟩) (n + m) (grownCap w (n + m) cap e)) (w.drew.alloc (.cells (xs.toArray ++ Builtin.zeroCells #[z] m ++ Builtin.zeroCells #[z] (grownCap w (n + m) cap e - (n + m))) e)) := by
        rw [hsize] at hfo
        simp [Builtin.append_, run_underlying ht, run_underlying htn, Go.sizeOf, typeInfo, zeroValue, hi, hz, asInt, asIntOf, hw, hmn, hneg, hsize, h48i, hroom, h63', h48', hzs, hfo, Question.forced, newRow, grownCap]
      exact ⟨_, _, hr, hgr.1, hgr.2, Or.inr rfl⟩
end
end G294

/- A variable of two cells, each of which may be written; append of a row to a row of the call's own. -/
namespace G294
open Go Go.RowKit
structure BoxV2 (B : Nat) (x y : Value) (W : World) : Prop where
  c0 : W.cell? ⟨B, 0, none⟩ = some x
  c1 : W.cell? ⟨B, 1, none⟩ = some y
  f0 : W.frozen? ⟨B, 0, none⟩ = false
  f1 : W.frozen? ⟨B, 1, none⟩ = false
  lt : B < W.heap.size
section
variable {B a b : Nat} {x y z : Value} {W W' X : World} {T : TypeId}
theorem boxV2_new (X : World) (x y : Value) (T : TypeId) : BoxV2 X.heap.size x y (X.alloc (.cells #[x, y] T)) := ⟨by simp, by simp, by simp, by simp, by simp⟩
theorem BoxV2.keep (h : BoxV2 B x y W) (t : TurnIn a b W W') (d : B < a ∨ b ≤ B) : BoxV2 B x y W' := by
  have e := t.block B h.lt (by omega)
  refine ⟨(World.cell?_of_block e).trans h.c0, (World.cell?_of_block e).trans h.c1, (World.frozen?_of_block e).trans h.f0, (World.frozen?_of_block e).trans h.f1, Nat.lt_of_lt_of_le h.lt t.size⟩
theorem BoxV2.drewN (h : BoxV2 B x y W) (n : Nat) : BoxV2 B x y (W.drewN n) := ⟨h.c0, h.c1, h.f0, h.f1, h.lt⟩
theorem BoxV2.drew (h : BoxV2 B x y W) : BoxV2 B x y W.drew := ⟨h.c0, h.c1, h.f0, h.f1, h.lt⟩
theorem BoxV2.set (h : BoxV2 B x y W) (p q : Value) : BoxV2 B p q ((W.setCell ⟨B, 0, none⟩ p).setCell ⟨B, 1, none⟩ q) := by
  have y1 : (W.setCell ⟨B, 0, none⟩ p).cell? ⟨B, 1, none⟩ = some y := (World.cell?_setCell_other _ _ _ _ (by simp)).trans h.c1
  refine ⟨?_, ?_, by simpa using h.f0, by simpa using h.f1, by simpa using h.lt⟩
  · exact (World.cell?_setCell_other _ _ _ _ (by simp)).trans (World.cell?_setCell_same _ _ _ h.c0)
  · exact World.cell?_setCell_same _ _ _ y1
theorem turn_set2 (W : World) (B : Nat) (p q : Value) : TurnIn B (B + 1) W ((W.setCell ⟨B, 0, none⟩ p).setCell ⟨B, 1, none⟩ q) := by
  refine ⟨rfl, rfl, rfl, by simp, fun k hk hd => ?_⟩
  exact (heap_setCell_other _ ⟨B, 1, none⟩ k q (by intro e; simp at e; omega)).trans (heap_setCell_other W ⟨B, 0, none⟩ k p (by intro e; simp at e; omega))
end
theorem wpList_appendRow {P : Program} {w : World} {ops : Array Oper} {rest : List Oper} {o : Oper} {a : Act} {Q : Exit → Act → World → Prop} (hgd : o.guard = none) (s x : Operand) (t : TypeId)
    (ho : o.op = .call { callee := .builtin .append, args := #[s, x], argTypes := #[t, t] })
    (base : Nat) (e : TypeId) (z : Value) (bytes : Nat) (ht : P.underlying t = some (.slice e)) (hinfo : (P.info? e).map (fun i => (i.zero, i.size, i.bytes)) = some (some z, 1, bytes)) (hzs : z.cells.size = 1)
    (v : Value) (n : Nat) (xs : List Value) (hs : a.eval s = v) (hown : w.ownsRow base e 1 v n xs)
    (A : Addr) (m c : Nat) (ys : List Value) (hx : a.eval x = .slice (some A) m c) (hl : ys.length = m) (hc : ∀ j y, ys[j]? = some y → w.cell? (A.add j) = some y) (h1 : ∀ y, y ∈ ys → y.oneCell' = true)
    (hn : n + m ≤ 1000000000) (hby : bytes ≤ 1000) (hbase : base ≤ w.heap.size)
    (h : ∀ v' w', w'.ownsRow base e 1 v' (n + m) (xs ++ ys) → w.grownBy w' v.ownBlock → (v'.ownBlock = v.ownBlock ∨ v'.ownBlock = some w.heap.size) → wpList P ops Q rest (a.put o.dst v') w') :
    wpList P ops Q (o :: rest) a w := by
  obtain ⟨i, hi, hz, hsz, hbs⟩ := info_parts hinfo
  refine wpList_append_own_at w hgd s x t ho base e i z 1 bytes ht hi hz hsz hbs hzs (by omega) v n xs hs hown A m c ys hx (by omega) hc h1 (by unfold maxLen; omega) ?_ hbase (fun v' w' h2 h3 _ h5 => h v' w' h2 h3 h5)
  have : (n + m) * bytes ≤ 1000000000 * 1000 := Nat.mul_le_mul (by omega) hby
  omega
end G294

/- Chapter 10: registers, outputs: the program's. -/
namespace G294
open Go Go.RowKit
/-- a state as a register: the last bit, the one before it -/
def regH (st : Nat) : UInt8 := UInt8.ofNat (st / 2)
def regL (st : Nat) : UInt8 := UInt8.ofNat (st % 2)
def regV (H L : UInt8) : Value := .agg #[.int .u8 (H.toNat : Int), .int .u8 (L.toNat : Int)]
theorem outs_raw : ∀ st, st < 4 → ∀ b, b < 2 → [UInt8.ofNat b ^^^ regH st ^^^ regL st, UInt8.ofNat b ^^^ regL st, UInt8.ofNat b ^^^ regH st] = raw (outN st b) := by decide +kernel
theorem reg_next : ∀ st, st < 4 → ∀ b, b < 2 → regH (nxtN st b) = UInt8.ofNat b ∧ regL (nxtN st b) = regH st := by decide +kernel
theorem reg_num : ∀ st, st < 4 → 2 * (regH st).toNat + (regL st).toNat = st ∧ (regH st).toNat ≤ 1 ∧ (regL st).toNat ≤ 1 := by decide +kernel
theorem raw_bit {c : UInt8} (h : isBitC c = true) : c - 48 = UInt8.ofNat (bv c) := by
  rcases isBitC_or h with rfl | rfl <;> decide
/-- a struct of two bytes is returned -/
def RetReg (w : World) (H L : UInt8) (e : Ending) (w' : World) : Prop := e = .returned (regV H L) ∧ TurnIn 0 0 w w'
end G294
namespace Go.Proofs.Ytjgmegfbfjmnfaa
open Go.RowKit G294

set_option maxHeartbeats 1000000 in
theorem registerOf_own (st : Nat) (w : World) (h : st < 4) : Calls Try.prog 57 #[.int .i64 st] w (RetReg w (regH st) (regL st)) := by
  have h4 : st = 0 ∨ st = 1 ∨ st = 2 ∨ st = 3 := by omega
  have hb0 := (Below.refl w.heap.size w).alloc (Nat.le_refl _) (.cells #[.int .u8 0, .int .u8 0] 68)
  clear h
  rcases h4 with rfl | rfl | rfl | rfl
  all_goals
    go_enter Try.func57, Try.ntmps57
    go_wp2_with fail
  · exact bodyPost_ret (v := regV 0 0) (by simp [results, Try.results57, go_sem, regV]) rfl ⟨rfl, turn_alloc _ _⟩
  · exact bodyPost_ret (v := regV 0 1) (by simp [results, Try.results57, go_sem, regV]) rfl ⟨rfl, turn_alloc _ _⟩
  · exact bodyPost_ret (v := regV 1 0) (by simp [results, Try.results57, go_sem, regV]) rfl ⟨rfl, turn_alloc _ _⟩
  · exact bodyPost_ret (v := regV 1 1) (by simp [results, Try.results57, go_sem, regV]) rfl ⟨rfl, turn_alloc _ _⟩

set_option maxHeartbeats 1000000 in
theorem after_own (H L b : UInt8) (w : World) : Calls Try.prog 51 #[regV H L, .int .u8 (b.toNat : Int)] w (RetReg w b H) := by
  have hb1 := ((Below.refl w.heap.size w).alloc (Nat.le_refl _) (.cells #[.int .u8 (H.toNat : Int), .int .u8 (L.toNat : Int)] 68)).alloc (by simp) (.cells #[.int .u8 0, .int .u8 0] 68)
  have HB := Lib.hid hb1
  clear hb1
  unfold regV
  go_enter Try.func51, Try.ntmps51
  go_wp2_with fail
  exact bodyPost_ret (v := regV b H) (by simp [results, Try.results51, go_sem, regV]) rfl ⟨rfl, turn_trans (turn_alloc _ _) (turn_alloc _ _) (by omega)⟩

set_option maxHeartbeats 1000000 in
theorem number_own (H L : UInt8) (w : World) (hH : H.toNat ≤ 1) (hL : L.toNat ≤ 1) : Calls Try.prog 58 #[regV H L] w (RetInt w ((2 * H.toNat + L.toNat : Nat) : Int)) := by
  have HB := Lib.hid (turn_alloc w (.cells #[.int .u8 (H.toNat : Int), .int .u8 (L.toNat : Int)] 68))
  obtain ⟨z, hz⟩ : ∃ z, z = 2 * H.toNat := ⟨_, rfl⟩
  have hzi : 2 * (H.toNat : Int) = (z : Int) := by omega
  have hz2 : z ≤ 2 := by omega
  have HZ := Lib.hid hz
  clear hz
  unfold regV
  go_enter Try.func58, Try.ntmps58
  go_wp2_with fail
  go_ret
  exact ⟨by rw [← HZ.out]; go_num, HB.out⟩

set_option maxHeartbeats 1000000 in
theorem outputs_own (H L b : UInt8) (w : World) : Calls Try.prog 50 #[regV H L, .int .u8 (b.toNat : Int)] w (RetBytes 5 w [b ^^^ H ^^^ L, b ^^^ L, b ^^^ H]) := by
  have a1 := turn_alloc w (.cells #[.int .u8 (H.toNat : Int), .int .u8 (L.toNat : Int)] 68)
  have e1 : bits BinOp.xor IntKind.u8 (b.toNat : Int) (H.toNat : Int) = ((b ^^^ H).toNat : Int) := xor_u8 _ _
  have e2 : bits BinOp.xor IntKind.u8 ((b ^^^ H).toNat : Int) (L.toNat : Int) = ((b ^^^ H ^^^ L).toNat : Int) := xor_u8 _ _
  have e3 : bits BinOp.xor IntKind.u8 (b.toNat : Int) (L.toNat : Int) = ((b ^^^ L).toNat : Int) := xor_u8 _ _
  have HB := Lib.hid (turn_trans a1 (turn_alloc _ (.cells #[.int .u8 ((b ^^^ H ^^^ L).toNat : Int), .int .u8 ((b ^^^ L).toNat : Int), .int .u8 ((b ^^^ H).toNat : Int)] 5)) (by omega))
  have hO := World.ownsRow_lit (base := w.heap.size) (e := 5) (size := 1) (w.alloc (.cells #[.int .u8 (H.toNat : Int), .int .u8 (L.toNat : Int)] 68)) #[.int .u8 ((b ^^^ H ^^^ L).toNat : Int), .int .u8 ((b ^^^ L).toNat : Int), .int .u8 ((b ^^^ H).toNat : Int)] 3 (by simp) (by unfold maxLen; omega) (by simp)
  have HO : Hid (OwnBytes 5 ((w.alloc (.cells #[.int .u8 (H.toNat : Int), .int .u8 (L.toNat : Int)] 68)).alloc (.cells #[.int .u8 ((b ^^^ H ^^^ L).toNat : Int), .int .u8 ((b ^^^ L).toNat : Int), .int .u8 ((b ^^^ H).toNat : Int)] 5)) w.heap.size ((w.alloc (.cells #[.int .u8 (H.toNat : Int), .int .u8 (L.toNat : Int)] 68)).alloc (.cells #[.int .u8 ((b ^^^ H ^^^ L).toNat : Int), .int .u8 ((b ^^^ L).toNat : Int), .int .u8 ((b ^^^ H).toNat : Int)] 5)).heap.size (.slice (some ⟨w.heap.size + 1, 0, none⟩) 3 3) [b ^^^ H ^^^ L, b ^^^ L, b ^^^ H]) := by
    refine ⟨?_, Nat.le_refl _, fun g e => ?_⟩
    · simpa [bys] using hO
    · simp only [Value.ownBlock, Option.some.injEq] at e
      simp; omega
  clear a1 hO
  generalize b ^^^ H ^^^ L = x at *
  generalize b ^^^ L = y at *
  generalize b ^^^ H = z at *
  unfold regV
  go_enter Try.func50, Try.ntmps50
  go_wp2_with fail
  go_ret
  exact ⟨_, rfl, HO.out, HB.out⟩

end Go.Proofs.Ytjgmegfbfjmnfaa

/- Shards in memory: a slice of structs of an int and a string that is seen, or of the call's own; what a mark writes. -/
namespace G294
open Go Go.RowKit
abbrev Sh := Int × List UInt8
/-- shards as the cells of memory -/
def shs : List Sh → List Value
  | [] => []
  | s :: l => .int .i64 s.1 :: .string (str s.2) :: shs l
@[simp] theorem shs_length (l : List Sh) : (shs l).length = l.length * 2 := by
  induction l with
  | nil => rfl
  | cons s l ih => simp [shs, ih]; omega
theorem shs_append (l m : List Sh) : shs (l ++ m) = shs l ++ shs m := by
  induction l with
  | nil => rfl
  | cons s l ih => simp [shs, ih]
theorem shs_no (l : List Sh) (i : Nat) (h : i < l.length) : (shs l)[i * 2]? = some (.int .i64 l[i].1) := by
  induction l generalizing i with
  | nil => simp at h
  | cons s l ih =>
    cases i with
    | zero => rfl
    | succ i => rw [show (i + 1) * 2 = i * 2 + 1 + 1 by omega]; simpa [shs] using ih i (by simpa using h)
theorem shs_data (l : List Sh) (i : Nat) (h : i < l.length) : (shs l)[i * 2 + 1]? = some (.string (str l[i].2)) := by
  induction l generalizing i with
  | nil => simp at h
  | cons s l ih =>
    cases i with
    | zero => rfl
    | succ i => rw [show (i + 1) * 2 + 1 = i * 2 + 1 + 1 + 1 by omega]; simpa [shs] using ih i (by simpa using h)
theorem shs_oneC (l : List Sh) : ∀ y, y ∈ shs l → y.oneCell' = true := by
  induction l with
  | nil => intro y hy; simp [shs] at hy
  | cons s l ih =>
    intro y hy
    simp only [shs, List.mem_cons] at hy
    rcases hy with rfl | rfl | hy
    · rfl
    · rfl
    · exact ih y hy
theorem shs_set (l : List Sh) (i : Nat) (x : Sh) (h : i < l.length) : ((shs l).set (i * 2) (.int .i64 x.1)).set (i * 2 + 1) (.string (str x.2)) = shs (l.set i x) := by
  induction l generalizing i with
  | nil => simp at h
  | cons s l ih =>
    cases i with
    | zero => rfl
    | succ i =>
      rw [show (i + 1) * 2 = i * 2 + 1 + 1 by omega]
      simp only [shs, List.set_cons_succ, ih i (by simpa using h)]
/-- the value v is seen in w as the shards l -/
def SeenH (w : World) (v : Value) (l : List Sh) : Prop :=
  ∃ A c, v = .slice A l.length c ∧ l.length ≤ c ∧ c ≤ maxLen ∧ (0 < l.length → ∃ b off, A = some ⟨b, off, none⟩ ∧ b < w.heap.size ∧ ∀ i s, l[i]? = some s → w.cell? ⟨b, off + i * 2, none⟩ = some (.int .i64 s.1) ∧ w.cell? ⟨b, off + i * 2 + 1, none⟩ = some (.string (str s.2)))
theorem at_lt {α : Type} {l : List α} {n k : Nat} (hn : l.length = n) (h : k < n) : ∃ s, l[k]? = some s := ⟨_, List.getElem?_eq_getElem (by omega)⟩
/-- a row of shards of the call's own, its block from lo to hi -/
def OwnSh (E : TypeId) (w : World) (lo hi : Nat) (v : Value) (l : List Sh) : Prop := w.ownsRow lo E 2 v l.length (shs l) ∧ hi ≤ w.heap.size ∧ ∀ g, v.ownBlock = some g → g < hi
section
variable {w w' : World} {lo hi a b : Nat} {v : Value} {l : List Sh} {E : TypeId}
theorem SeenH.below (h : SeenH w v l) (hb : Below w.heap.size w w') : SeenH w' v l := by
  obtain ⟨A, c, rfl, h1, h2, h3⟩ := h
  refine ⟨A, c, rfl, h1, h2, fun hn => ?_⟩
  obtain ⟨b, off, rfl, hb', hc⟩ := h3 hn
  exact ⟨b, off, rfl, Nat.lt_of_lt_of_le hb' hb.size, fun i s hi => ⟨(hb.cell (p := ⟨b, off + i * 2, none⟩) hb').trans (hc i s hi).1, (hb.cell (p := ⟨b, off + i * 2 + 1, none⟩) hb').trans (hc i s hi).2⟩⟩
theorem SeenH.len (h : SeenH w v l) : ∃ A c, v = .slice A l.length c := by
  obtain ⟨A, c, h, _⟩ := h
  exact ⟨A, c, h⟩
theorem SeenH.nil (w : World) : SeenH w (.slice none 0 0) [] := ⟨none, 0, rfl, Nat.le_refl _, Nat.zero_le _, fun h => by simp at h⟩
theorem owns_turn2 {size n : Nat} {xs : List Value} (h : w.ownsRow lo E size v n xs) (h2 : ∀ g, v.ownBlock = some g → g < hi) (t : TurnIn a b w w') (d : hi ≤ a ∨ b ≤ lo) : w'.ownsRow lo E size v n xs := by
  refine ⟨h.1, ?_⟩
  rcases h.2 with hn | ⟨g, cap, cur, rfl, hbg, hg, rest⟩
  · exact .inl hn
  · refine .inr ⟨g, cap, cur, rfl, hbg, ?_, rest⟩
    have := h2 g rfl
    rw [t.block g (Array.getElem?_eq_some_iff.1 hg).1 (by omega)]
    exact hg
theorem OwnSh.keep (h : OwnSh E w lo hi v l) (t : TurnIn a b w w') (d : hi ≤ a ∨ b ≤ lo) : OwnSh E w' lo hi v l :=
  ⟨owns_turn2 h.1 h.2.2 t d, Nat.le_trans h.2.1 t.size, h.2.2⟩
theorem OwnSh.seen (h : OwnSh E w lo hi v l) : SeenH w v l := by
  obtain ⟨h1, h2, h3⟩ := h
  rcases h1.2 with ⟨rfl, hn⟩ | ⟨g, cap, cur, rfl, hb, hg, hnc, hcm, hcs, ht⟩
  · have : l = [] := List.eq_nil_of_length_eq_zero hn
    subst this
    exact SeenH.nil w
  · refine ⟨_, cap, rfl, hnc, hcm, fun hn => ⟨g, 0, rfl, (Array.getElem?_eq_some_iff.1 hg).1, fun i s hs => ?_⟩⟩
    obtain ⟨hi, rfl⟩ := List.getElem?_eq_some_iff.1 hs
    have e1 := h1.cells (g := g) rfl (i * 2) _ (shs_no l i hi)
    have e2 := h1.cells (g := g) rfl (i * 2 + 1) _ (shs_data l i hi)
    rw [Addr.add_lit, Nat.zero_add] at e1 e2
    exact ⟨by rw [Nat.zero_add]; exact e1, by rw [Nat.zero_add]; exact e2⟩
theorem OwnSh.nil (E : TypeId) (w : World) (lo : Nat) : OwnSh E w lo w.heap.size (.slice none 0 0) [] := ⟨World.ownsRow_nil _ _ _ _, Nat.le_refl _, fun g h => by simp [Value.ownBlock] at h⟩
theorem OwnSh.of_made (h : w'.ownsRow w.heap.size E 2 v l.length (shs l)) : OwnSh E w' w.heap.size w'.heap.size v l := ⟨h, Nat.le_refl _, fun g hg => (h.lt g hg).2⟩
end
def RetShs (E : TypeId) (w : World) (l : List Sh) (e : Ending) (w' : World) : Prop := ∃ v, e = .returned v ∧ OwnSh E w' w.heap.size w'.heap.size v l ∧ TurnIn 0 0 w w'
def RetShsOk (E : TypeId) (w : World) (l : List Sh) (ok : Bool) (e : Ending) (w' : World) : Prop := ∃ v, e = .returned (.tuple #[v, .bool ok]) ∧ OwnSh E w' w.heap.size w'.heap.size v l ∧ TurnIn 0 0 w w'
/-- the shards that marks write -/
def marksH (k n : Nat) : List Sh := (List.range n).map fun i => (((k + i * 2 : Nat) : Int), mtext (k + i * 2 + 1))
@[simp] theorem marksH_length (k n : Nat) : (marksH k n).length = n := by simp [marksH]
theorem marksH_get (k n i : Nat) (h : i < (marksH k n).length) : (marksH k n)[i] = (((k + i * 2 : Nat) : Int), mtext (k + i * 2 + 1)) := by simp [marksH]
def RetMarkH (E : TypeId) (w : World) (lo hi : Nat) (v : Value) (k n : Nat) (e : Ending) (w' : World) : Prop :=
  e = .returned (.int .i64 ((k + n * 2 : Nat) : Int)) ∧ OwnSh E w' lo hi v (marksH k n) ∧ TurnIn lo hi w w'
end G294

/- Chapter 10: EncodeBits: the program's. -/
namespace G294
open Go Go.RowKit
def encS (s : List UInt8) : List UInt8 := s ++ [48, 48]
def encF (s : List UInt8) (k : Nat) : List UInt8 := raw (encT 0 ((encS s).take k))
def encE (s : List UInt8) (k : Nat) : Nat := endT 0 ((encS s).take k)
theorem encS_len (s : List UInt8) : (encS s).length = s.length + 2 := by simp [encS]
theorem enc_step (s : List UInt8) (hs : s.all isBitC = true) {k : Nat} (hk : k < s.length + 2) :
    encF s (k + 1) = encF s k ++ [(raw (encS s)).getD k 0 ^^^ regH (encE s k) ^^^ regL (encE s k), (raw (encS s)).getD k 0 ^^^ regL (encE s k), (raw (encS s)).getD k 0 ^^^ regH (encE s k)] ∧
    regH (encE s (k + 1)) = (raw (encS s)).getD k 0 ∧ regL (encE s (k + 1)) = regH (encE s k) := by
  have hl : k < (encS s).length := by rw [encS_len]; exact hk
  have hb : (encS s).all isBitC = true := by simp [encS, hs, isBitC]
  have hbk : isBitC ((encS s).getD k 0) = true := by rw [getD_len hl]; exact List.all_eq_true.1 hb _ (List.getElem_mem hl)
  have h4 : encE s k < 4 := endT_lt (by omega) _
  have e : (raw (encS s)).getD k 0 = UInt8.ofNat (bv ((encS s).getD k 0)) := by rw [raw_getD _ hl, raw_bit hbk]
  rw [e]
  refine ⟨?_, ?_⟩
  · show raw (encT 0 ((encS s).take (k + 1))) = _
    rw [take_snocD _ hl, encT_snoc, raw_append]
    show encF s k ++ raw (outN (encE s k) (bv ((encS s).getD k 0))) = _
    rw [← outs_raw _ h4 _ (bv_lt _)]
  · show regH (endT 0 ((encS s).take (k + 1))) = _ ∧ regL (endT 0 ((encS s).take (k + 1))) = _
    rw [take_snocD _ hl, endT_snoc]
    exact reg_next _ h4 _ (bv_lt _)
theorem encF_end (s : List UInt8) : txt (encF s (s.length + 2)) = encT 0 (s ++ [48, 48]) := by
  unfold encF
  rw [List.take_of_length_le (by rw [encS_len]; exact Nat.le_refl _), txt_raw]; rfl
theorem encF_len (s : List UInt8) {k : Nat} (hk : k ≤ s.length + 2) : (encF s k).length = 3 * k := by
  simp [encF, encS_len]; omega
theorem prsR_yes {s : List UInt8} {m : Nat} (h : bitsOk s m = true) : prsR s m = raw s := if_pos h
theorem prsR_no {s : List UInt8} {m : Nat} (h : bitsOk s m = false) : prsR s m = [] := if_neg (by rw [h]; decide)
end G294
namespace Go.Proofs.Ytjgmegfbfjmnfaa
open Go.RowKit G294

set_option maxRecDepth 100000 in
set_option maxHeartbeats 4000000 in
theorem encodeBits_own (s : List UInt8) (w : World) (hs : s.length ≤ 1000000000000) : Calls Try.prog 20 #[.string (str s)] w (RetStrOk w (encR10 s) (encOk10 s)) := by
  obtain ⟨i0, hi0, hz0, hz1, hz2⟩ := info_parts infoByte
  by_cases h : encOk10 s = true
  · have H : Hid (bitsOk s 30 = true) := h
    have HO := Lib.hid h
    have HE : Hid (txt (encF s (s.length + 2)) = encR10 s) := by show _ = _; rw [encF_end, encR10_yes h]
    have hl := (bitsOk_b h).1
    have HSTEP : Hid (∀ k, k < s.length + 2 → _) := fun k hk => enc_step s (bitsOk_b h).2 (k := k) hk
    have HFL : Hid (∀ k, k ≤ s.length + 2 → (encF s k).length = 3 * k) := fun k hk => encF_len s hk
    have HP := Lib.hid (prsR_yes H.out)
    have HRZ : Hid (bys (raw s) ++ List.replicate 2 (.int .u8 0) = bys (raw (encS s))) := by show _ = _; simp [encS, raw, bys]
    have HRL : Hid ((raw (encS s)).length = s.length + 2) := by show _ = _; rw [raw_len, encS_len]
    have hF0 : encF s 0 = [] := rfl
    have hE0 : encE s 0 = 0 := rfl
    have HF0 := Lib.hid hF0
    have HE0 := Lib.hid hE0
    have HRS : Hid ((raw s).length = s.length) := raw_len s
    generalize encF s = F at *
    generalize encE s = E at *
    generalize raw (encS s) = r at *
    have HPB := Lib.hid (parsedBits_own s 30 w (by omega) hs)
    generalize hnn : s.length = n at *
    clear h hF0 hE0 hnn
    rw [← HE.out]
    go_enter Try.func20, Try.ntmps20
    go_wp2_with fail
    refine HPB.out.mono ?_
    rintro e w1 ⟨v1, rfl, o1, k1⟩
    rw [H.out]
    rw [HP.out] at o1
    have s1 := k1.size
    obtain ⟨B, hB⟩ : ∃ B, B = w1.heap.size := ⟨_, rfl⟩
    have hOv := o1.1
    rw [HRS.out] at hOv
    have hOb : ∀ g, v1.ownBlock = some g → g < w1.heap.size := o1.2.2
    obtain ⟨v2, w3, hap, ho2, hg2, hv2⟩ := run_append_zeros_own (P := Try.prog) (w1.alloc (.cells #[.int .u8 0, .int .u8 0] 68)) w.heap.size 22 3 22 5 i0 (.int .u8 0) .i64 .i64 Try.underlying22 Try.underlying3 hi0 hz0 hz1 rfl rfl v1 n _ (hOv.alloc _) 2 (by omega) (by omega) (by omega) (by simp; omega)
    rw [HRZ.out] at ho2
    have HAP := Lib.hid hap
    have hbx := (boxV2_new w1 (.int .u8 0) (.int .u8 0) 68)
    have t3 : TurnIn w.heap.size w1.heap.size (w1.alloc (.cells #[.int .u8 0, .int .u8 0] 68)) w3 := TurnIn.of_grown hg2 (fun g e => ⟨(hOv.lt g e).1, hOb g e⟩)
    have hbx3 := hbx.keep t3 (by omega)
    have k3 : TurnIn 0 0 w w3 := by
      refine TurnIn.of_below (Below.grown ((k1.to_below).alloc s1 _) hg2 (by simp; omega) (fun g e => (hOv.lt g e).1))
    have s3 := t3.size
    simp only [World.size_alloc] at s3 hv2
    obtain ⟨g2, c2, rfl, hg2lt, hg2B, hcm⟩ : ∃ g c, v2 = .slice (some ⟨g, 0, none⟩) (n + 2) c ∧ g < w3.heap.size ∧ g ≠ w1.heap.size ∧ c ≤ maxLen := by
      rcases ho2.2 with ⟨_, hn⟩ | ⟨g, cap, cur, hh, hb, hg, hc1, hc2, _⟩
      · omega
      · refine ⟨g, cap, hh, (Array.getElem?_eq_some_iff.1 hg).1, ?_, hc2⟩
        rw [hh] at hv2
        rcases hv2 with e | e
        · have := hOb g (by rw [← e]; rfl)
          omega
        · simp only [Value.ownBlock, Option.some.injEq] at e
          omega
    have HCL : Hid (∀ k, k < n + 2 → w3.cell? ⟨g2, k, none⟩ = some (.int .u8 ((r.getD k 0).toNat : Int))) := fun k hk => by
      have hk2 : k < r.length := by rw [HRL.out]; exact hk
      have := ho2.cells (g := g2) rfl k _ (bys_get r k hk2)
      rw [Addr.add_lit, Nat.zero_add] at this
      rw [this, getD_len hk2]
    rw [← hB] at hbx3 hg2B s3 s1
    clear hap ho2 hv2 hOv hOb o1 hbx t3 hg2
    unfold maxLen at hcm
    have hHZ : Hid (((regH (E 0)).toNat : Int) = 0 ∧ ((regL (E 0)).toNat : Int) = 0) := by rw [HE0.out]; exact ⟨rfl, rfl⟩
    have hbx4 : BoxV2 B (.int .u8 ((regH (E 0)).toNat : Int)) (.int .u8 ((regL (E 0)).toNat : Int)) w3 := by rw [hHZ.out.1, hHZ.out.2]; exact hbx3
    have HBX := Lib.hid hbx4
    have HK3 := Lib.hid k3
    clear hbx3 hbx4 k3 k1
    go_wp2_with (at_builtin; refine Lib.wpList_append_run _ rfl _ _ _ _ rfl _ _ rfl rfl _ _ HAP.out ?_)
    rw [← hB]
    clear hB HAP
    go_wp2_with fail
    go_loopw [7, 20] (fun o i wr => ∃ k : Nat, k ≤ n + 2 ∧ i = .int .i64 k ∧ wr.ownsRow w3.heap.size 5 1 o (3 * k) (bys (F k)) ∧ BoxV2 B (.int .u8 ((regH (E k)).toNat : Int)) (.int .u8 ((regL (E k)).toNat : Int)) wr ∧ TurnIn B (B + 1) w3 wr)
      (fun _ i _ => n + 2 - (intOf i).toNat)
    case atStart => exact ⟨0, Nat.zero_le _, rfl, by rw [HF0.out]; exact World.ownsRow_nil _ _ _ _, HBX.out, ⟨rfl, rfl, rfl, Nat.le_refl _, fun _ _ _ => rfl⟩⟩
    case round =>
      obtain ⟨k, hk, rfl, hown, hbx, kr⟩ := hrel
      have zr := kr.size
      by_cases hlt : k < n + 2
      · have hki : (k : Int) < (n : Int) + 2 := by omega
        have hcx := (World.cell?_of_block (a := ⟨g2, k, none⟩) (kr.block g2 hg2lt (by omega))).trans (HCL.out k hlt)
        have HST := Lib.hid (HSTEP.out k hlt)
        have q0 := hbx.c0
        have q1 := hbx.c1
        have qf0 := hbx.f0
        have qf1 := hbx.f1
        have ql := hbx.lt
        have HBX2 := Lib.hid hbx
        have HKR := Lib.hid kr
        have HOW := Lib.hid hown
        obtain ⟨Ao, co, ho⟩ := own_slice hown
        subst ho
        generalize r.getD k 0 = b at *
        have HEQ : Hid (regH (E (k + 1)) = b ∧ regL (E (k + 1)) = regH (E k)) := HST.out.2
        generalize regH (E k) = X at *
        generalize regL (E k) = L at *
        have HOUT : Hid (∀ W, Calls Try.prog 50 #[.agg #[.int .u8 (X.toNat : Int), .int .u8 (L.toNat : Int)], .int .u8 (b.toNat : Int)] W (RetBytes 5 W [b ^^^ X ^^^ L, b ^^^ L, b ^^^ X])) := fun W => outputs_own X L b W
        have HAFT : Hid (∀ W, Calls Try.prog 51 #[.agg #[.int .u8 (X.toNat : Int), .int .u8 (L.toNat : Int)], .int .u8 (b.toNat : Int)] W (RetReg W b X)) := fun W => after_own X L b W
        clear hbx kr hown
        go_wp2_with fail
        refine (HOUT.out _).mono ?_
        rintro e w4 ⟨vo, rfl, oo, k4⟩
        have s4 := k4.size
        obtain ⟨go, co2, hvo, hgo1, hgo2, _, hcm2⟩ := oo.slice (by simp)
        simp only [List.length_cons, List.length_nil, Nat.zero_add, Nat.reduceAdd] at hvo
        subst hvo
        have HYS : Hid (∀ j y, (bys [b ^^^ X ^^^ L, b ^^^ L, b ^^^ X])[j]? = some y → w4.cell? ((⟨go, 0, none⟩ : Addr).add j) = some y) := fun j y hj => oo.1.cells (g := go) rfl j y hj
        have HOW4 := Lib.hid (owns_turn0 HOW.out k4)
        have q0' := cell_turn k4 q0 ql
        have q1' := cell_turn k4 q1 ql
        have qf0' := frozen_turn k4 qf0 ql
        have qf1' := frozen_turn k4 qf1 ql
        have HB4 := Lib.hid (HBX2.out.keep k4 (by omega))
        have HK4 := Lib.hid (turn_trans HKR.out k4 (by omega))
        clear oo q0 q1 qf0 qf1
        go_wp2_with (at_builtin; refine wpList_appendRow rfl _ _ _ rfl w3.heap.size 5 _ _ Try.underlying22 infoByte rfl _ (3 * k) _ rfl HOW4.out ⟨go, 0, none⟩ 3 co2 _ rfl ?c0 HYS.out (fun y hy => bys_one y _ hy) ?c1 ?c2 ?c3 ?_)
        case c0 => simp
        case c1 => omega
        case c2 => omega
        case c3 => omega
        intro v5 w5 ho5 hg5 hv5
        have k5 : TurnIn w3.heap.size w4.heap.size w4 w5 := TurnIn.of_grown hg5 (fun g e => ⟨(HOW4.out.lt g e).1, (HOW4.out.lt g e).2⟩)
        have s5 := k5.size
        have hb5 := HB4.out.keep k5 (by omega)
        have e0 := hb5.c0
        have e1 := hb5.c1
        have ef0 := hb5.f0
        have ef1 := hb5.f1
        have el := hb5.lt
        have HB5 := Lib.hid hb5
        have HK5 : Hid (TurnIn B (B + 1) w3 w5) := turn_trans HK4.out k5 (by omega)
        have HO5 : Hid (w5.ownsRow w3.heap.size 5 1 v5 (3 * (k + 1)) (bys (F (k + 1)))) := by
          show w5.ownsRow _ _ _ _ _ _
          rw [HST.out.1, show 3 * (k + 1) = 3 * k + 3 by omega]
          have e : bys (F k ++ [b ^^^ X ^^^ L, b ^^^ L, b ^^^ X]) = bys (F k) ++ bys [b ^^^ X ^^^ L, b ^^^ L, b ^^^ X] := by simp [bys]
          rw [e]; exact ho5
        clear hb5 ho5 hg5 hv5 k5
        go_wp2_with fail
        refine (HAFT.out _).mono ?_
        rintro e w6 ⟨rfl, k6⟩
        have s6 := k6.size
        have p0 := cell_turn k6 e0 el
        have p1 := cell_turn k6 e1 el
        have pf0 := frozen_turn k6 ef0 el
        have pf1 := frozen_turn k6 ef1 el
        have hb6 := (HB5.out.keep k6 (by omega)).set (.int .u8 (b.toNat : Int)) (.int .u8 (X.toNat : Int))
        have t6 := turn_set2 w6 B (.int .u8 (b.toNat : Int)) (.int .u8 (X.toNat : Int))
        have HB6 := Lib.hid hb6
        have HK6 := Lib.hid (turn_trans (turn_trans HK5.out k6 (by omega)) t6 (by omega))
        have ho6 := owns_turn0 HO5.out k6
        have HO6 := Lib.hid (owns_turn2 (hi := w5.heap.size) ho6 (fun g e => (HO5.out.lt g e).2) t6 (by omega))
        clear hb6 t6 ho6
        unfold regV
        go_wp2_with fail
        go_roundw
        case rel => exact ⟨k + 1, by omega, by go_num, HO6.out, by rw [HEQ.out.1, HEQ.out.2]; exact HB6.out, HK6.out⟩
        case measure => simp [intOf]; omega
      · have hke : k = n + 2 := by omega
        have hki : ¬ (k : Int) < (n : Int) + 2 := by omega
        have HO2 : Hid (Seen wr u7 (bys (F (n + 2)))) := by
          have h2 := Seen.of_own hown
          rw [hke] at h2; exact h2
        have HBT := Lib.hid (bitText_own u7 (F (n + 2)) wr HO2.out (by rw [HFL.out _ (by omega)]; omega))
        have HKR : Hid (TurnIn 0 0 w wr) := by
          have h1 := HK3.out
          exact ⟨kr.os.trans h1.os, kr.tape.trans h1.tape, kr.output.trans h1.output, by omega, fun i hi _ => (kr.block i (by have := h1.size; omega) (by omega)).trans (h1.block i hi (by omega))⟩
        clear hbx kr hown
        go_wp2_with fail
        refine HBT.out.mono ?_
        rintro e w4 ⟨rfl, k4⟩
        go_wp2_with fail
        go_ret2
        exact ⟨by rw [HO.out]; rfl, turn_trans HKR.out k4 (by omega)⟩
  · have HO : Hid (encOk10 s = false) := by show encOk10 s = false; simpa using h
    have H : Hid (bitsOk s 30 = false) := HO.out
    have HE := Lib.hid (encR10_no HO.out)
    have HPB := Lib.hid (parsedBits_own s 30 w (by omega) hs)
    clear h
    go_enter Try.func20, Try.ntmps20
    go_wp2_with fail
    refine HPB.out.mono ?_
    rintro e w1 ⟨v1, rfl, o1, k1⟩
    rw [H.out]
    go_wp2_with fail
    go_ret2
    exact ⟨by rw [HE.out, HO.out]; rfl, k1⟩

end Go.Proofs.Ytjgmegfbfjmnfaa

/- Blocks made one behind the other. -/
namespace G294
open Go Go.RowKit
theorem alloc_mid_cell (w : World) (o1 o3 : Obj) (v : Value) (T : TypeId) : (((w.alloc o1).alloc (.cells #[v] T)).alloc o3).cell? ⟨w.heap.size + 1, 0, none⟩ = some v := by
  have h : ((w.alloc o1).alloc (.cells #[v] T)).cell? ⟨w.heap.size + 1, 0, none⟩ = some v := by simp
  exact cell_turn (turn_alloc _ o3) h (by rw [World.size_alloc, World.size_alloc]; omega)
theorem alloc_mid_frozen (w : World) (o1 o3 : Obj) (v : Value) (T : TypeId) : (((w.alloc o1).alloc (.cells #[v] T)).alloc o3).frozen? ⟨w.heap.size + 1, 0, none⟩ = false := by
  have h : ((w.alloc o1).alloc (.cells #[v] T)).frozen? ⟨w.heap.size + 1, 0, none⟩ = false := by simp
  exact frozen_turn (turn_alloc _ o3) h (by rw [World.size_alloc, World.size_alloc]; omega)
theorem alloc_last_cell (w : World) (o1 o2 : Obj) (v : Value) (T : TypeId) : (((w.alloc o1).alloc o2).alloc (.cells #[v] T)).cell? ⟨w.heap.size + 2, 0, none⟩ = some v := by
  have e : w.heap.size + 2 = ((w.alloc o1).alloc o2).heap.size := by rw [World.size_alloc, World.size_alloc]
  rw [e]; exact (by simp : ∀ w : World, (w.alloc (.cells #[v] T)).cell? ⟨w.heap.size, 0, none⟩ = some v) _
theorem alloc_last_frozen (w : World) (o1 o2 : Obj) (v : Value) (T : TypeId) : (((w.alloc o1).alloc o2).alloc (.cells #[v] T)).frozen? ⟨w.heap.size + 2, 0, none⟩ = false := by
  have e : w.heap.size + 2 = ((w.alloc o1).alloc o2).heap.size := by rw [World.size_alloc, World.size_alloc]
  rw [e]; exact (by simp : ∀ w : World, (w.alloc (.cells #[v] T)).frozen? ⟨w.heap.size, 0, none⟩ = false) _
end G294

/- PartOf, the program's. -/
namespace Go.Proofs.Ytjgmegfbfjmnfaa
open Go.RowKit G294

set_option maxRecDepth 100000 in
set_option maxHeartbeats 1000000 in
theorem goodChoice_any (v : Value) (l : List Int) (size : Nat) (w : World) (hv : Seen w v (ints l)) (hsz : size ≤ 1000) :
    Calls Try.prog 55 #[v, .int .i64 size] w fun e w' => e = .returned (.bool (chosen l size)) ∧ w = w' := by
  obtain ⟨A, c, rfl, hlc, hcm, hx⟩ := hv
  rw [ints_length] at hlc hx
  simp only [ints_length]
  unfold maxLen at hcm
  generalize hnn : l.length = n at *
  have HN := Lib.hid hnn
  have HX := Lib.hid hx
  clear hnn hx
  go_enter Try.func55, Try.ntmps55
  go_wp2_with fail
  go_loop [5, 10] (fun q i => ∃ (k : Nat) (z : Int), k ≤ n ∧ i = .int .i64 k ∧ q = .int .i64 z ∧ Hid (z = if k = 0 then -1 else l.getD (k - 1) 0) ∧ Hid (∀ i, i < k → okAt l size i)) (fun _ i => n - (intOf i).toNat)
  case atStart => exact ⟨0, -1, Nat.zero_le _, rfl, rfl, rfl, fun i h => by omega⟩
  case round =>
    obtain ⟨k, z, hk, rfl, rfl, HZ, HK⟩ := hrel
    by_cases hlt : k < n
    · have hki : (k : Int) < (n : Int) := by omega
      have hkl : k < l.length := by rw [HN.out]; exact hlt
      obtain ⟨b, off, rfl, hbl, hcell⟩ := HX.out (by omega)
      have hcx := hcell k _ (ints_get l k hkl)
      obtain ⟨x, hxx⟩ : ∃ x, x = l[k] := ⟨_, rfl⟩
      rw [← hxx] at hcx
      have HXX : Hid (l.getD k 0 = x) := by show l.getD k 0 = x; rw [hxx]; simp [List.getD, hkl]
      clear hcell hxx
      by_cases h1 : x ≤ z
      · have hd : decide (x ≤ z) = true := by simpa using h1
        have HF : Hid (chosen l size = false) := by
          show chosen l size = false
          unfold chosen
          rw [someOk_no hkl (fun ho => by
            have hz := HZ.out
            have e := HXX.out
            obtain ⟨o1, o2, o3⟩ := ho
            by_cases hk0 : k = 0
            · rw [if_pos hk0] at hz; omega
            · rw [if_neg hk0] at hz
              have := o3 (by omega)
              omega)]
          rfl
        go_wp2_with fail
        go_ret
        exact ⟨by rw [HF.out]; rfl, rfl⟩
      · have hd : decide (x ≤ z) = false := by simpa using h1
        by_cases h2 : (size : Int) ≤ x
        · have hd2 : decide ((size : Int) ≤ x) = true := by simpa using h2
          have HF : Hid (chosen l size = false) := by
            show chosen l size = false
            unfold chosen
            rw [someOk_no hkl (fun ho => by
              have e := HXX.out
              obtain ⟨o1, o2, o3⟩ := ho
              omega)]
            rfl
          go_wp2_with fail
          go_ret
          exact ⟨by rw [HF.out]; rfl, rfl⟩
        · have hd2 : decide ((size : Int) ≤ x) = false := by simpa using h2
          have HZ2 : Hid (x = if k + 1 = 0 then -1 else l.getD (k + 1 - 1) 0) := by
            show x = _
            rw [if_neg (by omega), Nat.add_sub_cancel, HXX.out]
          have HK2 : Hid (∀ i, i < k + 1 → okAt l size i) := fun i hi => by
            by_cases e : i = k
            · subst e
              have hz := HZ.out
              have e := HXX.out
              refine ⟨?_, by omega, fun hp => ?_⟩
              · by_cases hk0 : i = 0
                · rw [if_pos hk0] at hz; omega
                · rw [if_neg hk0] at hz
                  have := (HK.out (i - 1) (by omega)).1
                  omega
              · rw [if_neg (by omega)] at hz; omega
            · exact HK.out i (by omega)
          go_wp2_with fail
          go_round
          case rel => exact ⟨k + 1, x, by omega, by go_num, rfl, HZ2, HK2⟩
          case measure => simp [intOf]; omega
    · obtain rfl : k = n := by omega
      have hki : ¬ (k : Int) < (k : Int) := by omega
      have HF : Hid (chosen l size = decide (0 < k)) := by
        show chosen l size = _
        unfold chosen
        rw [(someOk_iff l size).2 (fun i hi => HK.out i (by rw [← HN.out]; exact hi)), HN.out]; rfl
      go_wp2_with fail
      go_ret
      exact ⟨by rw [HF.out]; simp, rfl⟩

end Go.Proofs.Ytjgmegfbfjmnfaa
