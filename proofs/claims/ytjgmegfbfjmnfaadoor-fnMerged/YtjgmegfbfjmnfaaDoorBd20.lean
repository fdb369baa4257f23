/- Joined texts: ShrMem, GoodShr, ShrWalks, ShrApp, ShaSec, Cur8, Arr2. -/
import Derived.Test.YtjgmegfbfjmnfaaDoorBd19
import Derived.Test.YtjgmegfbfjmnfaaDoorBd02
import Derived.Test.YtjgmegfbfjmnfaaDoorBd01
import Derived.Test.YtjgmegfbfjmnfaaDoorBd03
import Derived.Test.YtjgmegfbfjmnfaaDoorBd04
import Derived.BigQuiet
import Derived.Deep.RegionHeld3
import Derived.Laws.AppendOwnNone
import Derived.Laws.Rows
import Derived.StillTailTactics
set_option linter.unusedSimpArgs false
set_option linter.unusedVariables false
/- Shares in memory: a slice of structs of two bytes that is seen, or of the call's own; what a mark writes. -/
namespace G294
open Go Go.RowKit
theorem at_ltR {α : Type} {l : List α} {n k : Nat} (hn : l.length = n) (h : k < n) : ∃ s, l[k]? = some s := ⟨_, List.getElem?_eq_getElem (by omega)⟩
/-- shards as the cells of memory -/
def srs : List Sr → List Value
  | [] => []
  | s :: l => .int .u8 (s.1.toNat : Int) :: .int .u8 (s.2.toNat : Int) :: srs l
@[simp] theorem srs_length (l : List Sr) : (srs l).length = l.length * 2 := by
  induction l with
  | nil => rfl
  | cons s l ih => simp [srs, ih]; omega
theorem srs_append (l m : List Sr) : srs (l ++ m) = srs l ++ srs m := by
  induction l with
  | nil => rfl
  | cons s l ih => simp [srs, ih]
theorem srs_no (l : List Sr) (i : Nat) (h : i < l.length) : (srs l)[i * 2]? = some (.int .u8 (l[i].1.toNat : Int)) := by
  induction l generalizing i with
  | nil => simp at h
  | cons s l ih =>
    cases i with
    | zero => rfl
    | succ i => rw [show (i + 1) * 2 = i * 2 + 1 + 1 by omega]; simpa [srs] using ih i (by simpa using h)
theorem srs_data (l : List Sr) (i : Nat) (h : i < l.length) : (srs l)[i * 2 + 1]? = some (.int .u8 (l[i].2.toNat : Int)) := by
  induction l generalizing i with
  | nil => simp at h
  | cons s l ih =>
    cases i with
    | zero => rfl
    | succ i => rw [show (i + 1) * 2 + 1 = i * 2 + 1 + 1 + 1 by omega]; simpa [srs] using ih i (by simpa using h)
theorem srs_oneC (l : List Sr) : ∀ y, y ∈ srs l → y.oneCell' = true := by
  induction l with
  | nil => intro y hy; simp [srs] at hy
  | cons s l ih =>
    intro y hy
    simp only [srs, List.mem_cons] at hy
    rcases hy with rfl | rfl | hy
    · rfl
    · rfl
    · exact ih y hy
theorem srs_set (l : List Sr) (i : Nat) (x : Sr) (h : i < l.length) : ((srs l).set (i * 2) (.int .u8 (x.1.toNat : Int))).set (i * 2 + 1) (.int .u8 (x.2.toNat : Int)) = srs (l.set i x) := by
  induction l generalizing i with
  | nil => simp at h
  | cons s l ih =>
    cases i with
    | zero => rfl
    | succ i =>
      rw [show (i + 1) * 2 = i * 2 + 1 + 1 by omega]
      simp only [srs, List.set_cons_succ, ih i (by simpa using h)]
/-- the value v is seen in w as the shards l -/
def SeenR (w : World) (v : Value) (l : List Sr) : Prop :=
  ∃ A c, v = .slice A l.length c ∧ l.length ≤ c ∧ c ≤ maxLen ∧ (0 < l.length → ∃ b off, A = some ⟨b, off, none⟩ ∧ b < w.heap.size ∧ ∀ i s, l[i]? = some s → w.cell? ⟨b, off + i * 2, none⟩ = some (.int .u8 (s.1.toNat : Int)) ∧ w.cell? ⟨b, off + i * 2 + 1, none⟩ = some (.int .u8 (s.2.toNat : Int)))
/-- a row of shards of the call's own, its block from lo to hi -/
def OwnSr (E : TypeId) (w : World) (lo hi : Nat) (v : Value) (l : List Sr) : Prop := w.ownsRow lo E 2 v l.length (srs l) ∧ hi ≤ w.heap.size ∧ ∀ g, v.ownBlock = some g → g < hi
section
variable {w w' : World} {lo hi a b : Nat} {v : Value} {l : List Sr} {E : TypeId}
theorem SeenR.below (h : SeenR w v l) (hb : Below w.heap.size w w') : SeenR w' v l := by
  obtain ⟨A, c, rfl, h1, h2, h3⟩ := h
  refine ⟨A, c, rfl, h1, h2, fun hn => ?_⟩
  obtain ⟨b, off, rfl, hb', hc⟩ := h3 hn
  exact ⟨b, off, rfl, Nat.lt_of_lt_of_le hb' hb.size, fun i s hi => ⟨(hb.cell (p := ⟨b, off + i * 2, none⟩) hb').trans (hc i s hi).1, (hb.cell (p := ⟨b, off + i * 2 + 1, none⟩) hb').trans (hc i s hi).2⟩⟩
theorem SeenR.len (h : SeenR w v l) : ∃ A c, v = .slice A l.length c := by
  obtain ⟨A, c, h, _⟩ := h
  exact ⟨A, c, h⟩
theorem SeenR.nil (w : World) : SeenR w (.slice none 0 0) [] := ⟨none, 0, rfl, Nat.le_refl _, Nat.zero_le _, fun h => by simp at h⟩
theorem owns_turnR {size n : Nat} {xs : List Value} (h : w.ownsRow lo E size v n xs) (h2 : ∀ g, v.ownBlock = some g → g < hi) (t : TurnIn a b w w') (d : hi ≤ a ∨ b ≤ lo) : w'.ownsRow lo E size v n xs := by
  refine ⟨h.1, ?_⟩
  rcases h.2 with hn | ⟨g, cap, cur, rfl, hbg, hg, rest⟩
  · exact .inl hn
  · refine .inr ⟨g, cap, cur, rfl, hbg, ?_, rest⟩
    have := h2 g rfl
    rw [t.block g (Array.getElem?_eq_some_iff.1 hg).1 (by omega)]
    exact hg
theorem OwnSr.keep (h : OwnSr E w lo hi v l) (t : TurnIn a b w w') (d : hi ≤ a ∨ b ≤ lo) : OwnSr E w' lo hi v l :=
  ⟨owns_turnR h.1 h.2.2 t d, Nat.le_trans h.2.1 t.size, h.2.2⟩
theorem OwnSr.seen (h : OwnSr E w lo hi v l) : SeenR w v l := by
  obtain ⟨h1, h2, h3⟩ := h
  rcases h1.2 with ⟨rfl, hn⟩ | ⟨g, cap, cur, rfl, hb, hg, hnc, hcm, hcs, ht⟩
  · have : l = [] := List.eq_nil_of_length_eq_zero hn
    subst this
    exact SeenR.nil w
  · refine ⟨_, cap, rfl, hnc, hcm, fun hn => ⟨g, 0, rfl, (Array.getElem?_eq_some_iff.1 hg).1, fun i s hs => ?_⟩⟩
    obtain ⟨hi, rfl⟩ := List.getElem?_eq_some_iff.1 hs
    have e1 := h1.cells (g := g) rfl (i * 2) _ (srs_no l i hi)
    have e2 := h1.cells (g := g) rfl (i * 2 + 1) _ (srs_data l i hi)
    rw [Addr.add_lit, Nat.zero_add] at e1 e2
    exact ⟨by rw [Nat.zero_add]; exact e1, by rw [Nat.zero_add]; exact e2⟩
theorem OwnSr.nil (E : TypeId) (w : World) (lo : Nat) : OwnSr E w lo w.heap.size (.slice none 0 0) [] := ⟨World.ownsRow_nil _ _ _ _, Nat.le_refl _, fun g h => by simp [Value.ownBlock] at h⟩
theorem OwnSr.of_made (h : w'.ownsRow w.heap.size E 2 v l.length (srs l)) : OwnSr E w' w.heap.size w'.heap.size v l := ⟨h, Nat.le_refl _, fun g hg => (h.lt g hg).2⟩
end
def RetSrs (E : TypeId) (w : World) (l : List Sr) (e : Ending) (w' : World) : Prop := ∃ v, e = .returned v ∧ OwnSr E w' w.heap.size w'.heap.size v l ∧ TurnIn 0 0 w w'
def RetSrsOk (E : TypeId) (w : World) (l : List Sr) (ok : Bool) (e : Ending) (w' : World) : Prop := ∃ v, e = .returned (.tuple #[v, .bool ok]) ∧ OwnSr E w' w.heap.size w'.heap.size v l ∧ TurnIn 0 0 w w'
/-- the shards that marks write -/
def marksR (k n : Nat) : List Sr := (List.range n).map fun i => (UInt8.ofNat (k + i * 2), UInt8.ofNat (k + i * 2 + 1))
@[simp] theorem marksR_length (k n : Nat) : (marksR k n).length = n := by simp [marksR]
theorem marksR_get (k n i : Nat) (h : i < (marksR k n).length) : (marksR k n)[i] = (UInt8.ofNat (k + i * 2), UInt8.ofNat (k + i * 2 + 1)) := by simp [marksR]
def RetMarkR (E : TypeId) (w : World) (lo hi : Nat) (v : Value) (k n : Nat) (e : Ending) (w' : World) : Prop :=
  e = .returned (.int .i64 ((k + n * 2 : Nat) : Int)) ∧ OwnSr E w' lo hi v (marksR k n) ∧ TurnIn lo hi w w'
theorem ofNat_int (m : Nat) : ((UInt8.ofNat m).toNat : Int) = (m : Int) % 256 := by rw [UInt8.toNat_ofNat']; omega
end G294

/- Valid shares: the program's and the model's. -/
namespace G294
open Go Go.RowKit
theorem shr_bad {l : List Sr} {k : Nat} (hk : k < l.length) (h : ¬ prX l k < xF l k) : shrOk l = false := by
  cases e : shrOk l
  · rfl
  · exact absurd (((shrOk_iff l).1 e).2 k hk) h
theorem shr_many {l : List Sr} (h : 20 < l.length) : shrOk l = false := by
  cases e : shrOk l
  · rfl
  · exact absurd (shr_20 e) (by omega)
theorem shr_good {l : List Sr} (h20 : l.length ≤ 20) (h : ∀ i, i < l.length → prX l i < xF l i) : shrOk l = true := (shrOk_iff l).2 ⟨h20, h⟩
theorem prX_succ (l : List Sr) (k : Nat) : prX l (k + 1) = xF l k := by simp [prX]
theorem prX_zero (l : List Sr) : prX l 0 = 0 := rfl
theorem le_byte {x y : UInt8} : x.toNat ≤ y.toNat ↔ ¬ y < x := by rw [UInt8.lt_iff_toNat_lt]; omega
end G294
namespace Go.Proofs.YtjgmegfbfjmnfaaDoor
open Go.RowKit G294

end Go.Proofs.YtjgmegfbfjmnfaaDoor

/- Contracts of the laws' helpers on []Share: equality, marks, marks held, copies, sizes. -/
namespace G294
open Go Go.RowKit
theorem toList_madeCells_srs (n : Nat) : (madeCells #[.int .u8 0, .int .u8 0] (n * 2)).toList = srs (List.replicate n ((0 : UInt8), (0 : UInt8))) := by
  apply List.ext_getElem?
  intro j
  by_cases hj : j < n * 2
  · rcases Nat.mod_two_eq_zero_or_one j with h | h
    · have e : j = (j / 2) * 2 := by omega
      rw [e, srs_no _ (j / 2) (by simp; omega)]
      simp [madeCells, show j / 2 * 2 < n * 2 by omega]
    · have e : j = (j / 2) * 2 + 1 := by omega
      have h2 : (j / 2 * 2 + 1) % 2 = 1 := by omega
      rw [e, srs_data _ (j / 2) (by simp; omega)]
      simp [madeCells, show j / 2 * 2 + 1 < n * 2 by omega, h2]
  · rw [List.getElem?_eq_none (by simp [madeCells]; omega), List.getElem?_eq_none (by simp; omega)]
end G294
namespace Go.Proofs.YtjgmegfbfjmnfaaDoor
open Go.RowKit G294

end Go.Proofs.YtjgmegfbfjmnfaaDoor

/- append of one share, of bytes: onto a row of the call's own. -/
namespace G294
open Go Go.RowKit
theorem pair_cells {w : World} {g : Nat} {p q : UInt8} (hc0 : w.cell? ⟨g, 0, none⟩ = some (.int .u8 (p.toNat : Int))) (hc1 : w.cell? ⟨g, 1, none⟩ = some (.int .u8 (q.toNat : Int))) :
    ∀ j u, [Value.int .u8 (p.toNat : Int), Value.int .u8 (q.toNat : Int)][j]? = some u → w.cell? ((⟨g, 0, none⟩ : Addr).add j) = some u := by
  intro j u hj
  rw [Addr.add_lit, Nat.zero_add]
  match j, hj with
  | 0, hj => simp only [List.getElem?_cons_zero, Option.some.injEq] at hj; subst hj; exact hc0
  | 1, hj => simp only [List.getElem?_cons_succ, List.getElem?_cons_zero, Option.some.injEq] at hj; subst hj; exact hc1
theorem pair_one (p q : UInt8) : ∀ u ∈ [Value.int .u8 (p.toNat : Int), Value.int .u8 (q.toNat : Int)], u.oneCell' = true := by
  intro u hu
  simp only [List.mem_cons, List.not_mem_nil, or_false] at hu
  rcases hu with rfl | rfl <;> rfl
theorem srs_snoc (l : List Sr) (p q : UInt8) : srs (l ++ [(p, q)]) = srs l ++ [.int .u8 (p.toNat : Int), .int .u8 (q.toNat : Int)] := by rw [srs_append]; rfl
/-- a row of one element that was laid just now -/
theorem own_new1 (w : World) (e : TypeId) (x : Value) : (w.alloc (.cells #[x] e)).ownsRow w.heap.size e 1 (.slice (some ⟨w.heap.size, 0, none⟩) 1 1) 1 [x] :=
  ⟨rfl, .inr ⟨w.heap.size, 1, #[x], rfl, Nat.le_refl _, heap_alloc_new w _, Nat.le_refl _, by unfold maxLen; omega, rfl, rfl⟩⟩
theorem cell_set2 {w : World} {B o g a b : Nat} {x p q : Value} (h : w.cell? ⟨B, o, none⟩ = some x) (hne : g ≠ B) : ((w.setCell ⟨g, a, none⟩ p).setCell ⟨g, b, none⟩ q).cell? ⟨B, o, none⟩ = some x := by
  rw [World.cell?_setCell_other _ _ _ _ (fun e => hne (by cases e; rfl)), World.cell?_setCell_other _ _ _ _ (fun e => hne (by cases e; rfl))]; exact h
theorem turn_grow {w w1 w2 : World} (k : TurnIn 0 0 w w1) {row : Option Nat} (hg : w1.grownBy w2 row) (hr : ∀ g, row = some g → w.heap.size ≤ g) : TurnIn 0 0 w w2 :=
  ⟨hg.os.trans k.os, hg.tape.trans k.tape, hg.output.trans k.output, Nat.le_trans k.size hg.size, fun j hj _ => (hg.block j (by have := k.size; omega) (fun e => by have := hr j e.symm; omega)).trans (k.block j hj (by omega))⟩
theorem grow_turn {w w2 : World} {base n size : Nat} {e : TypeId} {v : Value} {xs : List Value} (hown : w.ownsRow base e size v n xs) (hg : w.grownBy w2 v.ownBlock) : TurnIn base w.heap.size w w2 :=
  TurnIn.of_grown hg fun g e => hown.lt g e
/-- one share stored into a row of shares -/
theorem row_pair {w : World} {base g m cp k : Nat} {E : TypeId} {L : List Sr} (ho : w.ownsRow base E 2 (.slice (some ⟨g, 0, none⟩) m cp) m (srs L)) (hk : k < m) (x y : UInt8) :
    (∃ a b : UInt8, w.cell? ⟨g, k * 2, none⟩ = some (.int .u8 (a.toNat : Int)) ∧ w.cell? ⟨g, k * 2 + 1, none⟩ = some (.int .u8 (b.toNat : Int))) ∧ w.frozen? ⟨g, k * 2, none⟩ = false ∧ w.frozen? ⟨g, k * 2 + 1, none⟩ = false ∧
    ((w.setCell ⟨g, k * 2, none⟩ (.int .u8 (x.toNat : Int))).setCell ⟨g, k * 2 + 1, none⟩ (.int .u8 (y.toNat : Int))).ownsRow base E 2 (.slice (some ⟨g, 0, none⟩) m cp) m (srs (L.set k (x, y))) := by
  have hL : L.length = m := by have := ho.1; simp at this; omega
  have hkl : k < L.length := by omega
  have hst := ho.stored (k * 2) (.int .u8 (x.toNat : Int))
  have hst2 := hst.1.stored (k * 2 + 1) (.int .u8 (y.toNat : Int))
  rw [srs_set _ k (x, y) hkl] at hst2
  exact ⟨⟨L[k].1, L[k].2, by rw [ho.cellAt (k * 2) (by omega), srs_no _ k hkl], by rw [ho.cellAt (k * 2 + 1) (by omega), srs_data _ k hkl]⟩, ho.frozenAt _, ho.frozenAt _, hst2.1⟩
section
variable {P : Program} {w : World} {ops : Array Oper} {rest : List Oper} {o : Oper} {a : Act} {K : Act → World → Prop} {Q : Exit → Act → World → Prop} {E : Prop}
/-- append(s, share) -/
theorem wpList_appendR (hgd : o.guard = none) (s x : Operand) (t : TypeId) (ho : o.op = .call { callee := .builtin .append, args := #[s, x], argTypes := #[t, t] })
    (base : Nat) (e : TypeId) (z : Value) (bytes : Nat) (ht : P.underlying t = some (.slice e)) (hinfo : (P.info? e).map (fun i => (i.zero, i.size, i.bytes)) = some (some z, 2, bytes)) (hzs : z.cells.size = 2)
    (v : Value) (n : Nat) (l : List Sr) (hs : a.eval s = v) (hown : w.ownsRow base e 2 v n (srs l))
    (g : Nat) (p q : UInt8) (hx : a.eval x = .slice (some ⟨g, 0, none⟩) 1 1) (hc0 : w.cell? ⟨g, 0, none⟩ = some (.int .u8 (p.toNat : Int))) (hc1 : w.cell? ⟨g, 1, none⟩ = some (.int .u8 (q.toNat : Int)))
    (hn : n ≤ 1000000000) (hby : bytes ≤ 1000) (hbase : base ≤ w.heap.size)
    (h : ∀ v' w', w'.ownsRow base e 2 v' (n + 1) (srs (l ++ [(p, q)])) → w.grownBy w' v.ownBlock → (v'.ownBlock = v.ownBlock ∨ v'.ownBlock = some w.heap.size) → wpList P ops Q rest (a.put o.dst v') w') :
    wpList P ops Q (o :: rest) a w := by
  obtain ⟨i, hi, hz, hsz, hbs⟩ := info_parts hinfo
  refine wpList_append_own_at w hgd s x t ho base e i z 2 bytes ht hi hz hsz hbs hzs (by omega) v n (srs l) hs hown ⟨g, 0, none⟩ 1 1 _ hx rfl (pair_cells hc0 hc1) (pair_one p q) ?_ ?_ hbase (fun v' w' h2 h3 _ h5 => h v' w' (by rw [srs_snoc]; exact h2) h3 h5)
  · unfold maxLen; omega
  · have : (n + 1) * bytes ≤ 1000000001 * 1000 := Nat.mul_le_mul (by omega) hby
    omega
/-- the same, as one step of a region that draws its order -/
theorem step_appendR (hgd : o.guard = none) (s x : Operand) (t : TypeId) (ho : o.op = .call { callee := .builtin .append, args := #[s, x], argTypes := #[t, t] })
    (base : Nat) (e : TypeId) (z : Value) (bytes : Nat) (ht : P.underlying t = some (.slice e)) (hinfo : (P.info? e).map (fun i => (i.zero, i.size, i.bytes)) = some (some z, 2, bytes)) (hzs : z.cells.size = 2)
    (v : Value) (n : Nat) (l : List Sr) (hs : a.eval s = v) (hown : w.ownsRow base e 2 v n (srs l))
    (g : Nat) (p q : UInt8) (hx : a.eval x = .slice (some ⟨g, 0, none⟩) 1 1) (hc0 : w.cell? ⟨g, 0, none⟩ = some (.int .u8 (p.toNat : Int))) (hc1 : w.cell? ⟨g, 1, none⟩ = some (.int .u8 (q.toNat : Int)))
    (hn : n ≤ 1000000000) (hby : bytes ≤ 1000) (hbase : base ≤ w.heap.size)
    (h : ∀ v' w', w'.ownsRow base e 2 v' (n + 1) (srs (l ++ [(p, q)])) → w.grownBy w' v.ownBlock → (v'.ownBlock = v.ownBlock ∨ v'.ownBlock = some w.heap.size) → K (a.put o.dst v') w') :
    if Region.wanted o (yielded ops a.tmps) = true then Oper.wp P o a w K Q else E := by
  have hw : Region.wanted o (yielded ops a.tmps) = true := by simp [Region.wanted, hgd]
  rw [if_pos hw]
  obtain ⟨i, hi, hz, hsz, hbs⟩ := info_parts hinfo
  obtain ⟨v', w', hrun, r1, r2, _, r4⟩ := run_append_own_at (P := P) w base t o.type e i z 2 bytes ht hi hz hsz hbs hzs (by omega) v n (srs l) hown ⟨g, 0, none⟩ 1 1 _ rfl (pair_cells hc0 hc1) (pair_one p q) (by unfold maxLen; omega) (by
    have : (n + 1) * bytes ≤ 1000000001 * 1000 := Nat.mul_le_mul (by omega) hby
    omega) hbase
  unfold Oper.wp execOp
  simp only [ho, resolve, invoke, builtin, Sem.run_bind, Sem.run_pure, Result.andThen_ok, List.map_toArray, List.map_cons, List.map_nil, hs, hx, hrun]
  exact h v' w' (by rw [srs_snoc]; exact r1) r2 r4
/-- a slice of no element without an array has no room -/
def NilOk (v : Value) : Prop := ∀ c, v = .slice none 0 c → c = 0
theorem OwnBytes.nilOk {F : TypeId} {lo hi : Nat} {v : Value} {l : List UInt8} (h : OwnBytes F w lo hi v l) : NilOk v := fun c e => by
  rcases h.1.2 with ⟨rfl, _⟩ | ⟨g, cap, cur, rfl, _⟩
  · simp only [Value.slice.injEq] at e; omega
  · simp at e
/-- append(s, bytes...) -/
theorem wpList_appendB (hgd : o.guard = none) (s x : Operand) (t : TypeId) (ho : o.op = .call { callee := .builtin .append, args := #[s, x], argTypes := #[t, t] })
    (base : Nat) (e : TypeId) (ht : P.underlying t = some (.slice e)) (hinfo : (P.info? e).map (fun i => (i.zero, i.size, i.bytes)) = some (some (.int .u8 0), 1, 1))
    (v : Value) (n : Nat) (l m : List UInt8) (hs : a.eval s = v) (hown : w.ownsRow base e 1 v n (bys l)) (u : Value) (hx : a.eval x = u) (hu : Seen w u (bys m)) (hN : NilOk u)
    (hn : n + m.length ≤ 1000000000) (hbase : base ≤ w.heap.size)
    (h : ∀ v' w', w'.ownsRow base e 1 v' (n + m.length) (bys (l ++ m)) → w.grownBy w' v.ownBlock → wpList P ops Q rest (a.put o.dst v') w') :
    wpList P ops Q (o :: rest) a w := by
  obtain ⟨i, hi, hz, hsz, hbs⟩ := info_parts hinfo
  obtain ⟨A, c, rfl, hlc, hcm, hc⟩ := hu
  rw [bys_length] at *
  cases A with
  | none =>
    have hm0 : m.length = 0 := by
      rcases Nat.eq_zero_or_pos m.length with h' | h'
      · exact h'
      · obtain ⟨b, off, e', _⟩ := hc h'; simp at e'
    have hc0 := hN c (by rw [hm0])
    have hm : m = [] := List.eq_nil_of_length_eq_zero hm0
    subst hm hc0
    refine wpList_append_own_none hgd s x t ho base e i 1 ht hi v n (bys l) hs hown hx (h v w (by simpa using hown) (World.grownBy.refl _ _))
  | some ad =>
    refine wpList_append_own_at w hgd s x t ho base e i _ 1 1 ht hi hz hsz hbs rfl (by omega) v n (bys l) hs hown ad m.length c (bys m) hx (by simp) (fun j y hj => ?_) (fun y hy => bys_one y m hy) (by unfold maxLen; omega) (by omega) hbase (fun v' w' h2 h3 _ h5 => h v' w' (by rw [bys_append]; exact h2) h3)
    have hj' : j < m.length := by have := (List.getElem?_eq_some_iff.1 hj).1; simpa using this
    obtain ⟨b, off, e', _, hcc⟩ := hc (by omega)
    simp only [Option.some.injEq] at e'
    subst e'
    rw [Addr.add_lit]
    exact hcc j y hj
end
end G294

/- ShareSecret: the program's and the model's. -/
namespace G294
open Go Go.RowKit
theorem shaOk_rnd {l : List UInt8} {n : Int} (h : ¬ l.length ≤ 8) : shaOk l n = false := by simp [shaOk, h]
theorem shaOk_n {l : List UInt8} {n : Int} (h : ¬ (1 ≤ n ∧ n ≤ 20)) : shaOk l n = false := by
  unfold shaOk
  rw [decide_eq_false h, Bool.and_false]
theorem shaOk_yes {l : List UInt8} {n : Int} (h : l.length ≤ 8) (h1 : 1 ≤ n) (h2 : n ≤ 20) : shaOk l n = true := by simp [shaOk, h, h1, h2]
theorem byte_int (k : Nat) (h : k < 256) : ((UInt8.ofNat k).toNat : Int) = (k : Int) := by rw [UInt8.toNat_ofNat']; omega
theorem srs_one (x y : UInt8) : srs [(x, y)] = [.int .u8 (x.toNat : Int), .int .u8 (y.toNat : Int)] := rfl
end G294
namespace Go.Proofs.YtjgmegfbfjmnfaaDoor
open Go.RowKit G294

end Go.Proofs.YtjgmegfbfjmnfaaDoor

/- The cursor's shares. -/
namespace G294
open Go Go.RowKit
theorem srs_setY (l : List Sr) (i : Nat) (y : UInt8) (h : i < l.length) : (srs l).set (i * 2 + 1) (.int .u8 (y.toNat : Int)) = srs (l.set i (l[i].1, y)) := by
  rw [← srs_set l i (l[i].1, y) h]
  congr 1
  apply List.ext_getElem?
  intro j
  by_cases e : i * 2 = j
  · subst e; rw [List.getElem?_set_self (by simp; omega), srs_no l i h]
  · rw [List.getElem?_set_ne e]
theorem srs_setX (l : List Sr) (x : UInt8) (h : 0 < l.length) : (srs l).set 0 (.int .u8 (x.toNat : Int)) = srs (l.set 0 (x, l[0].2)) := by
  cases l with
  | nil => simp at h
  | cons a l => rfl
theorem own_far {w w' : World} {lo a b n size : Nat} {E : TypeId} {v : Value} {xs : List Value} (h : w.ownsRow lo E size v n xs) (t : TurnIn a b w w') (d : b ≤ lo) : w'.ownsRow lo E size v n xs := owns_turnR h (fun g e => (h.lt g e).2) t (.inr d)
/-- shares that lie in other blocks -/
theorem SeenR.far {w w' w0 : World} {a b lo hi : Nat} {E : TypeId} {v : Value} {l : List Sr} (h : SeenR w v l) (t : TurnIn a b w w') (ho : OwnSr E w0 lo hi v l) (d : b ≤ lo) : SeenR w' v l := by
  obtain ⟨A, c, rfl, h1, h2, h3⟩ := h
  refine ⟨A, c, rfl, h1, h2, fun hn => ?_⟩
  obtain ⟨bb, off, rfl, hb', hc⟩ := h3 hn
  have hlo : lo ≤ bb := by
    rcases ho.1.2 with ⟨e, _⟩ | ⟨g, cap, cur, e, hbg, _⟩
    · simp at e
    · simp only [Value.slice.injEq, Option.some.injEq, Addr.mk.injEq] at e
      omega
  have e := t.block bb hb' (by omega)
  exact ⟨bb, off, rfl, Nat.lt_of_lt_of_le hb' t.size, fun i s hi => ⟨(World.cell?_of_block (a := ⟨bb, off + i * 2, none⟩) e).trans (hc i s hi).1, (World.cell?_of_block (a := ⟨bb, off + i * 2 + 1, none⟩) e).trans (hc i s hi).2⟩⟩
theorem SeenR.far2 {w w' w0 : World} {lo hi D : Nat} {row : Option Nat} {E : TypeId} {v : Value} {l : List Sr} (h : SeenR w v l) (hg : w.grownBy w' row) (ho : OwnSr E w0 lo hi v l) (hr : ∀ g, row = some g → D ≤ g) (hD : hi ≤ D := by omega) : SeenR w' v l := by
  obtain ⟨A, c, rfl, h1, h2, h3⟩ := h
  refine ⟨A, c, rfl, h1, h2, fun hn => ?_⟩
  obtain ⟨bb, off, rfl, hb', hc⟩ := h3 hn
  have hhi : bb < hi := ho.2.2 bb rfl
  have e := hg.block bb hb' (fun e => by have := hr bb e.symm; omega)
  exact ⟨bb, off, rfl, Nat.lt_of_lt_of_le hb' hg.size, fun i s hi => ⟨(World.cell?_of_block (a := ⟨bb, off + i * 2, none⟩) e).trans (hc i s hi).1, (World.cell?_of_block (a := ⟨bb, off + i * 2 + 1, none⟩) e).trans (hc i s hi).2⟩⟩
end G294
namespace Go.Proofs.YtjgmegfbfjmnfaaDoor
open Go.RowKit G294

theorem pickHi_lt {L : Nat} (h : 1 ≤ L) : pickHi (L : Int) ≤ (L : Int) - 1 := by unfold pickHi; split <;> omega

end Go.Proofs.YtjgmegfbfjmnfaaDoor

/- Arrays of 20 bytes: the program's withRoot. -/
namespace G294
open Go
theorem root_splice (V : List UInt8) (h : V.length = 20) : splice (bys (List.replicate 20 0)) 1 (bys (V.take 19)) = bys (0 :: V.take 19) := by
  have e1 : bys (List.replicate 20 0) = .int .u8 0 :: List.replicate 19 (.int .u8 0) := rfl
  have e2 : (V.take 19).length = 19 := by simp [h]
  rw [e1]
  unfold splice
  rw [bys_length, e2]
  simp [bys]
end G294
namespace Go.Proofs.YtjgmegfbfjmnfaaDoor
open Go.RowKit G294

end Go.Proofs.YtjgmegfbfjmnfaaDoor
