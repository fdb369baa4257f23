/- append of one share, of bytes: onto a row of the call's own. -/
import Derived.Test.YtdbgkpmdimapdaaShrMem
import Derived.Laws.AppendOwnNone
import Derived.Laws.Rows
set_option linter.unusedSimpArgs false
set_option linter.unusedVariables false
namespace G294
open Go Go.RowKit
theorem pair_cells {w : World} {g : Nat} {p q : UInt8} (hc0 : w.cell? ⟨g, 0, none⟩ = some (.int .u8 (p.toNat : Int))) (hc1 : w.cell? ⟨g, 1, none⟩ = some (.int .u8 (q.toNat : Int))) :
    ∀ j u, [Value.int .u8 (p.toNat : Int), Value.int .u8 (q.toNat : Int)][j]? = some u → w.cell? ((⟨g, 0, none⟩ : Addr).add j) = some u := by
  intro j u hj
  rw [Addr.add_lit, Nat.zero_add]
  match j, hj with
  | 0, hj => simp only [List.getElem?_cons_zero, Option.some.injEq] at hj; subst hj; exact hc0
  | 1, hj => simp only [List.getElem?_cons_succ, List.getElem?_cons_zero, Option.some.injEq] at hj; subst hj; exact hc1
theorem pair_one (p q : UInt8) : ∀ u ∈ [Value.int .u8 (p.toNat : Int), Value.int .u8 (q.toNat : Int)], u.oneCell' = true := by
  intro u hu
  simp only [List.mem_cons, List.not_mem_nil, or_false] at hu
  rcases hu with rfl | rfl <;> rfl
theorem srs_snoc (l : List Sr) (p q : UInt8) : srs (l ++ [(p, q)]) = srs l ++ [.int .u8 (p.toNat : Int), .int .u8 (q.toNat : Int)] := by rw [srs_append]; rfl
/-- a row of one element that was laid just now -/
theorem own_new1 (w : World) (e : TypeId) (x : Value) : (w.alloc (.cells #[x] e)).ownsRow w.heap.size e 1 (.slice (some ⟨w.heap.size, 0, none⟩) 1 1) 1 [x] :=
  ⟨rfl, .inr ⟨w.heap.size, 1, #[x], rfl, Nat.le_refl _, heap_alloc_new w _, Nat.le_refl _, by unfold maxLen; omega, rfl, rfl⟩⟩
theorem cell_set2 {w : World} {B o g a b : Nat} {x p q : Value} (h : w.cell? ⟨B, o, none⟩ = some x) (hne : g ≠ B) : ((w.setCell ⟨g, a, none⟩ p).setCell ⟨g, b, none⟩ q).cell? ⟨B, o, none⟩ = some x := by
  rw [World.cell?_setCell_other _ _ _ _ (fun e => hne (by cases e; rfl)), World.cell?_setCell_other _ _ _ _ (fun e => hne (by cases e; rfl))]; exact h
theorem turn_grow {w w1 w2 : World} (k : TurnIn 0 0 w w1) {row : Option Nat} (hg : w1.grownBy w2 row) (hr : ∀ g, row = some g → w.heap.size ≤ g) : TurnIn 0 0 w w2 :=
  ⟨hg.os.trans k.os, hg.tape.trans k.tape, hg.output.trans k.output, Nat.le_trans k.size hg.size, fun j hj _ => (hg.block j (by have := k.size; omega) (fun e => by have := hr j e.symm; omega)).trans (k.block j hj (by omega))⟩
theorem grow_turn {w w2 : World} {base n size : Nat} {e : TypeId} {v : Value} {xs : List Value} (hown : w.ownsRow base e size v n xs) (hg : w.grownBy w2 v.ownBlock) : TurnIn base w.heap.size w w2 :=
  TurnIn.of_grown hg fun g e => hown.lt g e
/-- one share stored into a row of shares -/
theorem row_pair {w : World} {base g m cp k : Nat} {E : TypeId} {L : List Sr} (ho : w.ownsRow base E 2 (.slice (some ⟨g, 0, none⟩) m cp) m (srs L)) (hk : k < m) (x y : UInt8) :
    (∃ a b : UInt8, w.cell? ⟨g, k * 2, none⟩ = some (.int .u8 (a.toNat : Int)) ∧ w.cell? ⟨g, k * 2 + 1, none⟩ = some (.int .u8 (b.toNat : Int))) ∧ w.frozen? ⟨g, k * 2, none⟩ = false ∧ w.frozen? ⟨g, k * 2 + 1, none⟩ = false ∧
    ((w.setCell ⟨g, k * 2, none⟩ (.int .u8 (x.toNat : Int))).setCell ⟨g, k * 2 + 1, none⟩ (.int .u8 (y.toNat : Int))).ownsRow base E 2 (.slice (some ⟨g, 0, none⟩) m cp) m (srs (L.set k (x, y))) := by
  have hL : L.length = m := by have := ho.1; simp at this; omega
  have hkl : k < L.length := by omega
  have hst := ho.stored (k * 2) (.int .u8 (x.toNat : Int))
  have hst2 := hst.1.stored (k * 2 + 1) (.int .u8 (y.toNat : Int))
  rw [srs_set _ k (x, y) hkl] at hst2
  exact ⟨⟨L[k].1, L[k].2, by rw [ho.cellAt (k * 2) (by omega), srs_no _ k hkl], by rw [ho.cellAt (k * 2 + 1) (by omega), srs_data _ k hkl]⟩, ho.frozenAt _, ho.frozenAt _, hst2.1⟩
section
variable {P : Program} {w : World} {ops : Array Oper} {rest : List Oper} {o : Oper} {a : Act} {K : Act → World → Prop} {Q : Exit → Act → World → Prop} {E : Prop}
/-- append(s, share) -/
theorem wpList_appendR (hgd : o.guard = none) (s x : Operand) (t : TypeId) (ho : o.op = .call { callee := .builtin .append, args := #[s, x], argTypes := #[t, t] })
    (base : Nat) (e : TypeId) (z : Value) (bytes : Nat) (ht : P.underlying t = some (.slice e)) (hinfo : (P.info? e).map (fun i => (i.zero, i.size, i.bytes)) = some (some z, 2, bytes)) (hzs : z.cells.size = 2)
    (v : Value) (n : Nat) (l : List Sr) (hs : a.eval s = v) (hown : w.ownsRow base e 2 v n (srs l))
    (g : Nat) (p q : UInt8) (hx : a.eval x = .slice (some ⟨g, 0, none⟩) 1 1) (hc0 : w.cell? ⟨g, 0, none⟩ = some (.int .u8 (p.toNat : Int))) (hc1 : w.cell? ⟨g, 1, none⟩ = some (.int .u8 (q.toNat : Int)))
    (hn : n ≤ 1000000000) (hby : bytes ≤ 1000) (hbase : base ≤ w.heap.size)
    (h : ∀ v' w', w'.ownsRow base e 2 v' (n + 1) (srs (l ++ [(p, q)])) → w.grownBy w' v.ownBlock → (v'.ownBlock = v.ownBlock ∨ v'.ownBlock = some w.heap.size) → wpList P ops Q rest (a.put o.dst v') w') :
    wpList P ops Q (o :: rest) a w := by
  obtain ⟨i, hi, hz, hsz, hbs⟩ := info_parts hinfo
  refine wpList_append_own_at w hgd s x t ho base e i z 2 bytes ht hi hz hsz hbs hzs (by omega) v n (srs l) hs hown ⟨g, 0, none⟩ 1 1 _ hx rfl (pair_cells hc0 hc1) (pair_one p q) ?_ ?_ hbase (fun v' w' h2 h3 _ h5 => h v' w' (by rw [srs_snoc]; exact h2) h3 h5)
  · unfold maxLen; omega
  · have : (n + 1) * bytes ≤ 1000000001 * 1000 := Nat.mul_le_mul (by omega) hby
    omega
/-- the same, as one step of a region that draws its order -/
theorem step_appendR (hgd : o.guard = none) (s x : Operand) (t : TypeId) (ho : o.op = .call { callee := .builtin .append, args := #[s, x], argTypes := #[t, t] })
    (base : Nat) (e : TypeId) (z : Value) (bytes : Nat) (ht : P.underlying t = some (.slice e)) (hinfo : (P.info? e).map (fun i => (i.zero, i.size, i.bytes)) = some (some z, 2, bytes)) (hzs : z.cells.size = 2)
    (v : Value) (n : Nat) (l : List Sr) (hs : a.eval s = v) (hown : w.ownsRow base e 2 v n (srs l))
    (g : Nat) (p q : UInt8) (hx : a.eval x = .slice (some ⟨g, 0, none⟩) 1 1) (hc0 : w.cell? ⟨g, 0, none⟩ = some (.int .u8 (p.toNat : Int))) (hc1 : w.cell? ⟨g, 1, none⟩ = some (.int .u8 (q.toNat : Int)))
    (hn : n ≤ 1000000000) (hby : bytes ≤ 1000) (hbase : base ≤ w.heap.size)
    (h : ∀ v' w', w'.ownsRow base e 2 v' (n + 1) (srs (l ++ [(p, q)])) → w.grownBy w' v.ownBlock → (v'.ownBlock = v.ownBlock ∨ v'.ownBlock = some w.heap.size) → K (a.put o.dst v') w') :
    if Region.wanted o (yielded ops a.tmps) = true then Oper.wp P o a w K Q else E := by
  have hw : Region.wanted o (yielded ops a.tmps) = true := by simp [Region.wanted, hgd]
  rw [if_pos hw]
  obtain ⟨i, hi, hz, hsz, hbs⟩ := info_parts hinfo
  obtain ⟨v', w', hrun, r1, r2, _, r4⟩ := run_append_own_at (P := P) w base t o.type e i z 2 bytes ht hi hz hsz hbs hzs (by omega) v n (srs l) hown ⟨g, 0, none⟩ 1 1 _ rfl (pair_cells hc0 hc1) (pair_one p q) (by unfold maxLen; omega) (by
    have : (n + 1) * bytes ≤ 1000000001 * 1000 := Nat.mul_le_mul (by omega) hby
    omega) hbase
  unfold Oper.wp execOp
  simp only [ho, resolve, invoke, builtin, Sem.run_bind, Sem.run_pure, Result.andThen_ok, List.map_toArray, List.map_cons, List.map_nil, hs, hx, hrun]
  exact h v' w' (by rw [srs_snoc]; exact r1) r2 r4
/-- a slice of no element without an array has no room -/
def NilOk (v : Value) : Prop := ∀ c, v = .slice none 0 c → c = 0
theorem OwnBytes.nilOk {F : TypeId} {lo hi : Nat} {v : Value} {l : List UInt8} (h : OwnBytes F w lo hi v l) : NilOk v := fun c e => by
  rcases h.1.2 with ⟨rfl, _⟩ | ⟨g, cap, cur, rfl, _⟩
  · simp only [Value.slice.injEq] at e; omega
  · simp at e
/-- append(s, bytes...) -/
theorem wpList_appendB (hgd : o.guard = none) (s x : Operand) (t : TypeId) (ho : o.op = .call { callee := .builtin .append, args := #[s, x], argTypes := #[t, t] })
    (base : Nat) (e : TypeId) (ht : P.underlying t = some (.slice e)) (hinfo : (P.info? e).map (fun i => (i.zero, i.size, i.bytes)) = some (some (.int .u8 0), 1, 1))
    (v : Value) (n : Nat) (l m : List UInt8) (hs : a.eval s = v) (hown : w.ownsRow base e 1 v n (bys l)) (u : Value) (hx : a.eval x = u) (hu : Seen w u (bys m)) (hN : NilOk u)
    (hn : n + m.length ≤ 1000000000) (hbase : base ≤ w.heap.size)
    (h : ∀ v' w', w'.ownsRow base e 1 v' (n + m.length) (bys (l ++ m)) → w.grownBy w' v.ownBlock → wpList P ops Q rest (a.put o.dst v') w') :
    wpList P ops Q (o :: rest) a w := by
  obtain ⟨i, hi, hz, hsz, hbs⟩ := info_parts hinfo
  obtain ⟨A, c, rfl, hlc, hcm, hc⟩ := hu
  rw [bys_length] at *
  cases A with
  | none =>
    have hm0 : m.length = 0 := by
      rcases Nat.eq_zero_or_pos m.length with h' | h'
      · exact h'
      · obtain ⟨b, off, e', _⟩ := hc h'; simp at e'
    have hc0 := hN c (by rw [hm0])
    have hm : m = [] := List.eq_nil_of_length_eq_zero hm0
    subst hm hc0
    refine wpList_append_own_none hgd s x t ho base e i 1 ht hi v n (bys l) hs hown hx (h v w (by simpa using hown) (World.grownBy.refl _ _))
  | some ad =>
    refine wpList_append_own_at w hgd s x t ho base e i _ 1 1 ht hi hz hsz hbs rfl (by omega) v n (bys l) hs hown ad m.length c (bys m) hx (by simp) (fun j y hj => ?_) (fun y hy => bys_one y m hy) (by unfold maxLen; omega) (by omega) hbase (fun v' w' h2 h3 _ h5 => h v' w' (by rw [bys_append]; exact h2) h3)
    have hj' : j < m.length := by have := (List.getElem?_eq_some_iff.1 hj).1; simpa using this
    obtain ⟨b, off, e', _, hcc⟩ := hc (by omega)
    simp only [Option.some.injEq] at e'
    subst e'
    rw [Addr.add_lit]
    exact hcc j y hj
end
end G294
