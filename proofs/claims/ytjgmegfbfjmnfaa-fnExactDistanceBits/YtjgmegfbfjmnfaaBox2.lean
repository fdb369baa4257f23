/- A variable of two cells, each of which may be written; append of a row to a row of the call's own. -/
import Derived.Test.YtjgmegfbfjmnfaaOwn
import Derived.Test.YtjgmegfbfjmnfaaTurns
set_option linter.unusedSimpArgs false
set_option linter.unusedVariables false
namespace G294
open Go Go.RowKit
structure BoxV2 (B : Nat) (x y : Value) (W : World) : Prop where
  c0 : W.cell? ⟨B, 0, none⟩ = some x
  c1 : W.cell? ⟨B, 1, none⟩ = some y
  f0 : W.frozen? ⟨B, 0, none⟩ = false
  f1 : W.frozen? ⟨B, 1, none⟩ = false
  lt : B < W.heap.size
section
variable {B a b : Nat} {x y z : Value} {W W' X : World} {T : TypeId}
theorem boxV2_new (X : World) (x y : Value) (T : TypeId) : BoxV2 X.heap.size x y (X.alloc (.cells #[x, y] T)) := ⟨by simp, by simp, by simp, by simp, by simp⟩
theorem BoxV2.keep (h : BoxV2 B x y W) (t : TurnIn a b W W') (d : B < a ∨ b ≤ B) : BoxV2 B x y W' := by
  have e := t.block B h.lt (by omega)
  refine ⟨(World.cell?_of_block e).trans h.c0, (World.cell?_of_block e).trans h.c1, (World.frozen?_of_block e).trans h.f0, (World.frozen?_of_block e).trans h.f1, Nat.lt_of_lt_of_le h.lt t.size⟩
theorem BoxV2.drewN (h : BoxV2 B x y W) (n : Nat) : BoxV2 B x y (W.drewN n) := ⟨h.c0, h.c1, h.f0, h.f1, h.lt⟩
theorem BoxV2.drew (h : BoxV2 B x y W) : BoxV2 B x y W.drew := ⟨h.c0, h.c1, h.f0, h.f1, h.lt⟩
theorem BoxV2.set (h : BoxV2 B x y W) (p q : Value) : BoxV2 B p q ((W.setCell ⟨B, 0, none⟩ p).setCell ⟨B, 1, none⟩ q) := by
  have y1 : (W.setCell ⟨B, 0, none⟩ p).cell? ⟨B, 1, none⟩ = some y := (World.cell?_setCell_other _ _ _ _ (by simp)).trans h.c1
  refine ⟨?_, ?_, by simpa using h.f0, by simpa using h.f1, by simpa using h.lt⟩
  · exact (World.cell?_setCell_other _ _ _ _ (by simp)).trans (World.cell?_setCell_same _ _ _ h.c0)
  · exact World.cell?_setCell_same _ _ _ y1
theorem turn_set2 (W : World) (B : Nat) (p q : Value) : TurnIn B (B + 1) W ((W.setCell ⟨B, 0, none⟩ p).setCell ⟨B, 1, none⟩ q) := by
  refine ⟨rfl, rfl, rfl, by simp, fun k hk hd => ?_⟩
  exact (heap_setCell_other _ ⟨B, 1, none⟩ k q (by intro e; simp at e; omega)).trans (heap_setCell_other W ⟨B, 0, none⟩ k p (by intro e; simp at e; omega))
end
theorem wpList_appendRow {P : Program} {w : World} {ops : Array Oper} {rest : List Oper} {o : Oper} {a : Act} {Q : Exit → Act → World → Prop} (hgd : o.guard = none) (s x : Operand) (t : TypeId)
    (ho : o.op = .call { callee := .builtin .append, args := #[s, x], argTypes := #[t, t] })
    (base : Nat) (e : TypeId) (z : Value) (bytes : Nat) (ht : P.underlying t = some (.slice e)) (hinfo : (P.info? e).map (fun i => (i.zero, i.size, i.bytes)) = some (some z, 1, bytes)) (hzs : z.cells.size = 1)
    (v : Value) (n : Nat) (xs : List Value) (hs : a.eval s = v) (hown : w.ownsRow base e 1 v n xs)
    (A : Addr) (m c : Nat) (ys : List Value) (hx : a.eval x = .slice (some A) m c) (hl : ys.length = m) (hc : ∀ j y, ys[j]? = some y → w.cell? (A.add j) = some y) (h1 : ∀ y, y ∈ ys → y.oneCell' = true)
    (hn : n + m ≤ 1000000000) (hby : bytes ≤ 1000) (hbase : base ≤ w.heap.size)
    (h : ∀ v' w', w'.ownsRow base e 1 v' (n + m) (xs ++ ys) → w.grownBy w' v.ownBlock → (v'.ownBlock = v.ownBlock ∨ v'.ownBlock = some w.heap.size) → wpList P ops Q rest (a.put o.dst v') w') :
    wpList P ops Q (o :: rest) a w := by
  obtain ⟨i, hi, hz, hsz, hbs⟩ := info_parts hinfo
  refine wpList_append_own_at w hgd s x t ho base e i z 1 bytes ht hi hz hsz hbs hzs (by omega) v n xs hs hown A m c ys hx (by omega) hc h1 (by unfold maxLen; omega) ?_ hbase (fun v' w' h2 h3 _ h5 => h v' w' h2 h3 h5)
  have : (n + m) * bytes ≤ 1000000000 * 1000 := Nat.mul_le_mul (by omega) hby
  omega
end G294
