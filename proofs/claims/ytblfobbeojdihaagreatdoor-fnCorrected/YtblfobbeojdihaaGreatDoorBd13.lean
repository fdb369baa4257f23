/- Joined texts: ShrApp, ConcR, RndImp, MatBox, VecDot, RndSpc, LocS. -/
import Derived.Test.YtblfobbeojdihaaGreatDoorBd12
import Derived.Laws.AppendOwnNone
import Derived.Laws.Rows
import Derived.Lib.AppendZeros
import Derived.Test.YtblfobbeojdihaaGreatDoorBd06
import Derived.Test.YtblfobbeojdihaaGreatDoorBd02
import Derived.Test.YtblfobbeojdihaaGreatDoorBd10
import Derived.Test.YtblfobbeojdihaaGreatDoorBd09
set_option linter.unusedSimpArgs false
set_option linter.unusedVariables false
/- append of one share, of bytes: onto a row of the call's own. -/
namespace G294
open Go Go.RowKit
theorem pair_cells {w : World} {g : Nat} {p q : UInt8} (hc0 : w.cell? ⟨g, 0, none⟩ = some (.int .u8 (p.toNat : Int))) (hc1 : w.cell? ⟨g, 1, none⟩ = some (.int .u8 (q.toNat : Int))) :
    ∀ j u, [Value.int .u8 (p.toNat : Int), Value.int .u8 (q.toNat : Int)][j]? = some u → w.cell? ((⟨g, 0, none⟩ : Addr).add j) = some u := by
  intro j u hj
  rw [Addr.add_lit, Nat.zero_add]
  match j, hj with
  | 0, hj => simp only [List.getElem?_cons_zero, Option.some.injEq] at hj; subst hj; exact hc0
  | 1, hj => simp only [List.getElem?_cons_succ, List.getElem?_cons_zero, Option.some.injEq] at hj; subst hj; exact hc1
theorem pair_one (p q : UInt8) : ∀ u ∈ [Value.int .u8 (p.toNat : Int), Value.int .u8 (q.toNat : Int)], u.oneCell' = true := by
  intro u hu
  simp only [List.mem_cons, List.not_mem_nil, or_false] at hu
  rcases hu with rfl | rfl <;> rfl
theorem srs_snoc (l : List Sr) (p q : UInt8) : srs (l ++ [(p, q)]) = srs l ++ [.int .u8 (p.toNat : Int), .int .u8 (q.toNat : Int)] := by rw [srs_append]; rfl
/-- a row of one element that was laid just now -/
theorem own_new1 (w : World) (e : TypeId) (x : Value) : (w.alloc (.cells #[x] e)).ownsRow w.heap.size e 1 (.slice (some ⟨w.heap.size, 0, none⟩) 1 1) 1 [x] :=
  ⟨rfl, .inr ⟨w.heap.size, 1, #[x], rfl, Nat.le_refl _, heap_alloc_new w _, Nat.le_refl _, by unfold maxLen; omega, rfl, rfl⟩⟩
theorem cell_set2 {w : World} {B o g a b : Nat} {x p q : Value} (h : w.cell? ⟨B, o, none⟩ = some x) (hne : g ≠ B) : ((w.setCell ⟨g, a, none⟩ p).setCell ⟨g, b, none⟩ q).cell? ⟨B, o, none⟩ = some x := by
  rw [World.cell?_setCell_other _ _ _ _ (fun e => hne (by cases e; rfl)), World.cell?_setCell_other _ _ _ _ (fun e => hne (by cases e; rfl))]; exact h
theorem turn_grow {w w1 w2 : World} (k : TurnIn 0 0 w w1) {row : Option Nat} (hg : w1.grownBy w2 row) (hr : ∀ g, row = some g → w.heap.size ≤ g) : TurnIn 0 0 w w2 :=
  ⟨hg.os.trans k.os, hg.tape.trans k.tape, hg.output.trans k.output, Nat.le_trans k.size hg.size, fun j hj _ => (hg.block j (by have := k.size; omega) (fun e => by have := hr j e.symm; omega)).trans (k.block j hj (by omega))⟩
theorem grow_turn {w w2 : World} {base n size : Nat} {e : TypeId} {v : Value} {xs : List Value} (hown : w.ownsRow base e size v n xs) (hg : w.grownBy w2 v.ownBlock) : TurnIn base w.heap.size w w2 :=
  TurnIn.of_grown hg fun g e => hown.lt g e
/-- one share stored into a row of shares -/
theorem row_pair {w : World} {base g m cp k : Nat} {E : TypeId} {L : List Sr} (ho : w.ownsRow base E 2 (.slice (some ⟨g, 0, none⟩) m cp) m (srs L)) (hk : k < m) (x y : UInt8) :
    (∃ a b : UInt8, w.cell? ⟨g, k * 2, none⟩ = some (.int .u8 (a.toNat : Int)) ∧ w.cell? ⟨g, k * 2 + 1, none⟩ = some (.int .u8 (b.toNat : Int))) ∧ w.frozen? ⟨g, k * 2, none⟩ = false ∧ w.frozen? ⟨g, k * 2 + 1, none⟩ = false ∧
    ((w.setCell ⟨g, k * 2, none⟩ (.int .u8 (x.toNat : Int))).setCell ⟨g, k * 2 + 1, none⟩ (.int .u8 (y.toNat : Int))).ownsRow base E 2 (.slice (some ⟨g, 0, none⟩) m cp) m (srs (L.set k (x, y))) := by
  have hL : L.length = m := by have := ho.1; simp at this; omega
  have hkl : k < L.length := by omega
  have hst := ho.stored (k * 2) (.int .u8 (x.toNat : Int))
  have hst2 := hst.1.stored (k * 2 + 1) (.int .u8 (y.toNat : Int))
  rw [srs_set _ k (x, y) hkl] at hst2
  exact ⟨⟨L[k].1, L[k].2, by rw [ho.cellAt (k * 2) (by omega), srs_no _ k hkl], by rw [ho.cellAt (k * 2 + 1) (by omega), srs_data _ k hkl]⟩, ho.frozenAt _, ho.frozenAt _, hst2.1⟩
section
variable {P : Program} {w : World} {ops : Array Oper} {rest : List Oper} {o : Oper} {a : Act} {K : Act → World → Prop} {Q : Exit → Act → World → Prop} {E : Prop}
/-- append(s, share) -/
theorem wpList_appendR (hgd : o.guard = none) (s x : Operand) (t : TypeId) (ho : o.op = .call { callee := .builtin .append, args := #[s, x], argTypes := #[t, t] })
    (base : Nat) (e : TypeId) (z : Value) (bytes : Nat) (ht : P.underlying t = some (.slice e)) (hinfo : (P.info? e).map (fun i => (i.zero, i.size, i.bytes)) = some (some z, 2, bytes)) (hzs : z.cells.size = 2)
    (v : Value) (n : Nat) (l : List Sr) (hs : a.eval s = v) (hown : w.ownsRow base e 2 v n (srs l))
    (g : Nat) (p q : UInt8) (hx : a.eval x = .slice (some ⟨g, 0, none⟩) 1 1) (hc0 : w.cell? ⟨g, 0, none⟩ = some (.int .u8 (p.toNat : Int))) (hc1 : w.cell? ⟨g, 1, none⟩ = some (.int .u8 (q.toNat : Int)))
    (hn : n ≤ 1000000000) (hby : bytes ≤ 1000) (hbase : base ≤ w.heap.size)
    (h : ∀ v' w', w'.ownsRow base e 2 v' (n + 1) (srs (l ++ [(p, q)])) → w.grownBy w' v.ownBlock → (v'.ownBlock = v.ownBlock ∨ v'.ownBlock = some w.heap.size) → wpList P ops Q rest (a.put o.dst v') w') :
    wpList P ops Q (o :: rest) a w := by
  obtain ⟨i, hi, hz, hsz, hbs⟩ := info_parts hinfo
  refine wpList_append_own_at w hgd s x t ho base e i z 2 bytes ht hi hz hsz hbs hzs (by omega) v n (srs l) hs hown ⟨g, 0, none⟩ 1 1 _ hx rfl (pair_cells hc0 hc1) (pair_one p q) ?_ ?_ hbase (fun v' w' h2 h3 _ h5 => h v' w' (by rw [srs_snoc]; exact h2) h3 h5)
  · unfold maxLen; omega
  · have : (n + 1) * bytes ≤ 1000000001 * 1000 := Nat.mul_le_mul (by omega) hby
    omega
/-- the same, as one step of a region that draws its order -/
theorem step_appendR (hgd : o.guard = none) (s x : Operand) (t : TypeId) (ho : o.op = .call { callee := .builtin .append, args := #[s, x], argTypes := #[t, t] })
    (base : Nat) (e : TypeId) (z : Value) (bytes : Nat) (ht : P.underlying t = some (.slice e)) (hinfo : (P.info? e).map (fun i => (i.zero, i.size, i.bytes)) = some (some z, 2, bytes)) (hzs : z.cells.size = 2)
    (v : Value) (n : Nat) (l : List Sr) (hs : a.eval s = v) (hown : w.ownsRow base e 2 v n (srs l))
    (g : Nat) (p q : UInt8) (hx : a.eval x = .slice (some ⟨g, 0, none⟩) 1 1) (hc0 : w.cell? ⟨g, 0, none⟩ = some (.int .u8 (p.toNat : Int))) (hc1 : w.cell? ⟨g, 1, none⟩ = some (.int .u8 (q.toNat : Int)))
    (hn : n ≤ 1000000000) (hby : bytes ≤ 1000) (hbase : base ≤ w.heap.size)
    (h : ∀ v' w', w'.ownsRow base e 2 v' (n + 1) (srs (l ++ [(p, q)])) → w.grownBy w' v.ownBlock → (v'.ownBlock = v.ownBlock ∨ v'.ownBlock = some w.heap.size) → K (a.put o.dst v') w') :
    if Region.wanted o (yielded ops a.tmps) = true then Oper.wp P o a w K Q else E := by
  have hw : Region.wanted o (yielded ops a.tmps) = true := by simp [Region.wanted, hgd]
  rw [if_pos hw]
  obtain ⟨i, hi, hz, hsz, hbs⟩ := info_parts hinfo
  obtain ⟨v', w', hrun, r1, r2, _, r4⟩ := run_append_own_at (P := P) w base t o.type e i z 2 bytes ht hi hz hsz hbs hzs (by omega) v n (srs l) hown ⟨g, 0, none⟩ 1 1 _ rfl (pair_cells hc0 hc1) (pair_one p q) (by unfold maxLen; omega) (by
    have : (n + 1) * bytes ≤ 1000000001 * 1000 := Nat.mul_le_mul (by omega) hby
    omega) hbase
  unfold Oper.wp execOp
  simp only [ho, resolve, invoke, builtin, Sem.run_bind, Sem.run_pure, Result.andThen_ok, List.map_toArray, List.map_cons, List.map_nil, hs, hx, hrun]
  exact h v' w' (by rw [srs_snoc]; exact r1) r2 r4
/-- a slice of no element without an array has no room -/
def NilOk (v : Value) : Prop := ∀ c, v = .slice none 0 c → c = 0
theorem OwnBytes.nilOk {F : TypeId} {lo hi : Nat} {v : Value} {l : List UInt8} (h : OwnBytes F w lo hi v l) : NilOk v := fun c e => by
  rcases h.1.2 with ⟨rfl, _⟩ | ⟨g, cap, cur, rfl, _⟩
  · simp only [Value.slice.injEq] at e; omega
  · simp at e
/-- append(s, bytes...) -/
theorem wpList_appendB (hgd : o.guard = none) (s x : Operand) (t : TypeId) (ho : o.op = .call { callee := .builtin .append, args := #[s, x], argTypes := #[t, t] })
    (base : Nat) (e : TypeId) (ht : P.underlying t = some (.slice e)) (hinfo : (P.info? e).map (fun i => (i.zero, i.size, i.bytes)) = some (some (.int .u8 0), 1, 1))
    (v : Value) (n : Nat) (l m : List UInt8) (hs : a.eval s = v) (hown : w.ownsRow base e 1 v n (bys l)) (u : Value) (hx : a.eval x = u) (hu : Seen w u (bys m)) (hN : NilOk u)
    (hn : n + m.length ≤ 1000000000) (hbase : base ≤ w.heap.size)
    (h : ∀ v' w', w'.ownsRow base e 1 v' (n + m.length) (bys (l ++ m)) → w.grownBy w' v.ownBlock → wpList P ops Q rest (a.put o.dst v') w') :
    wpList P ops Q (o :: rest) a w := by
  obtain ⟨i, hi, hz, hsz, hbs⟩ := info_parts hinfo
  obtain ⟨A, c, rfl, hlc, hcm, hc⟩ := hu
  rw [bys_length] at *
  cases A with
  | none =>
    have hm0 : m.length = 0 := by
      rcases Nat.eq_zero_or_pos m.length with h' | h'
      · exact h'
      · obtain ⟨b, off, e', _⟩ := hc h'; simp at e'
    have hc0 := hN c (by rw [hm0])
    have hm : m = [] := List.eq_nil_of_length_eq_zero hm0
    subst hm hc0
    refine wpList_append_own_none hgd s x t ho base e i 1 ht hi v n (bys l) hs hown hx (h v w (by simpa using hown) (World.grownBy.refl _ _))
  | some ad =>
    refine wpList_append_own_at w hgd s x t ho base e i _ 1 1 ht hi hz hsz hbs rfl (by omega) v n (bys l) hs hown ad m.length c (bys m) hx (by simp) (fun j y hj => ?_) (fun y hy => bys_one y m hy) (by unfold maxLen; omega) (by omega) hbase (fun v' w' h2 h3 _ h5 => h v' w' (by rw [bys_append]; exact h2) h3)
    have hj' : j < m.length := by have := (List.getElem?_eq_some_iff.1 hj).1; simpa using this
    obtain ⟨b, off, e', _, hcc⟩ := hc (by omega)
    simp only [Option.some.injEq] at e'
    subst e'
    rw [Addr.add_lit]
    exact hcc j y hj
end
end G294

/- slices.Concat of two lists of shares, and the program's RandomFor. -/
namespace G294
open Go Go.RowKit
theorem OwnSr.nilOk {w : World} {F : TypeId} {lo hi : Nat} {v : Value} {l : List Sr} (h : OwnSr F w lo hi v l) : NilOk v := fun c e => by
  rcases h.1.2 with ⟨rfl, _⟩ | ⟨g, cap, cur, rfl, _⟩
  · simp only [Value.slice.injEq] at e; omega
  · simp at e
theorem SeenR.flat {w : World} {A : Option Addr} {n c : Nat} {l : List Sr} (h : SeenR w (.slice A n c) l) (hp : 0 < l.length) : ∃ b off, A = some ⟨b, off, none⟩ ∧ b < w.heap.size ∧ ∀ j u, (srs l)[j]? = some u → w.cell? ((⟨b, off, none⟩ : Addr).add j) = some u := by
  obtain ⟨A', c', e, _, _, h3⟩ := h
  simp only [Value.slice.injEq] at e
  obtain ⟨rfl, _, _⟩ := e
  obtain ⟨b, off, rfl, hb, hc⟩ := h3 hp
  refine ⟨b, off, rfl, hb, fun j u hu => ?_⟩
  have hj : j < l.length * 2 := by have := (List.getElem?_eq_some_iff.1 hu).1; simpa using this
  rw [Addr.add_lit]
  obtain ⟨i, rfl | rfl⟩ : ∃ i, j = i * 2 ∨ j = i * 2 + 1 := ⟨j / 2, by omega⟩
  · have hi : i < l.length := by omega
    rw [srs_no l i hi] at hu
    rw [← hu]
    exact (hc i _ (List.getElem?_eq_getElem hi)).1
  · have hi : i < l.length := by omega
    rw [srs_data l i hi] at hu
    rw [← hu, ← Nat.add_assoc]
    exact (hc i _ (List.getElem?_eq_getElem hi)).2
theorem srs_oneR (l : List Sr) : ∀ u ∈ srs l, u.oneCell' = true := srs_oneC l
section
variable {P : Program} {w : World} {ops : Array Oper} {rest : List Oper} {o : Oper} {a : Act} {K : Act → World → Prop} {Q : Exit → Act → World → Prop} {E : Prop}
/-- append(s, shares...) -/
theorem wpList_appendRs (hgd : o.guard = none) (s x : Operand) (t : TypeId) (ho : o.op = .call { callee := .builtin .append, args := #[s, x], argTypes := #[t, t] })
    (base : Nat) (e : TypeId) (z : Value) (bytes : Nat) (ht : P.underlying t = some (.slice e)) (hinfo : (P.info? e).map (fun i => (i.zero, i.size, i.bytes)) = some (some z, 2, bytes)) (hzs : z.cells.size = 2) (hby : bytes ≤ 1000)
    (v : Value) (n : Nat) (l m : List Sr) (hs : a.eval s = v) (hown : w.ownsRow base e 2 v n (srs l)) (u : Value) (hx : a.eval x = u) (hu : SeenR w u m) (hN : NilOk u)
    (hn : n + m.length ≤ 1000000000) (hbase : base ≤ w.heap.size)
    (h : ∀ v' w', w'.ownsRow base e 2 v' (n + m.length) (srs (l ++ m)) → w.grownBy w' v.ownBlock → wpList P ops Q rest (a.put o.dst v') w') :
    wpList P ops Q (o :: rest) a w := by
  obtain ⟨i, hi, hz, hsz, hbs⟩ := info_parts hinfo
  have hu0 := hu
  obtain ⟨A, c, rfl, hlc, hcm, hc⟩ := hu
  cases A with
  | none =>
    have hm0 : m.length = 0 := by
      rcases Nat.eq_zero_or_pos m.length with h' | h'
      · exact h'
      · obtain ⟨b, off, e', _⟩ := hc h'; simp at e'
    have hc0 := hN c (by rw [hm0])
    have hm : m = [] := List.eq_nil_of_length_eq_zero hm0
    subst hm hc0
    refine wpList_append_own_none hgd s x t ho base e i 2 ht hi v n (srs l) hs hown hx (h v w (by simpa using hown) (World.grownBy.refl _ _))
  | some ad =>
    refine wpList_append_own_at w hgd s x t ho base e i _ 2 bytes ht hi hz hsz hbs hzs (by omega) v n (srs l) hs hown ad m.length c (srs m) hx (by simp) (fun j y hj => ?_) (srs_oneR m) (by unfold maxLen; omega) (by
      have : (n + m.length) * bytes ≤ 1000000000 * 1000 := Nat.mul_le_mul hn hby
      omega) hbase (fun v' w' h2 h3 _ h5 => h v' w' (by rw [srs_append]; exact h2) h3)
    have hj' : 0 < m.length := by have := (List.getElem?_eq_some_iff.1 hj).1; simp at this; omega
    obtain ⟨b, off, e', _, hcc⟩ := hu0.flat hj'
    simp only [Option.some.injEq] at e'
    subst e'
    exact hcc j y hj
end
end G294
namespace Go.Proofs.YtblfobbeojdihaaGreatDoor
open Go.RowKit G294

end Go.Proofs.YtblfobbeojdihaaGreatDoor

/- RandomFor: the program's. -/
namespace G294
open Go Go.RowKit
theorem rndOk_no {l : List Sr} (h : shrOk l = false) : rndOk l = false := by simp [rndOk, h]
theorem rndOk_big {l : List Sr} (h : ¬ l.length ≤ 8) : rndOk l = false := by simp [rndOk, h]
theorem rndOk_yes {l : List Sr} (h : shrOk l = true) (h2 : l.length ≤ 8) : rndOk l = true := by simp [rndOk, h, h2]
theorem rndR_yes {l : List Sr} {s : UInt8} (h : rndOk l = true) : rndR l s = rndL l s := if_pos h
theorem rndR_no {l : List Sr} {s : UInt8} (h : rndOk l = false) : rndR l s = [] := if_neg (by rw [h]; simp)
theorem rndL_length (l : List Sr) (s : UInt8) : (rndL l s).length = l.length := by simp [rndL]
theorem rndL_get (l : List Sr) (s : UInt8) (h : l.length ≤ 19) (j : Nat) (hj : j < (rndL l s).length) : (rndP l s)[j + 1]? = some (rndL l s)[j] := by
  have hl := rnd_len l s
  have hj' : j < l.length := by rw [rndL_length] at hj; exact hj
  have : j + 1 < (rndP l s).length := by omega
  have e : (rndL l s)[j] = (rndP l s).getD (j + 1) 0 := mkRow_get _ _ _ hj
  rw [List.getElem?_eq_getElem this, e]
  simp [List.getD, this]
theorem own_full {w : World} {base g n : Nat} {e : TypeId} {xs : List Value} (h : w.ownsRow base e 1 (.slice (some ⟨g, 0, none⟩) n n) n xs) : w.heap[g]? = some (.cells xs.toArray e (0, 0)) ∧ base ≤ g := by
  rcases h.2 with ⟨e1, _⟩ | ⟨g', cap, cur, e1, hb, hg, hnc, hcm, hcs, ht⟩
  · simp at e1
  · simp only [Value.slice.injEq, Option.some.injEq, Addr.mk.injEq] at e1
    obtain ⟨⟨rfl, _, _⟩, _, rfl⟩ := e1
    refine ⟨?_, hb⟩
    rw [hg, ← ht, List.take_of_length_le (by simp; omega)]
theorem own_of_full {w : World} {g n : Nat} {e : TypeId} {xs : List Value} (h : w.heap[g]? = some (.cells xs.toArray e (0, 0))) (hx : xs.length = n) (hn : n ≤ 1000) {base : Nat} (hb : base ≤ g) : w.ownsRow base e 1 (.slice (some ⟨g, 0, none⟩) n n) n xs :=
  ⟨by omega, .inr ⟨g, n, xs.toArray, rfl, hb, h, Nat.le_refl _, by unfold maxLen; omega, by simp [hx], by simpa using List.take_of_length_le (by omega)⟩⟩
theorem splice_all (z xs : List Value) (h : z.length = xs.length) : splice z 0 xs = xs := by
  unfold splice
  rw [Nat.zero_add, List.drop_of_length_le (by omega)]; simp
theorem own_pair (w : World) (e : TypeId) (x y : UInt8) : SeenR (w.alloc (.cells #[.int .u8 (x.toNat : Int), .int .u8 (y.toNat : Int)] e)) (.slice (some ⟨w.heap.size, 0, none⟩) 1 1) [(x, y)] :=
  ⟨_, 1, rfl, Nat.le_refl _, by unfold maxLen; omega, fun _ => ⟨w.heap.size, 0, rfl, by simp, fun i s hs => by
    match i, hs with
    | 0, hs => simp at hs; subst hs; exact ⟨by simp, by simp⟩⟩⟩
end G294
namespace Go.Proofs.YtblfobbeojdihaaGreatDoor
open Go.RowKit G294

end Go.Proofs.YtblfobbeojdihaaGreatDoor

/- A matrix of the call's own whose rows' slice lies in a box: it stands, it grows by a row, it grows by a matrix. -/
namespace G294
open Go Go.RowKit
structure MatBox (E EE : TypeId) (lo B : Nat) (L : Mat) (v : Value) (vs : List Value) (w : World) : Prop where
  own : OwnM E EE w lo w.heap.size v L vs
  cell : w.cell? ⟨B, 0, none⟩ = some v
  fro : w.frozen? ⟨B, 0, none⟩ = false
  lt : B < w.heap.size
  ne : v.ownBlock ≠ some B
  rne : ∀ u ∈ vs, u.ownBlock ≠ some B
section
variable {E EE : TypeId} {lo B a b : Nat} {L M : Mat} {v v' u : Value} {vs us : List Value} {w W w1 : World} {r : List UInt8}
theorem MatBox.turn (h : MatBox E EE lo B L v vs w) (k : TurnIn 0 0 w W) : MatBox E EE lo B L v vs W :=
  ⟨(h.own.keep k (by omega)).wider (Nat.le_refl _) k.size (Nat.le_refl _), cell_turn k h.cell h.lt, frozen_turn k h.fro h.lt, Nat.lt_of_lt_of_le h.lt k.size, h.ne, h.rne⟩
/-- it is put into a new box -/
theorem MatBox.new (h : OwnM E EE w lo w.heap.size v L vs) (t : TypeId) : MatBox E EE lo w.heap.size L v vs (w.alloc (.cells #[v] t)) :=
  have a1 := turn_alloc w (.cells #[v] t)
  have hs : (w.alloc (.cells #[v] t)).heap.size = w.heap.size + 1 := World.size_alloc _ _
  ⟨(h.keep a1 (by omega)).wider (Nat.le_refl _) (by omega) (Nat.le_refl _), alloc_cell w v t, by simp, by omega, fun e => by have := h.out _ e; omega, fun x hx e => by have := (h.rowBlock x hx _ e).2; omega⟩
theorem MatBox.push (h : MatBox E EE lo B L v vs w) (k : TurnIn 0 0 w W) (hu : OwnBytes E W a b u r) (h1 : w.heap.size ≤ a) (hlo : lo ≤ w.heap.size)
    (ho : w1.ownsRow lo EE 1 v' (L.length + 1) (vs ++ [u])) (hg : W.grownBy w1 v.ownBlock) (hv : v'.ownBlock = v.ownBlock ∨ v'.ownBlock = some W.heap.size) :
    MatBox E EE lo B (L ++ [r]) v' (vs ++ [u]) (w1.setCell ⟨B, 0, none⟩ v') := by
  have hM := h.own.push k hu h1 (by omega) ho hg hv
  have hlt := h.lt
  have hsk := k.size
  have hsg := hg.size
  have hvB : v'.ownBlock ≠ some B := by
    rcases hv with e | e
    · rw [e]; exact h.ne
    · rw [e]; simp; omega
  have hrB : ∀ x ∈ vs ++ [u], x.ownBlock ≠ some B := by
    intro x hx e
    rcases List.mem_append.1 hx with h2 | h2
    · exact h.rne x h2 e
    · rw [List.mem_singleton] at h2
      subst h2
      have := (hu.1.lt B e).1
      omega
  have e1 : w1.cell? ⟨B, 0, none⟩ = some v := (cell_past k hg h.ne hlt 0).trans h.cell
  have e2 : w1.frozen? ⟨B, 0, none⟩ = false := (frozen_past k hg h.ne hlt 0).trans h.fro
  exact ⟨(hM.other (grown_set B 0 v') hvB hrB).wider (Nat.le_refl _) (by simp) (Nat.le_refl _), World.cell?_setCell_same _ _ _ e1, by simp [e2], by simp; omega, hvB, hrB⟩
theorem MatBox.join (h : MatBox E EE lo B L v vs w) (k : TurnIn 0 0 w W) (hu : OwnM E EE W a b u M us) (h1 : w.heap.size ≤ a) (hlo : lo ≤ w.heap.size)
    (ho : w1.ownsRow lo EE 1 v' (L.length + M.length) (vs ++ us)) (hg : W.grownBy w1 v.ownBlock) (hv : v'.ownBlock = v.ownBlock ∨ v'.ownBlock = some W.heap.size) :
    MatBox E EE lo B (L ++ M) v' (vs ++ us) (w1.setCell ⟨B, 0, none⟩ v') := by
  have hM := (h.own.keep k (by omega)).join hu h1 (by omega) ho hg hv
  have hlt := h.lt
  have hsk := k.size
  have hsg := hg.size
  have hvB : v'.ownBlock ≠ some B := by
    rcases hv with e | e
    · rw [e]; exact h.ne
    · rw [e]; simp; omega
  have hrB : ∀ x ∈ vs ++ us, x.ownBlock ≠ some B := by
    intro x hx e
    rcases List.mem_append.1 hx with h2 | h2
    · exact h.rne x h2 e
    · have := (hu.rowBlock x h2 B e).1
      omega
  have e1 : w1.cell? ⟨B, 0, none⟩ = some v := (cell_past k hg h.ne hlt 0).trans h.cell
  have e2 : w1.frozen? ⟨B, 0, none⟩ = false := (frozen_past k hg h.ne hlt 0).trans h.fro
  exact ⟨(hM.other (grown_set B 0 v') hvB hrB).wider (Nat.le_refl _) (by simp) (Nat.le_refl _), World.cell?_setCell_same _ _ _ e1, by simp [e2], by simp; omega, hvB, hrB⟩
end
end G294

/- Contracts of DotVectors, the program's and the model's. -/
namespace Go.Proofs.YtblfobbeojdihaaGreatDoor
open Go.RowKit G294

set_option maxHeartbeats 1000000 in
theorem l1Dot_own (v u : Value) (l m : List UInt8) (w : World) (hv : Seen w v (bys l)) (hu : Seen w u (bys m)) (hlen : l.length = m.length) :
    Calls Tryz.prog 79 #[v, u] w (RetByte w (dotL l m)) := by
  obtain ⟨A, c, rfl, hlc, hcm, hx⟩ := hv
  obtain ⟨A', c', rfl, hlc', hcm', hx'⟩ := hu
  rw [bys_length] at hlc hx hlc' hx'
  simp only [bys_length]
  unfold maxLen at hcm hcm'
  have HD : Hid (dotL l m = dotK l m l.length) := rfl
  generalize hnn : l.length = n at *
  generalize hmm : m.length = n' at *
  obtain rfl : n = n' := by omega
  have HN := Lib.hid hnn
  have HM := Lib.hid hmm
  clear hnn hmm
  go_enter Tryz.func79, Tryz.ntmps79
  go_wp2_with fail
  go_loopw [5, 9] (fun o i wr => ∃ k : Nat, k ≤ n ∧ i = .int .i64 k ∧ o = .int .u8 ((dotK l m k).toNat : Int) ∧ Below w.heap.size w wr)
    (fun _ i _ => n - (intOf i).toNat)
  case atStart => exact ⟨0, Nat.zero_le _, rfl, rfl, Below.refl _ _⟩
  case round =>
    obtain ⟨k, hk, rfl, rfl, hb⟩ := hrel
    by_cases hlt : k < n
    · obtain ⟨b, off, rfl, hbl, hcell⟩ := hx (by omega)
      obtain ⟨b', off', rfl, hbl', hcell'⟩ := hx' (by omega)
      have hkl : k < l.length := by rw [HN.out]; exact hlt
      have hkm : k < m.length := by rw [HM.out]; exact hlt
      have hcx : wr.cell? ⟨b, off + k, none⟩ = some (.int .u8 ((l[k]).toNat : Int)) := (hb.cell (p := ⟨b, off + k, none⟩) hbl).trans (hcell k _ (bys_get l k hkl))
      have hcy : wr.cell? ⟨b', off' + k, none⟩ = some (.int .u8 ((m[k]).toNat : Int)) := (hb.cell (p := ⟨b', off' + k, none⟩) hbl').trans (hcell' k _ (bys_get m k hkm))
      have HX := Lib.hid (xor_u8 (dotK l m k) (gmul l[k] m[k]))
      have HS := Lib.hid (dotK_succ l m k hkl hkm)
      clear hcell hcell' hx hx'
      have hki : (k : Int) < (n : Int) := by omega
      go_wp2_with fail
      go_quiet ((go_at_call 62; exact quietly (l1Times_u8 _ _ _)))
      go_wp2_with fail
      go_roundw
      case rel => exact ⟨k + 1, by omega, by go_num, by rw [HX.out, HS.out], below_drewN hb _⟩
      case measure => simp [intOf]; omega
    · obtain rfl : k = n := by omega
      have hki : ¬ (k : Int) < (k : Int) := by omega
      go_wp2_with fail
      go_ret
      exact ⟨by rw [HD.out]; rfl, TurnIn.of_below hb⟩

end Go.Proofs.YtblfobbeojdihaaGreatDoor

/- RandomFor: the model's. -/
namespace G294
open Go Go.RowKit
/-- a matrix applied to a vector -/
def aplL (r c : Nat) (F : Ents) (b : List UInt8) : List UInt8 := mkRow r fun i => dotL (mkRow c (F i)) b
theorem rnd_apply {l : List Sr} (h : shrOk l = true) (h19 : l.length ≤ 19) (s : UInt8) : aplL l.length l.length (bst (rndF l) idF l.length l.length) (mkRow l.length fun k => yF l k ^^^ s) = rndL l s := by
  refine mkRow_congr fun i hi => ?_
  show dotL _ _ = _
  rw [← rnd_sol h h19 s hi]
  unfold dotL
  rw [mkRow_length, dotK_sum]
  exact sumK_congr fun k hk => by rw [mkRow_getD _ _ _ hk, mkRow_getD _ _ _ hk]
theorem World.cell_alloc_eq (w : World) (B : Nat) (v x : Value) (T : TypeId) : ((w.setCell ⟨B, 0, none⟩ v).alloc (.cells #[x] T)).cell? ⟨w.heap.size, 0, none⟩ = some x := by
  have h := alloc_cell (w.setCell ⟨B, 0, none⟩ v) x T
  have e : (w.setCell ⟨B, 0, none⟩ v).heap.size = w.heap.size := by simp
  rw [e] at h; exact h
/-- a matrix in a box and, apart from it, a row of bytes -/
structure MatAnd (E EE : TypeId) (lo B : Nat) (L : Mat) (v : Value) (vs : List Value) (y : Value) (n : Nat) (ys : List UInt8) (w : World) : Prop where
  box : MatBox E EE lo B L v vs w
  row : w.ownsRow lo E 1 y n (bys ys)
  ne : ∀ g, y.ownBlock = some g → v.ownBlock ≠ some g ∧ (∀ u ∈ vs, u.ownBlock ≠ some g) ∧ g ≠ B
section
variable {E EE : TypeId} {lo B n : Nat} {L : Mat} {v v' u y y' : Value} {vs : List Value} {ys r : List UInt8} {w W w1 : World}
theorem MatAnd.turn (h : MatAnd E EE lo B L v vs y n ys w) (k : TurnIn 0 0 w W) : MatAnd E EE lo B L v vs y n ys W := ⟨h.box.turn k, own_below h.row k.to_below, h.ne⟩
/-- the matrix grows by a row -/
theorem MatAnd.push {a b : Nat} (h : MatAnd E EE lo B L v vs y n ys w) (k : TurnIn 0 0 w W) (hu : OwnBytes E W a b u r) (h1 : w.heap.size ≤ a) (hlo : lo ≤ w.heap.size)
    (ho : w1.ownsRow lo EE 1 v' (L.length + 1) (vs ++ [u])) (hg : W.grownBy w1 v.ownBlock) (hv : v'.ownBlock = v.ownBlock ∨ v'.ownBlock = some W.heap.size) :
    MatAnd E EE lo B (L ++ [r]) v' (vs ++ [u]) y n ys (w1.setCell ⟨B, 0, none⟩ v') := by
  have hylt : ∀ g, y.ownBlock = some g → g < w.heap.size := fun g e => (h.row.lt g e).2
  have hsk := k.size
  refine ⟨h.box.push k hu h1 hlo ho hg hv, ?_, fun g e => ⟨?_, ?_, (h.ne g e).2.2⟩⟩
  · have r1 := own_other (own_below h.row k.to_below) hg (fun g e e' => (h.ne g e).1 e')
    exact own_other r1 (grown_set B 0 v') (fun g e e' => (h.ne g e).2.2 (by cases e'; rfl))
  · rcases hv with e' | e'
    · rw [e']; exact (h.ne g e).1
    · rw [e']; simp; have := hylt g e; omega
  · intro x hx e'
    rcases List.mem_append.1 hx with h2 | h2
    · exact (h.ne g e).2.1 x h2 e'
    · rw [List.mem_singleton] at h2
      subst h2
      have := (hu.1.lt g e').1
      have := hylt g e
      omega
/-- the row grows -/
theorem MatAnd.more {m : Nat} {zs : List UInt8} (h : MatAnd E EE lo B L v vs y n ys w) (k : TurnIn 0 0 w W) (ho : w1.ownsRow lo E 1 y' m (bys zs)) (hg : W.grownBy w1 y.ownBlock) (hy : y'.ownBlock = y.ownBlock ∨ y'.ownBlock = some W.heap.size) : MatAnd E EE lo B L v vs y' m zs w1 := by
  have hb := (h.box.turn k)
  have hsk := k.size
  have hsg := hg.size
  have hrb := hb.own.rowBlock
  have hob : ∀ g, v.ownBlock = some g → g < W.heap.size := fun g e => hb.own.out g e
  have hne : ∀ g, y'.ownBlock = some g → v.ownBlock ≠ some g ∧ (∀ u ∈ vs, u.ownBlock ≠ some g) ∧ g ≠ B := by
    intro g e
    rcases hy with e' | e'
    · exact h.ne g (by rw [← e', e])
    · rw [e'] at e
      simp only [Option.some.injEq] at e
      subst e
      exact ⟨fun e2 => by have := hob _ e2; omega, fun x hx e2 => by have := (hrb x hx _ e2).2; omega, by have := hb.lt; omega⟩
  refine ⟨?_, ho, hne⟩
  cases hyb : y.ownBlock with
  | none =>
    rw [hyb] at hg
    have t : TurnIn 0 0 W w1 := TurnIn.of_grown hg fun g e => by simp at e
    exact hb.turn t
  | some g0 =>
    rw [hyb] at hg
    obtain ⟨n1, n2, n3⟩ := h.ne g0 hyb
    have e1 : w1.heap[B]? = W.heap[B]? := hg.block B hb.lt (fun e => n3 (by cases e; rfl))
    exact ⟨(hb.own.other hg n1 n2).wider (Nat.le_refl _) hsg (Nat.le_refl _), (World.cell?_of_block e1).trans hb.cell, (World.frozen?_of_block e1).trans hb.fro, by have := hb.lt; omega, hb.ne, hb.rne⟩
end
end G294
namespace Go.Proofs.YtblfobbeojdihaaGreatDoor
open Go.RowKit G294

set_option maxRecDepth 100000 in
set_option maxHeartbeats 1000000 in
theorem l2Apply_own (r c : Nat) (F : Ents) (v u : Value) (b : List UInt8) (w : World) (hs : SeenM w v (mkM r c F)) (hu : Seen w u (bys b)) (hb : b.length = c) (hr : r ≤ 1000) :
    Calls Tryz.prog 50 #[.agg #[v], u] w (RetBytes 5 w (aplL r c F b)) := by
  have a1 := turn_alloc w (.cells #[v] 70)
  have HS := Lib.hid (hs.touch a1)
  have HU := Lib.hid (hu.touch a1)
  obtain ⟨A, cp, rfl, hlc, hcm⟩ := hs.len
  obtain ⟨A2, c2, hvu⟩ := hu.len
  rw [bys_length, hb] at hvu
  subst hvu
  have HBL := Lib.hid hb
  rw [mkM_length] at hlc
  simp only [mkM_length] at *
  unfold maxLen at hcm
  have hc0 := alloc_cell w (.slice A r cp) 70
  have zz := World.size_alloc w (.cells #[.slice A r cp] 70)
  have HAP : Hid (aplL r c F b = mkRow r fun i => dotL (mkRow c (F i)) b) := rfl
  clear hs hu hb
  go_enter Tryz.func50, Tryz.ntmps50
  go_wp2_with fail
  generalize hW : w.alloc (.cells #[.slice A r cp] 70) = W0 at *
  have HZZ := Lib.hid zz
  have zle : w.heap.size ≤ W0.heap.size := by omega
  clear hW zz
  go_loopw [5, 11] (fun o i wr => ∃ k : Nat, k ≤ r ∧ i = .int .i64 k ∧ wr.ownsRow W0.heap.size 5 1 o k (bys (mkRow k fun i => dotL (mkRow c (F i)) b)) ∧ TurnIn 0 0 W0 wr)
    (fun _ i _ => r - (intOf i).toNat)
  case atStart => exact ⟨0, Nat.zero_le _, rfl, World.ownsRow_nil _ _ _ _, TurnIn.refl _⟩
  case round =>
    obtain ⟨k, hk, rfl, ho, k5⟩ := hrel
    by_cases hlt : k < r
    · have hki : (k : Int) < (r : Int) := by omega
      obtain ⟨bb, off, cp5, A1, c1, hvv, _, hbb, hcx, hc9, hsr⟩ := (HS.out.touch k5).rowF k hlt
      simp only [Value.slice.injEq] at hvv
      obtain ⟨rfl, z9, rfl⟩ := hvv
      have HSR := Lib.hid hsr
      have HOW := Lib.hid ho
      clear z9 hsr ho
      go_wp2_with fail
      refine (l1Dot_own _ _ (mkRow c (F k)) b _ HSR.out (HU.out.touch k5) (by rw [mkRow_length]; exact HBL.out.symm)).mono ?_
      rintro e w6 ⟨rfl, k6⟩
      have k7 := turn_trans k5 k6 (by omega)
      have z7 := k7.size
      obtain ⟨y, hy⟩ : ∃ y, y = dotL (mkRow c (F k)) b := ⟨_, rfl⟩
      rw [← hy]
      have HROW : Hid ((mkRow k fun i => dotL (mkRow c (F i)) b) ++ [y] = mkRow (k + 1) fun i => dotL (mkRow c (F i)) b) := by show _ = _; rw [hy, mkRow_succ]
      have HO6 := Lib.hid ((owns_turn0 HOW.out k6).alloc (.cells #[.int .u8 (y.toNat : Int)] 5))
      clear hy
      go_wp2_with (at_builtin; refine wpList_append1 rfl _ _ _ rfl _ 5 _ _ Tryz.underlying22 infoByte rfl _ k _ rfl HO6.out w6.heap.size (.int .u8 (y.toNat : Int)) rfl ?c1 rfl ?c2 ?c3 ?c4 ?_)
      case c1 => simp
      case c2 => omega
      case c3 => omega
      case c4 => simp; omega
      intro v' w8 ho8 hg8 _
      have hon : w8.ownsRow W0.heap.size 5 1 v' (k + 1) (bys (mkRow (k + 1) fun i => dotL (mkRow c (F i)) b)) := by rw [← HROW.out, bys_append]; exact ho8
      have k8 : TurnIn 0 0 W0 w8 := turn_grow (turn_trans k7 (turn_alloc w6 _) (by omega)) hg8 (fun g e => (HO6.out.lt g e).1)
      clear ho8 hg8 HO6
      go_wp2_with fail
      go_roundw
      case rel => exact ⟨k + 1, by omega, by go_num, hon, k8⟩
      case measure => simp [intOf]; omega
    · obtain rfl : k = r := by omega
      have hki : ¬ (k : Int) < (k : Int) := by omega
      have HA1 := Lib.hid a1
      go_wp2_with fail
      go_ret
      refine ⟨_, rfl, ?_, turn_trans HA1.out k5 (by omega)⟩
      rw [HAP.out]
      exact OwnBytes.of_made (w := w) (by rw [mkRow_length]; exact own_base ho (by omega))

theorem l1Power_uR (x : UInt8) (n : Nat) (m : Int) (hm : m = (n : Int)) (hn : n ≤ 10000) (w : World) : Calls Tryz.prog 48 #[.int .u8 (x.toNat : Int), .int .i64 m] w fun e w' => e = .returned (.int .u8 ((powB x n).toNat : Int)) ∧ w = w' := by
  rw [powB_toNat, hm]; exact l1Power_any _ _ x.toNat_lt hn w

end Go.Proofs.YtblfobbeojdihaaGreatDoor

/- Chapter 8: the matrix of syndromes and the locator: the model's. -/
namespace G294
open Go Go.RowKit
theorem han_row {s : List UInt8} {n k : Nat} (h : k + n ≤ s.length) : mkRow n (hanF s k) = (s.drop k).take n := by
  refine ext_getD (by rw [mkRow_length, List.length_take, List.length_drop]; omega) fun j hj => ?_
  rw [mkRow_length] at hj
  rw [mkRow_getD _ _ _ hj]
  simp [hanF, List.getD, List.getElem?_take, hj]
theorem apl_loc {s : List UInt8} {n : Nat} (h : 2 * n ≤ s.length) : aplL n n (bst (hanF s) idF n n) ((s.drop n).take n) = locSol s n := by
  unfold aplL locSol
  refine mkRow_congr fun i hi => ?_
  rw [bst_lin _ _ _ _ _ _ hi]
  unfold dotL
  rw [mkRow_length, dotK_sum]
  refine sumK_congr fun k hk => ?_
  rw [mkRow_getD _ _ _ hk]
  congr 1
  simp [List.getD, List.getElem?_take, hk]
theorem rev_drop {l : List UInt8} {m : Nat} (h : m < l.length) : (1 :: (l.drop (m + 1)).reverse) ++ [l.getD m 0] = 1 :: (l.drop m).reverse := by
  rw [List.drop_eq_getElem_cons h, List.reverse_cons, List.cons_append]
  simp [List.getD, h]
end G294
namespace Go.Proofs.YtblfobbeojdihaaGreatDoor
open Go.RowKit G294

set_option maxRecDepth 100000 in
set_option maxHeartbeats 1000000 in
theorem l8Hankel_own (n q c : Nat) (A : Option Addr) (s : List UInt8) (w : World) (hs : Seen w (.slice A q c) (bys s)) (hq : s.length = q) (hn : n ≤ 100) (hbl : 2 * n ≤ q) (hqb : q ≤ 1000) : Calls Tryz.prog 76 #[.slice A q c, .int .i64 (n : Int)] w (RetMat 5 22 w (mkM n n (hanF s))) := by
  have hb0 : Below w.heap.size w (w.alloc (.cells #[.slice none 0 0] 70)) := (Below.refl _ _).alloc (Nat.le_refl _) _
  have hb1 : Below w.heap.size w ((w.alloc (.cells #[.slice none 0 0] 70)).alloc (.cells #[.slice none 0 0] 70)) := hb0.alloc (by simp) _
  have hsz : ((w.alloc (.cells #[.slice none 0 0] 70)).alloc (.cells #[.slice none 0 0] 70)).heap.size = w.heap.size + 2 := by simp
  have hM0 : OwnM 5 22 ((w.alloc (.cells #[.slice none 0 0] 70)).alloc (.cells #[.slice none 0 0] 70)) (w.heap.size + 2) (w.heap.size + 2) (.slice none 0 0) (mkM 0 n (hanF s)) [] := hsz ▸ OwnM.nil _ _ _ _
  obtain ⟨q1, q2⟩ := boxes2c (w := w) (v := .slice none 0 0) (v' := .slice none 0 0) (T := 70) (T' := 70)
  have q2f : ((w.alloc (.cells #[.slice none 0 0] 70)).alloc (.cells #[.slice none 0 0] 70)).frozen? ⟨w.heap.size + 1, 0, none⟩ = false := by simp
  have q1f : ((w.alloc (.cells #[.slice none 0 0] 70)).alloc (.cells #[.slice none 0 0] 70)).frozen? ⟨w.heap.size, 0, none⟩ = false := by simp
  have hqc : q ≤ c := by
    obtain ⟨_, _, e, h1, h2, _⟩ := hs
    simp only [Value.slice.injEq, bys_length] at e h1
    omega
  have HSR : Hid (∀ k W, k < n → Below w.heap.size w W → ∃ b off, A = some ⟨b, off, none⟩ ∧ b < W.heap.size ∧ ∀ W', Below W.heap.size W W' → ∀ j y, (bys (mkRow n (hanF s k)))[j]? = some y → W'.cell? ((⟨b, off + k, none⟩ : Addr).add j) = some y) := fun k W hk hb => by
    have h1 := hs.below hb
    rw [← hq] at h1
    obtain ⟨b, off, e, hr⟩ := sub_row h1 (a := k) (m := n) (by omega) (by omega)
    rw [← han_row (by omega)] at hr
    obtain ⟨b', off', c', e2, hbl', _, hc⟩ := seen_cellsB hr (by simp; omega)
    simp only [Value.slice.injEq, Option.some.injEq, Addr.mk.injEq, and_true] at e2
    obtain ⟨⟨rfl, rfl⟩, _, _⟩ := e2
    exact ⟨b, off, e, hbl', fun W' h j y hj => hc W' h j y hj⟩
  have HSZ := Lib.hid hsz
  clear hsz hs
  go_enter Tryz.func76, Tryz.ntmps76
  go_wp2_with fail
  go_loopw [6] (fun i wr => ∃ (k : Nat) (o : Value) (vs : List Value), k ≤ n ∧ i = .int .i64 k ∧ OwnM 5 22 wr (w.heap.size + 2) wr.heap.size o (mkM k n (hanF s)) vs ∧
      wr.cell? ⟨w.heap.size + 1, 0, none⟩ = some o ∧ wr.frozen? ⟨w.heap.size + 1, 0, none⟩ = false ∧ wr.cell? ⟨w.heap.size, 0, none⟩ = some (.slice none 0 0) ∧ wr.frozen? ⟨w.heap.size, 0, none⟩ = false ∧ Below w.heap.size w wr ∧ w.heap.size + 2 ≤ wr.heap.size)
    (fun i _ => n - (intOf i).toNat)
  case atStart => exact ⟨0, .slice none 0 0, [], Nat.zero_le _, rfl, hM0.wider (Nat.le_refl _) (by rw [HSZ.out]; exact Nat.le_refl _) (Nat.le_refl _), q2, q2f, q1, q1f, hb1, by rw [HSZ.out]; exact Nat.le_refl _⟩
  case round =>
    obtain ⟨k, o, vs, hk, rfl, hM, hc2, hf2, hcr, hfr, hb, hsz⟩ := hrel
    clear hM0 hb1 hb0 q2 q2f q1 q1f
    by_cases hlt : k < n
    · have hki : (k : Int) < (n : Int) := by omega
      have hrow : wr.ownsRow (w.heap.size + 2) 22 1 o k vs := by simpa using hM.row
      obtain ⟨B, m, co, rfl⟩ := hM.isSlice
      obtain ⟨b0, off0, rfl, hb0, hX⟩ := HSR.out k wr hlt hb
      obtain ⟨z, hz⟩ : ∃ z, z = k + n := ⟨_, rfl⟩
      have hzk : k ≤ z := by omega
      have hzc : z ≤ c := by omega
      have hkc : k < c := by omega
      have hzn : z - k = n := by omega
      have hkz : (k : Int) + (n : Int) = (z : Int) := by omega
      have hsl1 : ∀ W, (Instr.sliceAt 22 (.slice (some ⟨b0, off0, none⟩) q c) (some (.int .i64 (k : Int))) (some (.int .i64 (z : Int))) none).run Tryz.prog W = .ok (.slice (some ⟨b0, off0 + k, none⟩) n (c - k)) W := fun W => by
        have := sliceLH b0 off0 q c k z hzk hzc hkc W
        rwa [hzn] at this
      have hsl2 : ∀ W, (Instr.slice 22 (.slice (some ⟨b0, off0, none⟩) q c) (some (.int .i64 (k : Int))) (some (.int .i64 (z : Int))) none).run Tryz.prog W = .ok (.slice (some ⟨b0, off0 + k, none⟩) n (c - k)) W := fun W => by
        have := sliceLHb b0 off0 q c k z hzk hzc hkc W
        rwa [hzn] at this
      have hzb : z ≤ 2000 := by omega
      have hwz : IntKind.i64.wrap (z : Int) = (z : Int) := IntWalk.i64_in _ (by omega)
      clear hz hzn
      have kA : TurnIn 0 0 wr (wr.alloc (.cells #[] 5)).drew := TurnIn.of_below ((Below.refl _ _).alloc (Nat.le_refl _) _).drew
      have hob : ∀ g, (Value.slice B m co).ownBlock = some g → w.heap.size + 2 ≤ g := fun g e => (hrow.lt g e).1
      have hne2 : (Value.slice B m co).ownBlock ≠ some (w.heap.size + 1) := fun e => by have := hob _ e; omega
      have hne1 : (Value.slice B m co).ownBlock ≠ some w.heap.size := fun e => by have := hob _ e; omega
      have hown0 : (wr.alloc (.cells #[] 5)).drew.ownsRow wr.heap.size 5 1 (.slice (some ⟨wr.heap.size, 0, none⟩) 0 0) 0 [] := (World.ownsRow_lit wr #[] 0 (Nat.le_refl _) (by unfold maxLen; omega) rfl).drew
      have hcA : (wr.alloc (.cells #[] 5)).cell? ⟨w.heap.size + 1, 0, none⟩ = some (.slice B m co) := cell_turn kA hc2 (by omega)
      have hys : ∀ j y, (bys (mkRow n (hanF s k)))[j]? = some y → (wr.alloc (.cells #[] 5)).drew.cell? ((⟨b0, off0 + k, none⟩ : Addr).add j) = some y := hX _ kA.to_below
      have hyl : (bys (mkRow n (hanF s k))).length = n := by simp
      have HYS := Lib.hid hys
      clear hys hX HSR
      have HR := Lib.hid hrow
      have HM := Lib.hid hM
      clear hM hrow
      go_wp2_with fail
      go_region_law (first
        | (refine step_appendN (by rfl) _ _ _ (by rfl) wr.heap.size 5 _ _ Tryz.underlying22 infoByte rfl _ 0 [] (by rfl) hown0 ⟨b0, off0 + k, none⟩ n (c - k) (bys (mkRow n (hanF s k))) (by rfl) hyl HYS.out (bys_oneC _) (by omega) (by omega) (by simp) ?_; intro u1 w1 hown1 hg1 hv1; obtain ⟨C1, m1, d1, rfl⟩ := own_isSlice hown1; have k1 := turn_trans' kA hg1 (fun g e => by simp [Value.ownBlock] at e; omega); have hcB : w1.cell? ⟨w.heap.size + 1, 0, none⟩ = some (.slice B m co) := cell_turn k1 hc2 (by omega); have k2 : TurnIn 0 0 wr (w1.alloc (.cells #[.slice C1 m1 d1] 22)) := turn_trans k1 (turn_alloc _ _) (by omega); have hcC : (w1.alloc (.cells #[.slice C1 m1 d1] 22)).cell? ⟨w.heap.size + 1, 0, none⟩ = some (.slice B m co) := cell_turn k2 hc2 (by omega); have hs1 := k1.size)
        | (refine step_append1 (by rfl) _ _ _ (by rfl) (w.heap.size + 2) 22 _ _ Tryz.underlying68 infoRowB rfl _ k vs (by rfl) (owns_turn HR.out (fun g e => (HR.out.lt g e).2) k2 (by omega)) w1.heap.size (.slice C1 m1 d1) (by rfl) (by simp) (by rfl) (by omega) (by omega) (by simp; omega) ?_; intro v' w2 hown2 hg2 hv2; obtain ⟨A', n', cp', rfl⟩ := own_isSlice hown2; have hc2' := (cell_past k2 hg2 hne2 (by omega) 0).trans hc2; have hf2' := (frozen_past k2 hg2 hne2 (by omega) 0).trans hf2))
      all_goals
        have hR : OwnBytes 5 (w1.alloc (.cells #[.slice C1 m1 d1] 22)) wr.heap.size (w1.heap.size + 1) (.slice C1 m1 d1) (mkRow n (hanF s k)) := by
          refine ⟨?_, by simp, fun g e => by have := (hown1.lt g e).2; omega⟩
          have e : w1.ownsRow wr.heap.size 5 1 (.slice C1 m1 d1) n (bys (mkRow n (hanF s k))) := by simpa using hown1
          rw [mkRow_length]
          exact e.alloc _
        have hM5 := (((HM.out.push k2 hR (Nat.le_refl _) (by omega) (by simpa using hown2) hg2 hv2).keep (turn_setCell w2 (w.heap.size + 1) 0 (.slice A' n' cp')) (by omega)).congr (mkM_succ k n (hanF s)).symm)
        have hw1 : wr.heap.size ≤ w2.heap.size := by have := hg2.size; have := k2.size; omega
        have hb5 : Below w.heap.size w (w2.setCell ⟨w.heap.size + 1, 0, none⟩ (.slice A' n' cp')) := Below.setCell (TurnIn.base (TurnIn.of_grown (lo := w.heap.size) (hi := w2.heap.size) hg2 (fun g e => ⟨by have := hob g e; omega, by have := (HM.out.out g e); omega⟩)) (k2.base hb (by omega) (by omega)) (by have := k2.size; omega) (by omega)) (Nat.le_add_right _ 1) _
        have hq0 := ((cell_past k2 hg2 hne1 (by omega) 0).trans hcr)
        have hq0f := ((frozen_past k2 hg2 hne1 (by omega) 0).trans hfr)
        clear hR hown1 hown2 hg1 hg2 hv1 hv2 hob hcA hcB hcC hb hcr hfr k1 k2 kA hown0
        go_wp2_with fail
        go_roundw
        case rel => exact ⟨k + 1, .slice A' n' cp', vs ++ [.slice C1 m1 d1], by omega, by go_num, by simpa using hM5, World.cell?_setCell_same _ _ _ hc2', by simp [hf2'], (cell_set_other w2 _ _ _ (by omega)).trans hq0, (frozen_set_other w2 _ _ _ (by omega)).trans hq0f, hb5, by simp; omega⟩
        case measure => simp [intOf]; omega
    · obtain rfl : k = n := by omega
      have hki : ¬ (k : Int) < (k : Int) := by omega
      obtain ⟨B, m, co, rfl⟩ := hM.isSlice
      go_wp2_with fail
      refine bodyPost_ret (v := .agg #[.slice B m co]) (by simp [results, Tryz.results76, go_sem, hcr]) rfl ?_
      have kk := turn_setCell wr w.heap.size 0 (.slice B m co)
      refine ⟨_, vs, rfl, (hM.keep kk (by omega)).wider (by omega) (by simp) (by simp), TurnIn.of_below (hb.setCell (Nat.le_refl _) _)⟩

end Go.Proofs.YtblfobbeojdihaaGreatDoor
