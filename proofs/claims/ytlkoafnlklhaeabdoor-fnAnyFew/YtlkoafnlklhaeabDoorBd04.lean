/- Joined texts: ShardMem, Boxes, ShardWalks, IntsWalks, InvMath, CauMath, SpecBlank. -/
import Derived.Test.YtlkoafnlklhaeabDoorBd01
import Derived.Test.YtlkoafnlklhaeabDoorBd02
import Derived.Test.YtlkoafnlklhaeabDoorBd03
import Derived.Test.YtlkoafnlklhaeabDoorBd00
import Derived.Deep.OwnRows
import Derived.Deep.RegionLaw
set_option linter.unusedSimpArgs false
set_option linter.unusedVariables false
/- Shards in memory: a slice of structs of an int and a string that is seen, or of the call's own; what a mark writes. -/
namespace G294
open Go Go.RowKit
abbrev Sh := Int × List UInt8
/-- shards as the cells of memory -/
def shs : List Sh → List Value
  | [] => []
  | s :: l => .int .i64 s.1 :: .string (str s.2) :: shs l
@[simp] theorem shs_length (l : List Sh) : (shs l).length = l.length * 2 := by
  induction l with
  | nil => rfl
  | cons s l ih => simp [shs, ih]; omega
theorem shs_append (l m : List Sh) : shs (l ++ m) = shs l ++ shs m := by
  induction l with
  | nil => rfl
  | cons s l ih => simp [shs, ih]
theorem shs_no (l : List Sh) (i : Nat) (h : i < l.length) : (shs l)[i * 2]? = some (.int .i64 l[i].1) := by
  induction l generalizing i with
  | nil => simp at h
  | cons s l ih =>
    cases i with
    | zero => rfl
    | succ i => rw [show (i + 1) * 2 = i * 2 + 1 + 1 by omega]; simpa [shs] using ih i (by simpa using h)
theorem shs_data (l : List Sh) (i : Nat) (h : i < l.length) : (shs l)[i * 2 + 1]? = some (.string (str l[i].2)) := by
  induction l generalizing i with
  | nil => simp at h
  | cons s l ih =>
    cases i with
    | zero => rfl
    | succ i => rw [show (i + 1) * 2 + 1 = i * 2 + 1 + 1 + 1 by omega]; simpa [shs] using ih i (by simpa using h)
theorem shs_oneC (l : List Sh) : ∀ y, y ∈ shs l → y.oneCell' = true := by
  induction l with
  | nil => intro y hy; simp [shs] at hy
  | cons s l ih =>
    intro y hy
    simp only [shs, List.mem_cons] at hy
    rcases hy with rfl | rfl | hy
    · rfl
    · rfl
    · exact ih y hy
theorem shs_set (l : List Sh) (i : Nat) (x : Sh) (h : i < l.length) : ((shs l).set (i * 2) (.int .i64 x.1)).set (i * 2 + 1) (.string (str x.2)) = shs (l.set i x) := by
  induction l generalizing i with
  | nil => simp at h
  | cons s l ih =>
    cases i with
    | zero => rfl
    | succ i =>
      rw [show (i + 1) * 2 = i * 2 + 1 + 1 by omega]
      simp only [shs, List.set_cons_succ, ih i (by simpa using h)]
/-- the value v is seen in w as the shards l -/
def SeenH (w : World) (v : Value) (l : List Sh) : Prop :=
  ∃ A c, v = .slice A l.length c ∧ l.length ≤ c ∧ c ≤ maxLen ∧ (0 < l.length → ∃ b off, A = some ⟨b, off, none⟩ ∧ b < w.heap.size ∧ ∀ i s, l[i]? = some s → w.cell? ⟨b, off + i * 2, none⟩ = some (.int .i64 s.1) ∧ w.cell? ⟨b, off + i * 2 + 1, none⟩ = some (.string (str s.2)))
theorem at_lt {α : Type} {l : List α} {n k : Nat} (hn : l.length = n) (h : k < n) : ∃ s, l[k]? = some s := ⟨_, List.getElem?_eq_getElem (by omega)⟩
/-- a row of shards of the call's own, its block from lo to hi -/
def OwnSh (E : TypeId) (w : World) (lo hi : Nat) (v : Value) (l : List Sh) : Prop := w.ownsRow lo E 2 v l.length (shs l) ∧ hi ≤ w.heap.size ∧ ∀ g, v.ownBlock = some g → g < hi
section
variable {w w' : World} {lo hi a b : Nat} {v : Value} {l : List Sh} {E : TypeId}
theorem SeenH.below (h : SeenH w v l) (hb : Below w.heap.size w w') : SeenH w' v l := by
  obtain ⟨A, c, rfl, h1, h2, h3⟩ := h
  refine ⟨A, c, rfl, h1, h2, fun hn => ?_⟩
  obtain ⟨b, off, rfl, hb', hc⟩ := h3 hn
  exact ⟨b, off, rfl, Nat.lt_of_lt_of_le hb' hb.size, fun i s hi => ⟨(hb.cell (p := ⟨b, off + i * 2, none⟩) hb').trans (hc i s hi).1, (hb.cell (p := ⟨b, off + i * 2 + 1, none⟩) hb').trans (hc i s hi).2⟩⟩
theorem SeenH.len (h : SeenH w v l) : ∃ A c, v = .slice A l.length c := by
  obtain ⟨A, c, h, _⟩ := h
  exact ⟨A, c, h⟩
theorem SeenH.nil (w : World) : SeenH w (.slice none 0 0) [] := ⟨none, 0, rfl, Nat.le_refl _, Nat.zero_le _, fun h => by simp at h⟩
theorem owns_turn2 {size n : Nat} {xs : List Value} (h : w.ownsRow lo E size v n xs) (h2 : ∀ g, v.ownBlock = some g → g < hi) (t : TurnIn a b w w') (d : hi ≤ a ∨ b ≤ lo) : w'.ownsRow lo E size v n xs := by
  refine ⟨h.1, ?_⟩
  rcases h.2 with hn | ⟨g, cap, cur, rfl, hbg, hg, rest⟩
  · exact .inl hn
  · refine .inr ⟨g, cap, cur, rfl, hbg, ?_, rest⟩
    have := h2 g rfl
    rw [t.block g (Array.getElem?_eq_some_iff.1 hg).1 (by omega)]
    exact hg
theorem OwnSh.keep (h : OwnSh E w lo hi v l) (t : TurnIn a b w w') (d : hi ≤ a ∨ b ≤ lo) : OwnSh E w' lo hi v l :=
  ⟨owns_turn2 h.1 h.2.2 t d, Nat.le_trans h.2.1 t.size, h.2.2⟩
theorem OwnSh.seen (h : OwnSh E w lo hi v l) : SeenH w v l := by
  obtain ⟨h1, h2, h3⟩ := h
  rcases h1.2 with ⟨rfl, hn⟩ | ⟨g, cap, cur, rfl, hb, hg, hnc, hcm, hcs, ht⟩
  · have : l = [] := List.eq_nil_of_length_eq_zero hn
    subst this
    exact SeenH.nil w
  · refine ⟨_, cap, rfl, hnc, hcm, fun hn => ⟨g, 0, rfl, (Array.getElem?_eq_some_iff.1 hg).1, fun i s hs => ?_⟩⟩
    obtain ⟨hi, rfl⟩ := List.getElem?_eq_some_iff.1 hs
    have e1 := h1.cells (g := g) rfl (i * 2) _ (shs_no l i hi)
    have e2 := h1.cells (g := g) rfl (i * 2 + 1) _ (shs_data l i hi)
    rw [Addr.add_lit, Nat.zero_add] at e1 e2
    exact ⟨by rw [Nat.zero_add]; exact e1, by rw [Nat.zero_add]; exact e2⟩
theorem OwnSh.nil (E : TypeId) (w : World) (lo : Nat) : OwnSh E w lo w.heap.size (.slice none 0 0) [] := ⟨World.ownsRow_nil _ _ _ _, Nat.le_refl _, fun g h => by simp [Value.ownBlock] at h⟩
theorem OwnSh.of_made (h : w'.ownsRow w.heap.size E 2 v l.length (shs l)) : OwnSh E w' w.heap.size w'.heap.size v l := ⟨h, Nat.le_refl _, fun g hg => (h.lt g hg).2⟩
end
def RetShs (E : TypeId) (w : World) (l : List Sh) (e : Ending) (w' : World) : Prop := ∃ v, e = .returned v ∧ OwnSh E w' w.heap.size w'.heap.size v l ∧ TurnIn 0 0 w w'
def RetShsOk (E : TypeId) (w : World) (l : List Sh) (ok : Bool) (e : Ending) (w' : World) : Prop := ∃ v, e = .returned (.tuple #[v, .bool ok]) ∧ OwnSh E w' w.heap.size w'.heap.size v l ∧ TurnIn 0 0 w w'
/-- the shards that marks write -/
def marksH (k n : Nat) : List Sh := (List.range n).map fun i => (((k + i * 2 : Nat) : Int), mtext (k + i * 2 + 1))
@[simp] theorem marksH_length (k n : Nat) : (marksH k n).length = n := by simp [marksH]
theorem marksH_get (k n i : Nat) (h : i < (marksH k n).length) : (marksH k n)[i] = (((k + i * 2 : Nat) : Int), mtext (k + i * 2 + 1)) := by simp [marksH]
def RetMarkH (E : TypeId) (w : World) (lo hi : Nat) (v : Value) (k n : Nat) (e : Ending) (w' : World) : Prop :=
  e = .returned (.int .i64 ((k + n * 2 : Nat) : Int)) ∧ OwnSh E w' lo hi v (marksH k n) ∧ TurnIn lo hi w w'
end G294

/- Struct variables of a law: blocks of one cell, kept; sizes of results. -/
namespace G294
open Go Go.RowKit
theorem box_keep {w w' : World} {B a b : Nat} {x : Value} (h : w.cell? ⟨B, 0, none⟩ = some x) (hl : B < w.heap.size) (t : TurnIn a b w w') (d : B < a ∨ b ≤ B) : w'.cell? ⟨B, 0, none⟩ = some x :=
  (World.cell?_of_block (t.block B hl d)).trans h
theorem alloc_cell (w : World) (v : Value) (T : TypeId) : (w.alloc (.cells #[v] T)).cell? ⟨w.heap.size, 0, none⟩ = some v := by simp
theorem alloc_lt (w : World) (o : Obj) : w.heap.size < (w.alloc o).heap.size := by rw [World.size_alloc]; omega
theorem undrew {w w' : World} {a b : Nat} (t : TurnIn a b w.drew w') : TurnIn a b w w' := ⟨t.os, t.tape, t.output, t.size, t.block⟩
theorem transR_siz (m : Mat) : sizM (transR m) ≤ 256 := by
  unfold transR; split
  · rename_i h; have := (goodM_iff m).1 h; exact Nat.le_trans (Nat.le_trans (sizM_le_mul _ m.length (fun i hi => by rw [mkM_getD _ _ _ _ (by simpa using hi)]; simp)) (by rw [mkM_length]; exact Nat.mul_le_mul (show wid m ≤ 16 by omega) (show m.length ≤ 16 by omega))) (by omega)
  · simp [sizM]
theorem sizM_mkM (r c : Nat) (F : Ents) : sizM (mkM r c F) ≤ r * c := by
  have := sizM_le_mul (mkM r c F) c (fun i hi => by rw [mkM_getD _ _ _ _ (by simpa using hi)]; simp)
  simpa using this
theorem sizM_side {r c : Nat} (F : Ents) (hr : r ≤ 16) (hc : c ≤ 16) : sizM (mkM r c F) ≤ 256 := Nat.le_trans (sizM_mkM r c F) (Nat.mul_le_mul hr hc)
theorem idR_siz (n : Int) : sizM (idR n) ≤ 256 := by
  unfold idR; split
  · rename_i h; simp [goodI] at h; exact sizM_side _ (by omega) (by omega)
  · simp [sizM]
theorem sides_b {r c : Int} (h : sidesOk r c = true) : r.toNat ≤ 16 ∧ c.toNat ≤ 16 := by
  simp [sidesOk, goodI] at h; omega
theorem vandR_siz (r c : Int) : sizM (vandR r c) ≤ 256 := by
  unfold vandR; split
  · rename_i h; exact sizM_side _ (sides_b h).1 (sides_b h).2
  · simp [sizM]
theorem cauR_siz (r c : Int) : sizM (cauR r c) ≤ 256 := by
  unfold cauR; split
  · rename_i h; exact sizM_side _ (sides_b h).1 (sides_b h).2
  · simp [sizM]
theorem LieM.isSlice {w : World} {lo hi : Nat} {v : Value} {L : Mat} (h : LieM w lo hi v L) : ∃ A n c, v = .slice A n c := by
  obtain ⟨A, c, e, _⟩ := h.seen.len
  exact ⟨A, _, c, e⟩
end G294

/- Contracts of the laws' helpers on []Shard: equality, marks, marks held. -/
namespace Go.Proofs.YtlkoafnlklhaeabDoor
open Go.RowKit G294

theorem infoShard : (Tryd.prog.info? 27).map (fun i => (i.zero, i.size, i.bytes)) = some (some (.agg #[.int .i64 0, .string ⟨#[]⟩]), 2, 24) := by kernel_rfl

end Go.Proofs.YtlkoafnlklhaeabDoor

/- Contracts of the laws' helpers on []int: a copy, equality, marks, marks held. -/
namespace Go.Proofs.YtlkoafnlklhaeabDoor
open Go.RowKit G294

theorem infoInt : (Tryd.prog.info? 3).map (fun i => (i.zero, i.size, i.bytes)) = some (some (.int .i64 0), 1, 8) := by kernel_rfl

theorem eq_atI {l m : List Int} {k : Nat} (hl : k < l.length) (hm : k < m.length) (h : l[k] ≠ m[k]) : (l == m) = false := by
  rw [beq_eq_false_iff_ne]
  intro e; subst e; exact h rfl

theorem eq_allI {l m : List Int} (hl : l.length = m.length) (h : ∀ i (h1 : i < l.length) (h2 : i < m.length), l[i] = m[i]) : (l == m) = true := by
  rw [beq_iff_eq]; exact List.ext_getElem hl h

end Go.Proofs.YtlkoafnlklhaeabDoor

/- Elimination's mathematics: a full rank leaves the identity, the inverse on the left, kernels; Cauchy's matrix has no kernel. -/
namespace G294
theorem g_cancel {a b : UInt8} (ha : a ≠ 0) (h : gmul a b = 0) : b = 0 := by
  have := congrArg (gmul (ginv a)) h
  rwa [← gmul_assoc, ginv_gmul ha, one_gmul, gmul_zero] at this
theorem g_ne {a b : UInt8} (ha : a ≠ 0) (hb : b ≠ 0) : gmul a b ≠ 0 := fun h => hb (g_cancel ha h)
theorem ginv_ne {a : UInt8} (ha : a ≠ 0) : ginv a ≠ 0 := fun h => by
  have := gmul_ginv ha
  rw [h, gmul_zero] at this
  exact absurd this (by decide)
theorem x_self (a : UInt8) : a ^^^ a = 0 := by simp
theorem x_eq {a b : UInt8} (h : a ^^^ b = 0) : a = b := by
  have := congrArg (· ^^^ b) h
  simpa [UInt8.xor_assoc] using this
theorem x_ne {a b : UInt8} (h : a ≠ b) : a ^^^ b ≠ 0 := fun e => h (x_eq e)
/-- full rank at column k: the first k columns are those of the identity -/
theorem est_unit {F : Ents} {r : Nat} : ∀ k, (est F r k).2 = k → ∀ j, j < k → ∀ i, i < r → (est F r k).1 i j = idF i j := by
  intro k
  induction k with
  | zero => intro _ j hj; omega
  | succ k ih =>
    intro hk j hj i hi
    have hle := est_le F r k
    rcases piv_cases (est F r k).1 r (est F r k).2 k with ⟨e, _⟩ | ⟨p, e, h1, h2, h3, _⟩
    · rw [est_none e] at hk; omega
    · rw [est_some e] at hk ⊢
      simp only at hk ⊢
      have hk' : (est F r k).2 = k := by omega
      have ih := ih hk'
      rw [hk'] at h1 ⊢
      have hkr : k < r := by omega
      unfold opF opAt clF scF swF
      simp only
      have s1 : sw k p k = p := by simp [sw]
      by_cases hjk : j = k
      · subst hjk
        by_cases hij : i = j
        · subst hij
          simp only [if_true, s1, idF, ginv_gmul h3]
        · simp only [hij, if_false, if_true, s1, idF, ginv_gmul h3, gmul_one, x_self]
      · have hj' : j < k := by omega
        have z1 : (est F r k).1 p j = 0 := by rw [ih j hj' p (by omega)]; simp [idF, show ¬ p = j by omega]
        by_cases hik : i = k
        · subst hik
          simp only [if_true, s1, z1, gmul_zero, idF, show ¬ i = j by omega, if_false]
        · simp only [hik, if_false, if_true, s1, z1, gmul_zero, UInt8.xor_zero]
          have hsw : sw k p i < r := sw_lt hkr h2 hi
          rw [ih j hj' _ hsw]
          unfold idF sw
          rw [if_neg hik]
          by_cases hip : i = p
          · subst hip; simp [show ¬ k = j by omega, show ¬ i = j by omega]
          · simp [hip]
/-- the inverse on the left -/
theorem inv_left {F : Ents} {k : Nat} (h : (est F k k).2 = k) {i j : Nat} (hi : i < k) (hj : j < k) : sumK k (fun l => gmul (bst F idF k k i l) (F l j)) = idF i j := by
  rw [← bst_lin F F k k i j hi, bst_self]
  exact est_unit k h j hj i hi
/-- an operation takes no kernel away and adds none -/
def kerAt (F : Ents) (r c : Nat) (v : Nat → UInt8) : Prop := ∀ i, i < r → sumK c (fun j => gmul (F i j) (v j)) = 0
theorem op_ker {o : Op} {F : Ents} {r c : Nat} {v : Nat → UInt8} (ha : o.a < r) (hp : o.p < r) (hs : o.s ≠ 0) (h : kerAt (opF o F) r c v) : kerAt F r c v := by
  have row : ∀ i, i < r → sumK c (fun j => gmul (F (sw o.a o.p i) j) (v j)) = 0 := by
    have ra : sumK c (fun j => gmul (F (sw o.a o.p o.a) j) (v j)) = 0 := by
      have := h o.a ha
      have e : (fun j => gmul (opF o F o.a j) (v j)) = fun j => gmul o.s (gmul (F (sw o.a o.p o.a) j) (v j)) := by
        funext j; simp [opF, clF, scF, swF, gmul_assoc]
      rw [e, sumK_mul] at this
      exact g_cancel hs this
    intro i hi
    by_cases hia : i = o.a
    · rw [hia]; exact ra
    · have := h i hi
      have e : (fun j => gmul (opF o F i j) (v j)) = fun j => gmul (F (sw o.a o.p i) j) (v j) ^^^ gmul (gmul (o.fs i) o.s) (gmul (F (sw o.a o.p o.a) j) (v j)) := by
        funext j; simp [opF, clF, scF, swF, hia, gmul_assoc, xor_gmul]
      rw [e, sumK_xor, sumK_mul, ra, gmul_zero, UInt8.xor_zero] at this
      exact this
  intro i hi
  have e : sw o.a o.p (sw o.a o.p i) = i := by
    unfold sw
    by_cases h1 : i = o.a
    · by_cases h2 : o.p = o.a <;> simp [h1, h2]
    · by_cases h2 : i = o.p
      · simp [h2]
      · simp [h1, h2]
  have := row (sw o.a o.p i) (sw_lt ha hp hi)
  rwa [e] at this
theorem est_ker {F : Ents} {r c : Nat} {v : Nat → UInt8} : ∀ k, kerAt (est F r k).1 r c v → kerAt F r c v := by
  intro k
  induction k with
  | zero => exact id
  | succ k ih =>
    intro h
    rcases piv_cases (est F r k).1 r (est F r k).2 k with ⟨e, _⟩ | ⟨p, e, h1, h2, h3, _⟩
    · rw [est_none e] at h; exact ih h
    · rw [est_some e] at h
      exact ih (op_ker (o := opAt (est F r k).1 (est F r k).2 k p) (by show (est F r k).2 < r; omega) h2 (ginv_ne h3) h)
/-- the rank falls short somewhere: the first column without a pivot -/
theorem est_short {F : Ents} {r : Nat} : ∀ k, (est F r k).2 ≠ k → ∃ c, c < k ∧ (est F r c).2 = c ∧ piv (est F r c).1 r c c = none := by
  intro k
  induction k with
  | zero => intro h; exact absurd rfl h
  | succ k ih =>
    intro h
    by_cases hk : (est F r k).2 = k
    · rcases piv_cases (est F r k).1 r (est F r k).2 k with ⟨e, _⟩ | ⟨p, e, _⟩
      · exact ⟨k, by omega, hk, by rw [hk] at e; exact e⟩
      · rw [est_some e] at h; simp only at h; omega
    · obtain ⟨c, h1, h2⟩ := ih hk
      exact ⟨c, by omega, h2⟩
theorem piv_none_at {F : Ents} {r a j : Nat} (h : piv F r a j = none) : ∀ i, a ≤ i → i < r → F i j = 0 := by
  rcases piv_cases F r a j with ⟨_, h'⟩ | ⟨p, e, _⟩
  · exact h'
  · rw [h] at e; cases e
theorem sumK_split {n c : Nat} (f : Nat → UInt8) (hc : c < n) (h : ∀ l, c < l → l < n → f l = 0) : sumK n f = sumK c f ^^^ f c := by
  induction n with
  | zero => omega
  | succ n ih =>
    show sumK n f ^^^ f n = _
    by_cases e : n = c
    · subst e; rfl
    · rw [ih (by omega) (fun l h1 h2 => h l h1 (by omega)), h n (by omega) (by omega), UInt8.xor_zero]
/-- no kernel: full rank -/
theorem rank_full {F : Ents} {r n : Nat} (hn : n ≤ r) (h : ∀ v, kerAt F r n v → ∀ j, j < n → v j = 0) : (est F r n).2 = n := by
  by_cases hk : (est F r n).2 = n
  · exact hk
  · exfalso
    obtain ⟨c, hc, hcc, hp⟩ := est_short n hk
    have hz := piv_none_at hp
    have hu := est_unit c hcc
    have hv := h (fun j => if j < c then (est F r c).1 j c else if j = c then 1 else 0) (est_ker c fun i hi => by
      rw [sumK_split _ hc (fun l h1 h2 => by simp [show ¬ l < c by omega, show ¬ l = c by omega, gmul_zero])]
      simp only [Nat.lt_irrefl, if_false, if_true, gmul_one]
      have e : sumK c (fun j => gmul ((est F r c).1 i j) (if j < c then (est F r c).1 j c else if j = c then 1 else 0)) = sumK c (fun j => gmul (idF i j) ((est F r c).1 j c)) := sumK_congr fun l hl => by
        rw [if_pos hl, hu l hl i hi]
      rw [e]
      by_cases hic : i < c
      · rw [sumK_one _ hic (fun l _ hne => by simp [idF, show ¬ i = l from fun e => hne e.symm, zero_gmul])]
        simp [idF, one_gmul]
      · rw [sumK_congr (g := fun _ => 0) (fun l hl => by simp [idF, show ¬ i = l by omega, zero_gmul]), sumK_zero, hz i (by omega) hi]
        rfl) c hc
    simp at hv
end G294

/- Cauchy's matrix has no kernel; any k rows of the code's matrix have none. -/
namespace G294
theorem gmul_left_comm (a b c : UInt8) : gmul a (gmul b c) = gmul b (gmul a c) := by rw [← gmul_assoc, gmul_comm a b, gmul_assoc]
/-- a sum over a list -/
def sumL {α : Type} (l : List α) (f : α → UInt8) : UInt8 := l.foldr (fun x s => f x ^^^ s) 0
@[simp] theorem sumL_nil {α : Type} (f : α → UInt8) : sumL [] f = 0 := rfl
@[simp] theorem sumL_cons {α : Type} (x : α) (l : List α) (f : α → UInt8) : sumL (x :: l) f = f x ^^^ sumL l f := rfl
theorem sumL_append {α : Type} (l m : List α) (f : α → UInt8) : sumL (l ++ m) f = sumL l f ^^^ sumL m f := by
  induction l with
  | nil => simp
  | cons x l ih => simp [ih, UInt8.xor_assoc]
theorem sumL_range (n : Nat) (f : Nat → UInt8) : sumL (List.range n) f = sumK n f := by
  induction n with
  | zero => rfl
  | succ n ih => rw [List.range_succ, sumL_append, ih]; simp [sumK]
theorem sumL_congr {α : Type} {l : List α} {f g : α → UInt8} (h : ∀ x ∈ l, f x = g x) : sumL l f = sumL l g := by
  induction l with
  | nil => rfl
  | cons x l ih => simp [h x (by simp), ih fun y hy => h y (by simp [hy])]
theorem sumL_xor {α : Type} (l : List α) (f g : α → UInt8) : sumL l (fun x => f x ^^^ g x) = sumL l f ^^^ sumL l g := by
  induction l with
  | nil => simp
  | cons x l ih => simp only [sumL_cons, ih]; exact x4 _ _ _ _
theorem sumL_mul {α : Type} (a : UInt8) (l : List α) (f : α → UInt8) : sumL l (fun x => gmul a (f x)) = gmul a (sumL l f) := by
  induction l with
  | nil => simp [gmul_zero]
  | cons x l ih => simp only [sumL_cons, ih, gmul_xor]
theorem sumL_filter {α : Type} (p : α → Bool) (l : List α) (f : α → UInt8) (h : ∀ x ∈ l, p x = false → f x = 0) : sumL (l.filter p) f = sumL l f := by
  induction l with
  | nil => rfl
  | cons x l ih =>
    have ih := ih fun y hy => h y (by simp [hy])
    cases e : p x with
    | true => simp [List.filter_cons, e, ih]
    | false => simp [List.filter_cons, e, ih, h x (by simp) e]
theorem sumL_zero {α : Type} (l : List α) : sumL l (fun _ => 0) = 0 := by
  induction l with
  | nil => rfl
  | cons x l ih => simp [ih]
theorem sumL_map {α β : Type} (g : α → β) (l : List α) (f : β → UInt8) : sumL (l.map g) f = sumL l (fun x => f (g x)) := by
  induction l with
  | nil => rfl
  | cons x l ih => simp [ih]
theorem cau_term {u v d : UInt8} (hu : u ≠ 0) (hv : v ≠ 0) : gmul (u ^^^ d) (ginv u) ^^^ gmul (v ^^^ d) (ginv v) = gmul (u ^^^ v) (gmul d (gmul (ginv v) (ginv u))) := by
  have e1 : gmul u (gmul d (gmul (ginv v) (ginv u))) = gmul d (ginv v) := by
    rw [gmul_left_comm u d, gmul_left_comm u (ginv v), gmul_ginv hu, gmul_one]
  have e2 : gmul v (gmul d (gmul (ginv v) (ginv u))) = gmul d (ginv u) := by
    rw [gmul_left_comm v d, ← gmul_assoc v, gmul_ginv hv, one_gmul]
  rw [xor_gmul, xor_gmul, xor_gmul, gmul_ginv hu, gmul_ginv hv, e1, e2, x4, x_self, UInt8.zero_xor, UInt8.xor_comm]
/-- Cauchy's matrix has no kernel -/
theorem cau_list : ∀ (ys xs : List UInt8) (a : UInt8 → UInt8), ys.length ≤ xs.length → xs.Nodup → ys.Nodup → (∀ x ∈ xs, ∀ y ∈ ys, x ≠ y) →
    (∀ x ∈ xs, sumL ys (fun y => gmul (a y) (ginv (x ^^^ y))) = 0) → ∀ y ∈ ys, a y = 0
  | [], _, _, _, _, _, _, _ => by simp
  | Y :: ys, [], _, h, _, _, _, _ => by simp at h
  | Y :: ys, X :: xs, a, hl, hx, hy, hd, hs => by
    have hx' := List.nodup_cons.1 hx
    have hy' := List.nodup_cons.1 hy
    have hXY : X ^^^ Y ≠ 0 := x_ne (hd X (by simp) Y (by simp))
    have mul : ∀ x ∈ X :: xs, a Y = sumL ys (fun y => gmul (a y) (gmul (x ^^^ Y) (ginv (x ^^^ y)))) := by
      intro x hx1
      have h1 := hs x hx1
      have hxY : x ^^^ Y ≠ 0 := x_ne (hd x hx1 Y (by simp))
      have h2 := congrArg (gmul (x ^^^ Y)) h1
      rw [sumL_cons, gmul_xor, gmul_zero, gmul_left_comm, gmul_ginv hxY, gmul_one, ← sumL_mul] at h2
      rw [x_eq h2]
      exact sumL_congr fun y _ => gmul_left_comm _ _ _
    have hb : ∀ y ∈ ys, gmul (a y) (gmul (y ^^^ Y) (ginv (X ^^^ y))) = 0 := by
      refine cau_list ys xs (fun y => gmul (a y) (gmul (y ^^^ Y) (ginv (X ^^^ y)))) (by simpa using hl) hx'.2 hy'.2 (fun x h1 y h2 => hd x (by simp [h1]) y (by simp [h2])) ?_
      intro x h1
      have hxX : x ^^^ X ≠ 0 := x_ne fun e => hx'.1 (e ▸ h1)
      have e := (mul x (by simp [h1])).symm.trans (mul X (by simp))
      have e2 : sumL ys (fun y => gmul (a y) (gmul (x ^^^ Y) (ginv (x ^^^ y))) ^^^ gmul (a y) (gmul (X ^^^ Y) (ginv (X ^^^ y)))) = 0 := by rw [sumL_xor, e, x_self]
      have e3 : sumL ys (fun y => gmul (x ^^^ X) (gmul (gmul (a y) (gmul (y ^^^ Y) (ginv (X ^^^ y)))) (ginv (x ^^^ y)))) = 0 := by
        rw [← e2]
        refine sumL_congr fun y h2 => ?_
        have n1 : x ^^^ y ≠ 0 := x_ne (hd x (by simp [h1]) y (by simp [h2]))
        have n2 : X ^^^ y ≠ 0 := x_ne (hd X (by simp) y (by simp [h2]))
        have t := cau_term (d := y ^^^ Y) n1 n2
        have w1 : x ^^^ y ^^^ (y ^^^ Y) = x ^^^ Y := by rw [UInt8.xor_assoc, ← UInt8.xor_assoc y y Y, x_self, UInt8.zero_xor]
        have w2 : X ^^^ y ^^^ (y ^^^ Y) = X ^^^ Y := by rw [UInt8.xor_assoc, ← UInt8.xor_assoc y y Y, x_self, UInt8.zero_xor]
        have w3 : x ^^^ y ^^^ (X ^^^ y) = x ^^^ X := by rw [x4, x_self, UInt8.xor_zero]
        rw [w1, w2, w3] at t
        rw [← gmul_xor, t]
        rw [gmul_assoc, gmul_assoc, gmul_left_comm (x ^^^ X) (a y)]
      rw [sumL_mul] at e3
      exact g_cancel hxX e3
    have ha : ∀ y ∈ ys, a y = 0 := fun y h2 => by
      have n1 : y ^^^ Y ≠ 0 := x_ne fun e => hy'.1 (e ▸ h2)
      have n2 : X ^^^ y ≠ 0 := x_ne (hd X (by simp) y (by simp [h2]))
      have := hb y h2
      rw [gmul_comm] at this
      exact g_cancel (g_ne n1 (ginv_ne n2)) this
    intro y h2
    rcases List.mem_cons.1 h2 with rfl | h2
    · rw [mul X (by simp), sumL_congr (g := fun _ => 0) (fun z hz => by rw [ha z hz, zero_gmul])]
      exact sumL_zero ys
    · exact ha y h2
theorem len_sub {α : Type} [DecidableEq α] : ∀ {l l' : List α}, l.Nodup → (∀ x ∈ l, x ∈ l') → l.length ≤ l'.length
  | [], _, _, _ => by simp
  | x :: l, l', hn, hs => by
    have h1 := List.nodup_cons.1 hn
    have hx := hs x (by simp)
    have := len_sub (l' := l'.erase x) h1.2 fun y hy => (List.mem_erase_of_ne (show y ≠ x from fun e => h1.1 (by rw [← e]; exact hy))).2 (hs y (by simp [hy]))
    rw [List.length_erase_of_mem hx] at this
    have : 0 < l'.length := List.length_pos_of_mem hx
    simp; omega
theorem len_parts {α : Type} (p : α → Bool) (l : List α) : (l.filter p).length + (l.filter fun x => !p x).length = l.length := by
  induction l with
  | nil => rfl
  | cons x l ih => cases e : p x <;> simp [List.filter_cons, e] <;> omega
end G294

/- The model's l2Blank. -/
namespace Go.Proofs.YtlkoafnlklhaeabDoor
open Go.RowKit G294

set_option maxRecDepth 100000 in
set_option maxHeartbeats 2000000 in
theorem l2Blank_own (r c : Nat) (w : World) (hr : r ≤ 1000) (hc : c ≤ 1000) : Calls Tryd.prog 72 #[.int .i64 r, .int .i64 c] w (RetMat 5 22 w (mkM r c fun _ _ => 0)) := by
  have hmk := run_make_row' (P := Tryd.prog) 22 5 (.int .u8 0) 1 Tryd.underlying22 infoElemB rfl .i64 .i64 c (by omega) (by omega)
  have hb0 : Below w.heap.size w (w.alloc (.cells #[.slice none 0 0] 52)) := (Below.refl _ _).alloc (Nat.le_refl _) _
  have hb2 : Below w.heap.size w ((w.alloc (.cells #[.slice none 0 0] 52)).alloc (.cells #[.slice none 0 0] 52)) := hb0.alloc (by simp) _
  have hsz : ((w.alloc (.cells #[.slice none 0 0] 52)).alloc (.cells #[.slice none 0 0] 52)).heap.size = w.heap.size + 2 := by simp
  have hM0 : OwnM 5 22 ((w.alloc (.cells #[.slice none 0 0] 52)).alloc (.cells #[.slice none 0 0] 52)) (w.heap.size + 2) (w.heap.size + 2) (.slice none 0 0) (mkM 0 c fun _ _ => 0) [] := hsz ▸ OwnM.nil _ _ _ _
  have HSZ := Lib.hid hsz
  clear hsz
  go_enter Tryd.func72, Tryd.ntmps72
  go_wp2_with fail
  go_loopw [6] (fun i wr => ∃ (k : Nat) (o : Value) (vs : List Value), k ≤ r ∧ i = .int .i64 k ∧ OwnM 5 22 wr (w.heap.size + 2) wr.heap.size o (mkM k c fun _ _ => 0) vs ∧
      wr.cell? ⟨w.heap.size + 1, 0, none⟩ = some o ∧ wr.frozen? ⟨w.heap.size + 1, 0, none⟩ = false ∧ wr.cell? ⟨w.heap.size, 0, none⟩ = some (.slice none 0 0) ∧ wr.frozen? ⟨w.heap.size, 0, none⟩ = false ∧ Below w.heap.size w wr ∧ w.heap.size + 2 ≤ wr.heap.size)
    (fun i _ => r - (intOf i).toNat)
  case atStart => exact ⟨0, .slice none 0 0, [], Nat.zero_le _, rfl, hM0.wider (Nat.le_refl _) (by rw [HSZ.out]; exact Nat.le_refl _) (Nat.le_refl _), by simp, by simp, by simp, by simp, hb2, by rw [HSZ.out]; exact Nat.le_refl _⟩
  case round =>
    obtain ⟨k, o, vs, hk, rfl, hM, hc1, hf1, hc0, hf0, hb, hsz⟩ := hrel
    clear hM0 hb2 hb0
    by_cases hlt : k < r
    · have hki : (k : Int) < (r : Int) := by omega
      have hrow : wr.ownsRow (w.heap.size + 2) 22 1 o k vs := by simpa using hM.row
      obtain ⟨A, n, cp, rfl⟩ := hM.isSlice
      have kW : TurnIn 0 0 wr ((wr.alloc (.cells (madeCells #[.int .u8 0] c) 5)).alloc (.cells #[.slice (some ⟨wr.heap.size, 0, none⟩) c c] 22)).drew := TurnIn.of_below (((Below.refl _ _).alloc (Nat.le_refl _) _).alloc (by simp) _).drew
      have hob : ∀ g, (Value.slice A n cp).ownBlock = some g → w.heap.size + 2 ≤ g := fun g e => (hrow.lt g e).1
      have hne1 : (Value.slice A n cp).ownBlock ≠ some (w.heap.size + 1) := fun e => by have := hob _ e; omega
      have hne0 : (Value.slice A n cp).ownBlock ≠ some w.heap.size := fun e => by have := hob _ e; omega
      have HK := Lib.hid kW
      have hcA : (wr.alloc (.cells (madeCells #[.int .u8 0] c) 5)).cell? ⟨w.heap.size + 1, 0, none⟩ = some (.slice A n cp) := cell_turn (TurnIn.of_below ((Below.refl _ _).alloc (Nat.le_refl _) _)) hc1 (by omega)
      have hcB : ((wr.alloc (.cells (madeCells #[.int .u8 0] c) 5)).alloc (.cells #[.slice (some ⟨wr.heap.size, 0, none⟩) c c] 22)).cell? ⟨w.heap.size + 1, 0, none⟩ = some (.slice A n cp) := cell_turn kW hc1 (by omega)
      clear kW
      go_wp2_with fail
      go_region_law ((refine step_append1 (by rfl) _ _ _ (by rfl) (w.heap.size + 2) 22 _ _ Tryd.underlying50 infoRowB rfl _ k vs (by rfl) (((hrow.alloc _).alloc _).drew) (wr.heap.size + 1) (.slice (some ⟨wr.heap.size, 0, none⟩) c c) (by rfl) (by simp) (by rfl) (by omega) (by omega) (by simp; omega) ?_; intro v' w1 hown1 hg1 hv1; obtain ⟨A', n', cp', rfl⟩ := own_isSlice hown1; have hc1' := (cell_past HK.out hg1 hne1 (by omega) 0).trans hc1; have hf1' := (frozen_past HK.out hg1 hne1 (by omega) 0).trans hf1))
      all_goals
        have hR : OwnBytes 5 ((wr.alloc (.cells (madeCells #[.int .u8 0] c) 5)).alloc (.cells #[.slice (some ⟨wr.heap.size, 0, none⟩) c c] 22)).drew wr.heap.size (wr.heap.size + 1) (.slice (some ⟨wr.heap.size, 0, none⟩) c c) (mkRow c fun _ => 0) := by
          refine ⟨?_, by simp, fun g e => by simp [Value.ownBlock] at e; omega⟩
          rw [bys_zero c _ (fun _ _ => rfl), mkRow_length, ← toList_madeCells_one]
          exact ((World.ownsRow_lit wr (madeCells #[.int .u8 0] c) c (Nat.le_refl _) (by unfold maxLen; omega) (by simp [madeCells])).alloc _).drew
        have hM5 := (((hM.push HK.out hR (Nat.le_refl _) (by omega) (by simpa using hown1) hg1 hv1).keep (turn_setCell w1 (w.heap.size + 1) 0 (.slice A' n' cp')) (by omega)).congr (mkM_succ k c fun _ _ => 0).symm)
        have hw1 : wr.heap.size ≤ w1.heap.size := by have := hg1.size; have := HK.out.size; omega
        have hb5 : Below w.heap.size w (w1.setCell ⟨w.heap.size + 1, 0, none⟩ (.slice A' n' cp')) := Below.setCell (TurnIn.base (TurnIn.of_grown (lo := w.heap.size) (hi := w1.heap.size) hg1 (fun g e => ⟨by have := hob g e; omega, by have := (hM.out g e); omega⟩)) (HK.out.base hb (by omega) (by omega)) (by have := HK.out.size; omega) (by omega)) (Nat.le_succ _) _
        have hq0 := ((cell_past HK.out hg1 hne0 (by omega) 0).trans hc0)
        have hq0f := ((frozen_past HK.out hg1 hne0 (by omega) 0).trans hf0)
        clear hR hown1 hg1 hv1 hM hrow hob hcA hcB hb hc0 hf0
        go_wp2_with fail
        go_roundw
        case rel => exact ⟨k + 1, .slice A' n' cp', vs ++ [.slice (some ⟨wr.heap.size, 0, none⟩) c c], by omega, by go_num, by simpa using hM5, World.cell?_setCell_same _ _ _ hc1', by simp [hf1'], (cell_set_other w1 _ _ _ (by omega)).trans hq0, (frozen_set_other w1 _ _ _ (by omega)).trans hq0f, hb5, by simp; omega⟩
        case measure => simp [intOf]; omega
    · obtain rfl : k = r := by omega
      have hki : ¬ (k : Int) < (k : Int) := by omega
      obtain ⟨A, n, cp, rfl⟩ := hM.isSlice
      go_wp2_with fail
      refine bodyPost_ret (v := .agg #[.slice A n cp]) (by simp [results, Tryd.results72, go_sem, hc0]) rfl ?_
      have kk := turn_setCell wr w.heap.size 0 (.slice A n cp)
      refine ⟨_, vs, rfl, (hM.keep kk (by omega)).wider (by omega) (by simp) (by simp), TurnIn.of_below (hb.setCell (Nat.le_refl _) _)⟩
end Go.Proofs.YtlkoafnlklhaeabDoor
