/- Rows of ints: append of a row, slices of a row. -/
import Derived.Test.YtbfchebnooanjaaIntsWalks
import Derived.Laws.AppendOwnNone
set_option linter.unusedSimpArgs false
set_option linter.unusedVariables false
namespace G294
open Go Go.RowKit
/-- a nil slice has no room -/
def NilI (v : Value) : Prop := ∀ n c, v = .slice none n c → n = 0 ∧ c = 0
theorem own_nilI {w : World} {base n size : Nat} {e : TypeId} {v : Value} {xs : List Value} (h : w.ownsRow base e size v n xs) : NilI v := fun m c e => by
  rcases h.2 with ⟨rfl, _⟩ | ⟨g, cap, cur, rfl, _⟩
  · simp only [Value.slice.injEq] at e; omega
  · simp at e
theorem ints_one (l : List Int) : ∀ u ∈ ints l, u.oneCell' = true := fun u hu => by
  simp only [ints, List.mem_map] at hu
  obtain ⟨x, _, rfl⟩ := hu
  rfl
/-- append(s, ints...) -/
theorem wpList_appendIs {P : Program} {w : World} {ops : Array Oper} {rest : List Oper} {o : Oper} {a : Act} {Q : Exit → Act → World → Prop} (hgd : o.guard = none) (s x : Operand) (t : TypeId)
    (ho : o.op = .call { callee := .builtin .append, args := #[s, x], argTypes := #[t, t] })
    (base : Nat) (e : TypeId) (z : Value) (bytes : Nat) (ht : P.underlying t = some (.slice e)) (hinfo : (P.info? e).map (fun i => (i.zero, i.size, i.bytes)) = some (some z, 1, bytes)) (hzs : z.cells.size = 1) (hby : bytes ≤ 1000)
    (v : Value) (n : Nat) (l m : List Int) (hs : a.eval s = v) (hown : w.ownsRow base e 1 v n (ints l)) (u : Value) (hx : a.eval x = u) (hu : Seen w u (ints m)) (hN : NilI u)
    (hn : n + m.length ≤ 1000000000) (hbase : base ≤ w.heap.size)
    (h : ∀ v' w', w'.ownsRow base e 1 v' (n + m.length) (ints (l ++ m)) → w.grownBy w' v.ownBlock → (v'.ownBlock = v.ownBlock ∨ v'.ownBlock = some w.heap.size) → wpList P ops Q rest (a.put o.dst v') w') :
    wpList P ops Q (o :: rest) a w := by
  obtain ⟨i, hi, hz, hsz, hbs⟩ := info_parts hinfo
  obtain ⟨A, c, rfl, hlc, hcm, hc⟩ := hu
  rw [ints_length] at hlc hc
  cases A with
  | none =>
    obtain ⟨h1, h2⟩ := hN _ c rfl
    rw [ints_length] at h1
    have hm : m = [] := List.eq_nil_of_length_eq_zero h1
    subst hm h2
    exact wpList_append_own_none hgd s x t ho base e i 1 ht hi v n (ints l) hs hown hx (h v w (by simpa using hown) (World.grownBy.refl _ _) (.inl rfl))
  | some ad =>
    refine wpList_append_own_at w hgd s x t ho base e i _ 1 bytes ht hi hz hsz hbs hzs (by omega) v n (ints l) hs hown ad m.length c (ints m) (by rw [hx, ints_length]) (by simp) (fun j y hj => ?_) (ints_one m) (by unfold maxLen; omega) (by
      have : (n + m.length) * bytes ≤ 1000000000 * 1000 := Nat.mul_le_mul hn hby
      omega) hbase (fun v' w' h2 h3 _ h5 => h v' w' (by rw [ints_append]; exact h2) h3 h5)
    have hj' : 0 < m.length := by have := (List.getElem?_eq_some_iff.1 hj).1; simp at this; omega
    obtain ⟨b, off, e', _, hcc⟩ := hc hj'
    simp only [Option.some.injEq] at e'
    subst e'
    rw [Addr.add_lit]
    exact hcc j y hj
end G294
namespace Go.Proofs.Ytbfchebnooanjaa
open Go.RowKit G294

theorem sliceHighI {w : World} {A : Option Addr} {n c k : Nat} {l : List Int} (hs : Seen w (.slice A n c) (ints l)) (hN : NilI (.slice A n c)) (hk : k ≤ l.length) :
    ∃ u, (∀ W, (Instr.slice 28 (.slice A n c) none (some (.int .i64 (k : Int))) none).run Try.prog W = .ok u W) ∧ (∀ W, (Instr.sliceAt 28 (.slice A n c) none (some (.int .i64 (k : Int))) none).run Try.prog W = .ok u W) ∧ Seen w u (ints (l.take k)) ∧ NilI u := by
  obtain ⟨A', c', e, h1, h2, h3⟩ := hs
  simp only [Value.slice.injEq] at e
  obtain ⟨rfl, rfl, rfl⟩ := e
  rw [ints_length] at h1 h3
  have hel : ∀ W, (sizeOf (Try.prog.elem 28)).run Try.prog W = .ok 1 W := fun W => by kernel_rfl
  have hrun : ∀ W, (Instr.slice 28 (.slice A (ints l).length c) none (some (.int .i64 (k : Int))) none).run Try.prog W = .ok (.slice A k c) W := fun W => by
    rw [run_slice_h W 28 _ _ c (by kernel_rfl) .i64 k (by omega) (by omega), hel]
    by_cases hc : c = 0
    · subst hc; simp [Result.andThen, sliced]
    · cases A with
      | none => exact absurd (hN _ c rfl).2 hc
      | some a => simp [Result.andThen, sliced, hc, Addr.add]
  refine ⟨.slice A k c, hrun, fun W => by rw [run_sliceAt_slice W 28 _ _ _ _ (by kernel_rfl)]; exact hrun W, ⟨A, c, by simp [Nat.min_eq_left hk], by simp; omega, h2, fun hp => ?_⟩, fun m d e => ?_⟩
  · simp only [ints_length, List.length_take] at hp
    obtain ⟨b, o, rfl, hb, hc⟩ := h3 (by omega)
    refine ⟨b, o, rfl, hb, fun i u hu => hc i u ?_⟩
    have hi : i < (l.take k).length := by have := (List.getElem?_eq_some_iff.1 hu).1; simpa using this
    rw [ints_get _ i hi] at hu
    rw [← hu, List.getElem_take]
    exact ints_get l i (by rw [List.length_take] at hi; omega)
  · simp only [Value.slice.injEq] at e
    obtain ⟨rfl, rfl, rfl⟩ := e
    have := hN _ c rfl
    rw [ints_length] at this
    omega

theorem sliceLowI {w : World} {A : Option Addr} {n c k : Nat} {l : List Int} (hs : Seen w (.slice A n c) (ints l)) (hN : NilI (.slice A n c)) (hk : k ≤ l.length) :
    ∃ u, (∀ W, (Instr.slice 28 (.slice A n c) (some (.int .i64 (k : Int))) none none).run Try.prog W = .ok u W) ∧ (∀ W, (Instr.sliceAt 28 (.slice A n c) (some (.int .i64 (k : Int))) none none).run Try.prog W = .ok u W) ∧ Seen w u (ints (l.drop k)) ∧ NilI u := by
  obtain ⟨A', c', e, h1, h2, h3⟩ := hs
  simp only [Value.slice.injEq] at e
  obtain ⟨rfl, rfl, rfl⟩ := e
  rw [ints_length] at h1 h3
  have hel : ∀ W, (sizeOf (Try.prog.elem 28)).run Try.prog W = .ok 1 W := fun W => by kernel_rfl
  have hrun : ∀ W, (Instr.slice 28 (.slice A (ints l).length c) (some (.int .i64 (k : Int))) none none).run Try.prog W = .ok (.slice (if c = k then A else A.map (·.add k)) (l.length - k) (c - k)) W := fun W => by
    rw [run_slice_l W 28 _ _ c (by kernel_rfl) .i64 k (by omega) (by rw [ints_length]; omega), hel]
    simp [Result.andThen, sliced]
  refine ⟨_, hrun, fun W => by rw [run_sliceAt_slice W 28 _ _ _ _ (by kernel_rfl)]; exact hrun W, ⟨_, c - k, by rw [ints_length, List.length_drop], by simp; omega, by omega, fun hp => ?_⟩, fun m d e => ?_⟩
  · simp only [ints_length, List.length_drop] at hp
    obtain ⟨b, o, rfl, hb, hc⟩ := h3 (by omega)
    rw [if_neg (by omega)]
    refine ⟨b, o + k, by simp [Addr.add], hb, fun i u hu => ?_⟩
    have hi : i < (l.drop k).length := by have := (List.getElem?_eq_some_iff.1 hu).1; simpa using this
    rw [ints_get _ i hi] at hu
    rw [← hu, List.getElem_drop, Nat.add_assoc]
    exact hc (k + i) _ (ints_get l (k + i) (by rw [List.length_drop] at hi; omega))
  · simp only [Value.slice.injEq] at e
    obtain ⟨e1, rfl, rfl⟩ := e
    by_cases hc : c = k
    · subst hc; omega
    · rw [if_neg hc] at e1
      cases A with
      | none =>
        have := hN _ c rfl
        rw [ints_length] at this
        omega
      | some a => simp at e1
end Go.Proofs.Ytbfchebnooanjaa
