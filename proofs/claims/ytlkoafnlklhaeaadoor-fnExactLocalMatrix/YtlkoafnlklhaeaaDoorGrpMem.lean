/- A map from ints to slices of ints, of the call's own: what it reads as; looking up, storing, keeping. -/
import Derived.Test.YtlkoafnlklhaeaaDoorLoc
import Derived.Test.YtlkoafnlklhaeaaDoorTurns
import Derived.Maps.OwnRows
import Derived.Maps.GroupsBeside
import Derived.Maps.RangeWalk
set_option linter.unusedSimpArgs false
set_option linter.unusedVariables false
namespace G294
open Go Go.RowKit Go.Maps Go.ChangeShapes
open Go.WideElems (Fit rd rg pl)
section
variable {H : Type} {P : Program} {w : World} {k t E e : TypeId} {q : IntKind} {base b n : Nat} {D : DataW H}
theorem groups_look {key : Value} {kl : Lit} (h : w.ownsGroups P k base e q b n D) (K : Keyed P k) (ht : P.underlying t = some (.map k E)) (hz : ∀ w, (zeroValue E).run P w = .ok (.slice none 0 0) w) (hn : n < maxLen) (hkey : keyOf P k key = some kl) :
    ∃ v zs, (∀ w' : World, w'.heap[b]? = w.heap[b]? → (Instr.lookup t (.map (some b)) key false).run P w' = .ok v w') ∧ D.atKey kl .nil = rowDatum q v zs ∧ w.ownsInts base e q v zs ∧ zs.length ≤ n ∧ w.groupBack P t k base e q b n D key kl v := by
  have h0 := h
  obtain ⟨es, clock, hb, F, _⟩ := h0
  obtain ⟨v, zs, hrun, rest⟩ := h.at K ht (hz w) hn hkey
  refine ⟨v, zs, fun w' hw' => ?_, rest⟩
  have hb' := hw'.trans hb
  have hu := ((MapKept.stamped_iff es clock).1 F.stamped).2.2
  rcases fit_look false K ht (hz w) hb F hkey with ⟨r1, n1, _⟩ | ⟨e0, y, m0, k0, r1, _⟩
  · rcases fit_look false K ht (hz w') hb' F hkey with ⟨r2, _, _⟩ | ⟨e0', y', m0', k0', r2, _⟩
    · rw [r1] at hrun
      simp at hrun
      rw [r2, ← hrun]; simp
    · exact absurd k0' (n1 e0' m0')
  · rcases fit_look false K ht (hz w') hb' F hkey with ⟨_, n2, _⟩ | ⟨e0', y', m0', k0', r2, _⟩
    · exact absurd k0 (n2 e0 m0)
    · have ee : e0 = e0' := entry_eq_of_key hu m0 m0' (k0.trans k0'.symm)
      rw [r1] at hrun
      simp at hrun
      rw [r2, ← hrun, ee]; simp
end
/-- what a map of groups reads as: at j the ints f j; no key where there are none -/
structure Groups (D : DataW Unit) (f : Int → List Int) : Prop where
  isMap : IsMap D
  at_ : ∀ j : Int, f j ≠ [] → ∀ z, D.atKey (.int .i64 j) z = .slice (lits .i64 (f j)) []
  no : ∀ j : Int, f j = [] → Maps.has D (.int .i64 j) = false
  has_ : ∀ kl, Maps.has D kl = true → ∃ j : Int, kl = .int .i64 j ∧ f j ≠ []
theorem Groups.start : Groups (.map []) (fun _ => []) := ⟨isMap_empty, fun j h => absurd rfl h, fun j _ => rfl, fun kl h => by simp [Maps.has] at h⟩
theorem lits_inj {a b : List Int} (h : (lits .i64 a : List (DataW Unit)) = lits .i64 b) : a = b := by
  unfold lits at h
  exact (List.map_inj_right (fun x y hxy => by simpa using hxy)).1 h
theorem Groups.looked {D : DataW Unit} {f : Int → List Int} {w : World} {base : Nat} {e : TypeId} {v : Value} {zs : List Int} {j : Int} (h : Groups D f) (hat : D.atKey (.int .i64 j) .nil = rowDatum .i64 v zs) (hoi : w.ownsInts base e .i64 v zs) : zs = f j := by
  by_cases hf : f j = []
  · rw [atKey_of_not_has (h.no j hf)] at hat
    rcases hoi.datum (H := Unit) with ⟨_, h2⟩ | h2
    · rw [h2, hf]
    · rw [h2] at hat; cases hat
  · rw [h.at_ j hf] at hat
    rcases hoi.datum (H := Unit) with ⟨h1, h2⟩ | h2
    · rw [h1] at hat; cases hat
    · rw [h2] at hat
      simp only [DataW.slice.injEq, and_true] at hat
      exact (lits_inj hat).symm
theorem int_isKey (j : Int) : WideAt.IsKeyLit (.int .i64 j) := by simp [WideAt.IsKeyLit]
theorem Groups.put {D : DataW Unit} {f : Int → List Int} {w : World} {base : Nat} {e : TypeId} {v : Value} {j x : Int} (h : Groups D f) (hoi : w.ownsInts base e .i64 v (f j ++ [x])) : Groups (D.put (.int .i64 j) (rowDatum .i64 v (f j ++ [x]))) (fun i => if i = j then f j ++ [x] else f i) := by
  have hd := hoi.datum_pos (H := Unit) (by simp)
  rw [hd]
  refine ⟨h.isMap.put _ _, fun i hi z => ?_, fun i hi => ?_, fun kl hk => ?_⟩
  · by_cases e1 : i = j
    · subst e1; rw [atKey_put_same h.isMap (int_isKey i)]; simp
    · simp only [e1, if_false] at hi ⊢
      rw [atKey_put_other (by simpa using e1)]
      exact h.at_ i hi z
  · by_cases e1 : i = j
    · subst e1; simp at hi
    · simp only [e1, if_false] at hi
      rw [has_put_other (by simpa using e1)]
      exact h.no i hi
  · by_cases e1 : kl = .int .i64 j
    · exact ⟨j, e1, by simp⟩
    · rw [has_put_other e1] at hk
      obtain ⟨i, rfl, hi⟩ := h.has_ kl hk
      have e2 : i ≠ j := fun e => e1 (by rw [e])
      exact ⟨i, rfl, by simpa [e2] using hi⟩
theorem Groups.congr {D : DataW Unit} {f g : Int → List Int} (h : Groups D f) (e : ∀ j, f j = g j) : Groups D g := by
  have : f = g := funext e
  subst this; exact h
theorem turn_grown {w w' : World} (h : TurnIn 0 0 w w') : w.grownBy w' none := ⟨h.os, h.tape, h.output, h.size, fun i hi _ => h.block i hi (by omega)⟩
theorem ownsGroups_turn {H : Type} {P : Program} {k e : TypeId} {q : IntKind} {base b n : Nat} {D : DataW H} {w w' : World} (h : w.ownsGroups P k base e q b n D) (t : TurnIn 0 0 w w') : w'.ownsGroups P k base e q b n D :=
  h.kept (turn_grown t) (by simp) (h.rowsAbove fun j hj => by cases hj)
/-- the groups of a local code after k of its data -/
def grp1 (e k : Nat) : Int → List Int := fun j => ((List.range k).filter fun i => ((i / e : Nat) : Int) = j).map fun (i : Nat) => (i : Int)
theorem grp1_succ (e k : Nat) (j : Int) : grp1 e (k + 1) j = if j = ((k / e : Nat) : Int) then grp1 e k ((k / e : Nat) : Int) ++ [(k : Int)] else grp1 e k j := by
  unfold grp1
  rw [List.range_succ, List.filter_append]
  by_cases h : j = ((k / e : Nat) : Int)
  · subst h; simp
  · have h' : ¬ ((k / e : Nat) : Int) = j := fun e => h e.symm
    have hh : ([k].filter fun i => decide (((i / e : Nat) : Int) = j)) = [] := by
      rw [List.filter_eq_nil_iff]
      intro a ha
      rw [List.mem_singleton] at ha
      subst ha
      rw [decide_eq_true_eq]
      exact h'
    rw [if_neg h, hh, List.append_nil]
/-- .. and after m of its parities -/
def grp2 (d e m : Nat) : Int → List Int := fun j => grp1 e d j ++ (if 0 ≤ j ∧ j < m then [(d : Int) + j] else [])
theorem grp2_zero (d e : Nat) (j : Int) : grp2 d e 0 j = grp1 e d j := by
  unfold grp2
  rw [if_neg (by omega), List.append_nil]
theorem grp2_succ (d e m : Nat) (j : Int) : grp2 d e (m + 1) j = if j = (m : Int) then grp2 d e m (m : Int) ++ [((d + m : Nat) : Int)] else grp2 d e m j := by
  unfold grp2
  by_cases h : j = (m : Int)
  · subst h
    rw [if_pos ⟨by omega, by omega⟩, if_pos rfl, if_neg (by omega)]
    simp
  · rw [if_neg h]
    by_cases h2 : 0 ≤ j ∧ j < (m : Int)
    · rw [if_pos h2, if_pos ⟨h2.1, by omega⟩]
    · rw [if_neg h2, if_neg (by omega)]
end G294
