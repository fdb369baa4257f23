/- Slices of slices of bytes in memory: read, lying in an interval of blocks, and of the call's own with no two rows in one block. -/
import Derived.Test.YtlhipceepoenfaaDoorOwn
import Derived.Test.YtlhipceepoenfaaDoorMatMath
set_option linter.unusedSimpArgs false
set_option linter.unusedVariables false
namespace G294
open Go Go.RowKit

/-- the value v is seen in w as the rows L -/
def SeenM (w : World) (v : Value) (L : Mat) : Prop := ∃ vs : List Value, vs.length = L.length ∧ Seen w v vs ∧ ∀ i u, vs[i]? = some u → Seen w u (bys (L.getD i []))
section
variable {w w' : World} {v : Value} {L : Mat} {lo hi a b : Nat} {E EE : TypeId} {vs : List Value}
theorem SeenM.below (h : SeenM w v L) (hb : Below w.heap.size w w') : SeenM w' v L := by
  obtain ⟨vs, h1, h2, h3⟩ := h
  exact ⟨vs, h1, h2.below hb, fun i u hu => (h3 i u hu).below hb⟩
theorem SeenM.touch (h : SeenM w v L) (t : TurnIn 0 0 w w') : SeenM w' v L := h.below t.to_below
theorem SeenM.len (h : SeenM w v L) : ∃ A c, v = .slice A L.length c ∧ L.length ≤ c ∧ c ≤ maxLen := by
  obtain ⟨vs, h1, ⟨A, c, h2, h3, h4, _⟩, _⟩ := h
  exact ⟨A, c, by rw [h2, h1], by omega, h4⟩
/-- row i -/
theorem SeenM.row (h : SeenM w v L) (i : Nat) (hi : i < L.length) : ∃ bb off c u, v = .slice (some ⟨bb, off, none⟩) L.length c ∧ L.length ≤ c ∧ c ≤ maxLen ∧ bb < w.heap.size ∧ w.cell? ⟨bb, off + i, none⟩ = some u ∧ Seen w u (bys (L.getD i [])) := by
  obtain ⟨vs, h1, ⟨A, c, h2, h3, h4, h5⟩, h6⟩ := h
  obtain ⟨bb, off, rfl, hb, hc⟩ := h5 (by omega)
  have hi' : i < vs.length := by omega
  have e : vs[i]? = some vs[i] := List.getElem?_eq_getElem hi'
  exact ⟨bb, off, c, vs[i], by rw [h2, h1], by omega, h4, hb, hc i _ e, h6 i _ e⟩
/-- entry i, j -/
theorem SeenM.cell (h : SeenM w v L) (i j : Nat) (hi : i < L.length) (hj : j < (L.getD i []).length) : ∃ bb off c b' off' c', v = .slice (some ⟨bb, off, none⟩) L.length c ∧ L.length ≤ maxLen ∧ bb < w.heap.size ∧ b' < w.heap.size ∧
    w.cell? ⟨bb, off + i, none⟩ = some (.slice (some ⟨b', off', none⟩) (L.getD i []).length c') ∧ (L.getD i []).length ≤ maxLen ∧ w.cell? ⟨b', off' + j, none⟩ = some (.int .u8 ((ent L i j).toNat : Int)) := by
  obtain ⟨bb, off, c, u, h1, h2, h3, h4, h5, ⟨A, c', h6, h7, h8, h9⟩⟩ := h.row i hi
  rw [bys_length] at h6 h7 h9
  obtain ⟨b', off', rfl, hb', hc'⟩ := h9 (by omega)
  refine ⟨bb, off, c, b', off', c', h1, by omega, h4, hb', by rw [h5, h6], by omega, ?_⟩
  rw [hc' j _ (bys_get _ j hj)]
  have e : ent L i j = (L.getD i [])[j] := by
    unfold ent
    generalize L.getD i [] = l at hj ⊢
    simp [List.getD, hj]
  rw [e]

theorem owns_turn {n : Nat} {xs : List Value} (h : w.ownsRow lo E 1 v n xs) (h2 : ∀ g, v.ownBlock = some g → g < hi) (t : TurnIn a b w w') (d : hi ≤ a ∨ b ≤ lo) : w'.ownsRow lo E 1 v n xs := by
  refine ⟨h.1, ?_⟩
  rcases h.2 with hn | ⟨g, cap, cur, rfl, hbg, hg, rest⟩
  · exact .inl hn
  · refine .inr ⟨g, cap, cur, rfl, hbg, ?_, rest⟩
    have := h2 g rfl
    rw [t.block g (Array.getElem?_eq_some_iff.1 hg).1 (by omega)]
    exact hg
theorem OwnBytes.wider {l : List UInt8} {lo' hi' : Nat} (h : OwnBytes E w lo hi v l) (h1 : lo' ≤ lo) (h2 : hi ≤ hi') (h3 : hi' ≤ w.heap.size) : OwnBytes E w lo' hi' v l :=
  ⟨own_base h.1 h1, h3, fun g hg => by have := h.2.2 g hg; omega⟩
theorem OwnBytes.other {l : List UInt8} {row : Option Nat} (h : OwnBytes E w lo hi v l) (hg : w.grownBy w' row) (hne : ∀ g, v.ownBlock = some g → row ≠ some g) : OwnBytes E w' lo hi v l :=
  ⟨own_other h.1 hg hne, Nat.le_trans h.2.1 hg.size, h.2.2⟩

/-- rows of the call's own, in blocks from lo to hi, no two in one block; vs: the rows' values -/
structure OwnM (E EE : TypeId) (w : World) (lo hi : Nat) (v : Value) (L : Mat) (vs : List Value) : Prop where
  row : w.ownsRow lo EE 1 v L.length vs
  top : hi ≤ w.heap.size
  out : ∀ g, v.ownBlock = some g → g < hi
  rows : ∀ (i : Nat) (u : Value), vs[i]? = some u → OwnBytes E w lo hi u (L.getD i [])
  apart : ∀ (i : Nat) (u : Value) (g : Nat), vs[i]? = some u → u.ownBlock = some g → v.ownBlock ≠ some g ∧ ∀ (j : Nat) (u' : Value), vs[j]? = some u' → u'.ownBlock = some g → j = i
theorem OwnM.vlen (h : OwnM E EE w lo hi v L vs) : vs.length = L.length := by have := h.row.1; omega
theorem OwnM.keep (h : OwnM E EE w lo hi v L vs) (t : TurnIn a b w w') (d : hi ≤ a ∨ b ≤ lo) : OwnM E EE w' lo hi v L vs :=
  ⟨owns_turn h.row h.out t d, Nat.le_trans h.top t.size, h.out, fun i u hu => (h.rows i u hu).keep t d, h.apart⟩
theorem OwnM.seen (h : OwnM E EE w lo hi v L vs) : SeenM w v L := ⟨vs, h.vlen, Seen.of_own h.row, fun i u hu => (h.rows i u hu).seen⟩
theorem OwnM.wider {lo' hi' : Nat} (h : OwnM E EE w lo hi v L vs) (h1 : lo' ≤ lo) (h2 : hi ≤ hi') (h3 : hi' ≤ w.heap.size) : OwnM E EE w lo' hi' v L vs :=
  ⟨own_base h.row h1, h3, fun g hg => by have := h.out g hg; omega, fun i u hu => (h.rows i u hu).wider h1 h2 h3, h.apart⟩
theorem OwnM.at (h : OwnM E EE w lo hi v L vs) (i : Nat) (hi' : i < L.length) : ∃ u, vs[i]? = some u ∧ OwnBytes E w lo hi u (L.getD i []) := by
  have hl := h.vlen
  have e : vs[i]? = some (vs[i]'(by omega)) := List.getElem?_eq_getElem (by omega)
  exact ⟨_, e, h.rows i _ e⟩
theorem OwnM.congr {L' : Mat} (h : OwnM E EE w lo hi v L vs) (e : L = L') : OwnM E EE w lo hi v L' vs := e ▸ h
theorem OwnM.nil (E EE : TypeId) (w : World) (lo : Nat) : OwnM E EE w lo w.heap.size (.slice none 0 0) [] [] :=
  ⟨World.ownsRow_nil _ _ _ _, Nat.le_refl _, fun g h => by simp [Value.ownBlock] at h, fun i u h => by simp at h, fun i u g h => by simp at h⟩
theorem getD_set {α : Type} (l : List α) (k i : Nat) (x d : α) (hk : k < l.length) : (l.set k x).getD i d = if i = k then x else l.getD i d := by
  simp only [List.getD, List.getElem?_set]
  by_cases h : k = i
  · subst h; simp [hk]
  · have h' : ¬ i = k := fun e => h e.symm
    simp [h, h']
theorem get_set {α : Type} {l : List α} {k i : Nat} {x u : α} (h : (l.set k x)[i]? = some u) : (i = k ∧ u = x) ∨ (i ≠ k ∧ l[i]? = some u) := by
  rw [List.getElem?_set] at h
  by_cases e : k = i
  · subst e
    simp only [if_true] at h
    split at h
    · exact .inl ⟨rfl, (Option.some.inj h).symm⟩
    · simp at h
  · rw [if_neg e] at h
    exact .inr ⟨fun e' => e e'.symm, h⟩
/-- a new row is stored -/
theorem OwnM.put {g n cap k : Nat} {u : Value} {r : List UInt8} (h : OwnM E EE w lo hi (.slice (some ⟨g, 0, none⟩) n cap) L vs) (hn : n = L.length) (hk : k < L.length)
    (hu : OwnBytes E w a b u r) (h1 : hi ≤ a) (h2 : lo ≤ a) (h3 : a ≤ b) : OwnM E EE (w.setCell ⟨g, k, none⟩ u) lo b (.slice (some ⟨g, 0, none⟩) n cap) (L.set k r) (vs.set k u) := by
  subst hn
  have hst := h.row.stored k u
  have hg := h.out g rfl
  have hug : ∀ g', u.ownBlock = some g' → a ≤ g' ∧ g' < b := fun g' e => ⟨(hu.1.lt g' e).1, hu.2.2 g' e⟩
  have hold : ∀ (i : Nat) (u' : Value) (g' : Nat), vs[i]? = some u' → u'.ownBlock = some g' → g' < hi := fun i u' g' e1 e2 => (h.rows i u' e1).2.2 g' e2
  have hu' : OwnBytes E (w.setCell ⟨g, k, none⟩ u) lo b u r := (hu.other hst.2 (fun g' e => by have := hug g' e; simp; omega)).wider h2 (Nat.le_refl _) (by simpa using hu.2.1)
  refine ⟨by simpa using hst.1, by simpa using hu.2.1, fun g' e => by simp [Value.ownBlock] at e; omega, ?_, ?_⟩
  · intro i u' hi'
    rw [getD_set _ _ _ _ _ hk]
    rcases get_set hi' with ⟨rfl, rfl⟩ | ⟨hne, hi'⟩
    · simpa using hu'
    · rw [if_neg hne]
      exact ((h.rows i u' hi').other hst.2 (fun g' e => fun e2 => (h.apart i u' g' hi' e).1 (by simpa [Value.ownBlock] using e2))).wider (Nat.le_refl _) (by omega) (by simpa using hu.2.1)
  · intro i u' g' hi' hg'
    rcases get_set hi' with ⟨rfl, rfl⟩ | ⟨hne, hi2⟩
    · have := hug g' hg'
      refine ⟨by simp [Value.ownBlock]; omega, fun j u'' hj hg'' => ?_⟩
      rcases get_set hj with ⟨rfl, rfl⟩ | ⟨hne2, hj⟩
      · rfl
      · have := hold j u'' g' hj hg''; omega
    · refine ⟨(h.apart i u' g' hi2 hg').1, fun j u'' hj hg'' => ?_⟩
      rcases get_set hj with ⟨rfl, rfl⟩ | ⟨hne2, hj⟩
      · have := hug g' hg''; have := hold i u' g' hi2 hg'; omega
      · exact (h.apart i u' g' hi2 hg').2 j u'' hj hg''
/-- one row turns into another of the same length, in place -/
theorem OwnM.row_turn {k : Nat} {u : Value} {r : List UInt8} (h : OwnM E EE w lo hi v L vs) (hk : k < L.length) (hu : vs[k]? = some u) (hg : w.grownBy w' u.ownBlock)
    (ho : w'.ownsRow lo E 1 u r.length (bys r)) : OwnM E EE w' lo hi v (L.set k r) vs := by
  refine ⟨?_, Nat.le_trans h.top hg.size, h.out, ?_, h.apart⟩
  · rw [List.length_set]
    refine own_other h.row hg (fun g e1 e2 => (h.apart k u g hu e2).1 e1)
  · intro i u' hi'
    rw [getD_set _ _ _ _ _ hk]
    by_cases e : i = k
    · subst e
      obtain rfl : u = u' := Option.some.inj (hu.symm.trans hi')
      rw [if_pos rfl]
      exact ⟨ho, Nat.le_trans h.top hg.size, (h.rows i u hi').2.2⟩
    · rw [if_neg e]
      exact (h.rows i u' hi').other hg (fun g e1 e2 => e ((h.apart k u g hu e2).2 i u' hi' e1))
/-- one entry is stored -/
theorem OwnM.store {k j bb m cap' : Nat} {x : UInt8} (h : OwnM E EE w lo hi v L vs) (hk : k < L.length) (hu : vs[k]? = some (.slice (some ⟨bb, 0, none⟩) m cap')) :
    OwnM E EE (w.setCell ⟨bb, j, none⟩ (.int .u8 (x.toNat : Int))) lo hi v (L.set k ((L.getD k []).set j x)) vs := by
  have ho := (h.rows k _ hu).1
  have hm : m = (L.getD k []).length := by
    rcases ho.2 with ⟨hh, _⟩ | ⟨g', c', cur, hh, _⟩
    · simp at hh
    · simp at hh; exact hh.2.1
  rw [← hm] at ho
  have hst := ho.stored j (.int .u8 (x.toNat : Int))
  refine h.row_turn hk hu hst.2 ?_
  rw [List.length_set, ← hm]
  have e : bys ((L.getD k []).set j x) = (bys (L.getD k [])).set j (.int .u8 (x.toNat : Int)) := by simp [bys, List.map_set]
  rw [e]
  exact hst.1
/-- the value of a row that is not empty -/
theorem OwnBytes.slice {l : List UInt8} (h : OwnBytes E w lo hi v l) (hl : 0 < l.length) : ∃ g cap, v = .slice (some ⟨g, 0, none⟩) l.length cap ∧ lo ≤ g ∧ g < hi ∧ l.length ≤ cap ∧ cap ≤ maxLen := by
  rcases h.1.2 with ⟨_, hn⟩ | ⟨g, cap, cur, hh, hb, hg, hc1, hc2, _⟩
  · omega
  · exact ⟨g, cap, hh, hb, h.2.2 g (by rw [hh]; rfl), hc1, hc2⟩
theorem OwnM.slice (h : OwnM E EE w lo hi v L vs) (hl : 0 < L.length) : ∃ g cap, v = .slice (some ⟨g, 0, none⟩) L.length cap ∧ lo ≤ g ∧ g < hi ∧ L.length ≤ cap ∧ cap ≤ maxLen := by
  rcases h.row.2 with ⟨_, hn⟩ | ⟨g, cap, cur, hh, hb, hg, hc1, hc2, _⟩
  · omega
  · exact ⟨g, cap, hh, hb, h.out g (by rw [hh]; rfl), hc1, hc2⟩
theorem OwnM.isSlice (h : OwnM E EE w lo hi v L vs) : ∃ A n c, v = .slice A n c := by
  rcases h.row.2 with ⟨hh, _⟩ | ⟨g, cap, cur, hh, _⟩ <;> exact ⟨_, _, _, hh⟩
theorem OwnM.cellAt {g n cap k : Nat} {u : Value} (h : OwnM E EE w lo hi (.slice (some ⟨g, 0, none⟩) n cap) L vs) (hk : vs[k]? = some u) : w.cell? ⟨g, k, none⟩ = some u := by
  have hc := h.row.cells (g := g) rfl k u hk
  rwa [Addr.add_lit, Nat.zero_add] at hc
theorem OwnM.frozenAt {g n cap : Nat} (h : OwnM E EE w lo hi (.slice (some ⟨g, 0, none⟩) n cap) L vs) (k : Nat) : w.frozen? ⟨g, k, none⟩ = false := by
  have hn : n = L.length := by
    rcases h.row.2 with ⟨hh, _⟩ | ⟨g', c', cur, hh, _⟩
    · simp at hh
    · simp at hh; exact hh.2.1
  exact (hn ▸ h.row : w.ownsRow lo EE 1 (.slice (some ⟨g, 0, none⟩) n cap) n vs).frozenAt k
theorem OwnBytes.cellAt {g n cap k : Nat} {l : List UInt8} (h : OwnBytes E w lo hi (.slice (some ⟨g, 0, none⟩) n cap) l) (hk : k < l.length) : w.cell? ⟨g, k, none⟩ = some (.int .u8 ((l.getD k 0).toNat : Int)) := by
  have hc := h.1.cells (g := g) rfl k _ (bys_get l k hk)
  rw [Addr.add_lit, Nat.zero_add] at hc
  rw [hc]; simp [List.getD, hk]
theorem OwnBytes.frozenAt {g n cap : Nat} {l : List UInt8} (h : OwnBytes E w lo hi (.slice (some ⟨g, 0, none⟩) n cap) l) (k : Nat) : w.frozen? ⟨g, k, none⟩ = false := by
  have hn : n = l.length := by
    rcases h.1.2 with ⟨hh, _⟩ | ⟨g', c', cur, hh, _⟩
    · simp at hh
    · simp at hh; exact hh.2.1
  exact (hn ▸ h.1 : w.ownsRow lo E 1 (.slice (some ⟨g, 0, none⟩) n cap) n (bys l)).frozenAt k
theorem bys_zero (c : Nat) (f : Nat → UInt8) (h : ∀ j, j < c → f j = 0) : bys (mkRow c f) = List.replicate c (.int .u8 0) := by
  rw [mkRow_congr (g := fun _ => 0) h]
  simp [bys, mkRow, List.map_const']
theorem OwnM.drewN (h : OwnM E EE w lo hi v L vs) (q : Nat) : OwnM E EE (w.drewN q) lo hi v L vs := h.keep (a := 0) (b := 0) ⟨rfl, rfl, rfl, Nat.le_refl _, fun _ _ _ => rfl⟩ (by omega)
theorem mkM_store (r c : Nat) (F : Ents) (k j : Nat) (x : UInt8) (hk : k < r) : (mkM r c F).set k (((mkM r c F).getD k []).set j x) = mkM r c (fun i jj => if i = k ∧ jj = j then x else F i jj) := by
  rw [mkM_getD _ _ _ _ hk, mkRow_set, mkM_set]
  apply mkM_congr
  intro i jj hi hj
  by_cases h1 : i = k
  · subst h1; simp
  · simp [h1]
theorem OwnM.storeF {r c k j bb m cap' : Nat} {F : Ents} {x : UInt8} (h : OwnM E EE w lo hi v (mkM r c F) vs) (hk : k < r) (hu : vs[k]? = some (.slice (some ⟨bb, 0, none⟩) m cap')) :
    OwnM E EE (w.setCell ⟨bb, j, none⟩ (.int .u8 (x.toNat : Int))) lo hi v (mkM r c fun i jj => if i = k ∧ jj = j then x else F i jj) vs :=
  (h.store (by simpa using hk) hu).congr (mkM_store r c F k j x hk)
/-- row k of rows of the call's own -/
theorem OwnM.rowF {r c : Nat} {F : Ents} (h : OwnM E EE w lo hi v (mkM r c F) vs) (k : Nat) (hk : k < r) (hc : 0 < c) : ∃ bb cp, vs[k]? = some (.slice (some ⟨bb, 0, none⟩) c cp) ∧ lo ≤ bb ∧ bb < hi ∧ v.ownBlock ≠ some bb ∧ c ≤ cp ∧ cp ≤ maxLen ∧
    (∀ j, w.frozen? ⟨bb, j, none⟩ = false) ∧ ∀ j, j < c → w.cell? ⟨bb, j, none⟩ = some (.int .u8 ((F k j).toNat : Int)) := by
  obtain ⟨u, hu, ho⟩ := h.at k (by simpa using hk)
  rw [mkM_getD _ _ _ _ hk] at ho
  obtain ⟨bb, cp, rfl, h1, h2, h3, h4⟩ := ho.slice (by simpa using hc)
  rw [mkRow_length] at ho hu h3
  refine ⟨bb, cp, hu, h1, h2, (h.apart k _ bb hu rfl).1, h3, h4, ho.frozenAt, fun j hj => ?_⟩
  have := ho.cellAt (k := j) (by simpa using hj)
  rwa [mkRow_getD _ _ _ hj] at this
theorem OwnM.sliceF {r c : Nat} {F : Ents} (h : OwnM E EE w lo hi v (mkM r c F) vs) (hr : 0 < r) : ∃ g cp, v = .slice (some ⟨g, 0, none⟩) r cp ∧ lo ≤ g ∧ g < hi ∧ r ≤ cp ∧ cp ≤ maxLen := by
  have := h.slice (by simpa using hr)
  simpa using this

/-- two rows change places -/
theorem OwnM.swap {g n cap p q : Nat} {up uq : Value} {L' : Mat} (h : OwnM E EE w lo hi (.slice (some ⟨g, 0, none⟩) n cap) L vs) (hn : n = L.length) (hp : vs[p]? = some up) (hq : vs[q]? = some uq)
    (hl : L'.length = L.length) (hL : ∀ i, i < L.length → L'.getD i [] = L.getD (sw p q i) []) : OwnM E EE ((w.setCell ⟨g, p, none⟩ uq).setCell ⟨g, q, none⟩ up) lo hi (.slice (some ⟨g, 0, none⟩) n cap) L' ((vs.set p uq).set q up) := by
  subst hn
  have h1 := h.row.stored p uq
  have h2 := h1.1.stored q up
  have hpl : p < vs.length := (List.getElem?_eq_some_iff.1 hp).1
  have hql : q < vs.length := (List.getElem?_eq_some_iff.1 hq).1
  have hvl := h.vlen
  have key : ∀ (i : Nat) (u : Value), ((vs.set p uq).set q up)[i]? = some u → i < L.length ∧ vs[sw p q i]? = some u := by
    intro i u hi'
    have hil : i < L.length := by have := (List.getElem?_eq_some_iff.1 hi').1; simp at this; omega
    refine ⟨hil, ?_⟩
    unfold sw
    rcases get_set hi' with ⟨rfl, rfl⟩ | ⟨hne, hi'⟩
    · by_cases e : i = p
      · subst e; rw [if_pos rfl]; exact hp
      · rw [if_neg e, if_pos rfl]; exact hp
    · rcases get_set hi' with ⟨rfl, rfl⟩ | ⟨hne2, hi'⟩
      · rw [if_pos rfl]; exact hq
      · rw [if_neg hne2, if_neg hne]; exact hi'
  have hsw : ∀ i j, sw p q i = sw p q j → i = j := by
    intro i j; unfold sw
    intro e
    split at e <;> split at e <;> (try split at e) <;> (try split at e) <;> omega
  have hkeep : ∀ (i : Nat) (u : Value) (r : List UInt8), vs[i]? = some u → OwnBytes E w lo hi u r → OwnBytes E ((w.setCell ⟨g, p, none⟩ uq).setCell ⟨g, q, none⟩ up) lo hi u r := by
    intro i u r hi' ho
    have hne : ∀ g', u.ownBlock = some g' → (some g : Option Nat) ≠ some g' := fun g' e e2 => (h.apart i u g' hi' e).1 (by simpa [Value.ownBlock] using e2)
    exact (ho.other h1.2 hne).other h2.2 hne
  refine ⟨by rw [hl]; exact h2.1, by simpa using h.top, h.out, ?_, ?_⟩
  · intro i u hi'
    obtain ⟨a1, a2⟩ := key i u hi'
    rw [hL i a1]
    exact hkeep _ u _ a2 (h.rows _ u a2)
  · intro i u g' hi' hg'
    obtain ⟨a1, a2⟩ := key i u hi'
    refine ⟨(h.apart _ u g' a2 hg').1, fun j u'' hj hg'' => ?_⟩
    obtain ⟨b1, b2⟩ := key j u'' hj
    exact hsw _ _ ((h.apart _ u g' a2 hg').2 _ u'' b2 hg'')

theorem own_isSlice {base n : Nat} {e : TypeId} {xs : List Value} (h : w.ownsRow base e 1 v n xs) : ∃ A n' c, v = .slice A n' c := by
  rcases h.2 with ⟨hh, _⟩ | ⟨g, cap, cur, hh, _⟩ <;> exact ⟨_, _, _, hh⟩
theorem cell_past {W w1 : World} {row : Option Nat} {B : Nat} (k : TurnIn 0 0 w W) (hg : W.grownBy w1 row) (hne : row ≠ some B) (hB : B < w.heap.size) (o : Nat) : w1.cell? ⟨B, o, none⟩ = w.cell? ⟨B, o, none⟩ := by
  have h1 : W.heap[B]? = w.heap[B]? := k.block B hB (by omega)
  have h2 : w1.heap[B]? = W.heap[B]? := hg.block B (by have := k.size; omega) (fun e => hne e.symm)
  exact World.cell?_of_block (h2.trans h1)
theorem frozen_past {W w1 : World} {row : Option Nat} {B : Nat} (k : TurnIn 0 0 w W) (hg : W.grownBy w1 row) (hne : row ≠ some B) (hB : B < w.heap.size) (o : Nat) : w1.frozen? ⟨B, o, none⟩ = w.frozen? ⟨B, o, none⟩ := by
  have h1 : W.heap[B]? = w.heap[B]? := k.block B hB (by omega)
  have h2 : w1.heap[B]? = W.heap[B]? := hg.block B (by have := k.size; omega) (fun e => hne e.symm)
  exact World.frozen?_of_block (h2.trans h1)
/-- a new row is appended -/
theorem OwnM.push {W w1 : World} {v' u : Value} {r : List UInt8} (h : OwnM E EE w lo hi v L vs) (k : TurnIn 0 0 w W) (hu : OwnBytes E W a b u r) (h1 : hi ≤ a) (h2 : lo ≤ a)
    (ho : w1.ownsRow lo EE 1 v' (L.length + 1) (vs ++ [u])) (hg : W.grownBy w1 v.ownBlock) (hv : v'.ownBlock = v.ownBlock ∨ v'.ownBlock = some W.heap.size) : OwnM E EE w1 lo w1.heap.size v' (L ++ [r]) (vs ++ [u]) := by
  have hW := h.keep k (by omega)
  have hvl := h.vlen
  have hs := hg.size
  have hub : ∀ g, u.ownBlock = some g → a ≤ g ∧ g < W.heap.size := fun g e => ⟨(hu.1.lt g e).1, (hu.1.lt g e).2⟩
  have hob : ∀ g, v.ownBlock = some g → g < hi := h.out
  have key : ∀ (i : Nat) (x : Value), (vs ++ [u])[i]? = some x → (i < L.length ∧ vs[i]? = some x) ∨ (i = L.length ∧ x = u) := by
    intro i x hi'
    rcases Nat.lt_or_ge i vs.length with hlt | hge
    · rw [List.getElem?_append_left hlt] at hi'; exact .inl ⟨by omega, hi'⟩
    · rw [List.getElem?_append_right hge] at hi'
      have hx := (List.getElem?_eq_some_iff.1 hi').1
      simp at hx
      have : i - vs.length = 0 := by omega
      rw [this] at hi'
      simp at hi'
      exact .inr ⟨by omega, hi'.symm⟩
  refine ⟨by simpa using ho, Nat.le_refl _, fun g e => (ho.lt g e).2, ?_, ?_⟩
  · intro i x hi'
    rcases key i x hi' with ⟨h3, h4⟩ | ⟨rfl, rfl⟩
    · have e : (L ++ [r]).getD i [] = L.getD i [] := by simp [List.getD, List.getElem?_append_left h3]
      rw [e]
      exact ((hW.rows i x h4).other hg (fun g e1 e2 => (hW.apart i x g h4 e1).1 e2)).wider (Nat.le_refl _) (by have := hW.top; omega) (Nat.le_refl _)
    · have e : (L ++ [r]).getD L.length [] = r := by simp [List.getD]
      rw [e]
      exact (hu.other hg (fun g e1 e2 => by have := hub g e1; have := hob g e2; omega)).wider h2 (by have := hu.2.1; omega) (Nat.le_refl _)
  · intro i x g hi' hgx
    have hlt : g < W.heap.size := by
      rcases key i x hi' with ⟨_, h4⟩ | ⟨_, rfl⟩
      · exact ((hW.rows i x h4).1.lt g hgx).2
      · exact (hub g hgx).2
    have hne : v.ownBlock ≠ some g := by
      rcases key i x hi' with ⟨_, h4⟩ | ⟨_, rfl⟩
      · exact (hW.apart i x g h4 hgx).1
      · intro e; have := hub g hgx; have := hob g e; omega
    refine ⟨?_, ?_⟩
    · rcases hv with e | e <;> rw [e]
      · exact hne
      · simp; omega
    · intro j y hj hgy
      rcases key i x hi' with ⟨a1, a2⟩ | ⟨a1, a2⟩ <;> rcases key j y hj with ⟨b1, b2⟩ | ⟨b1, b2⟩
      · exact (hW.apart i x g a2 hgx).2 j y b2 hgy
      · subst b2; have := hub g hgy; have := (hW.rows i x a2).2.2 g hgx; omega
      · subst a2; have := hub g hgx; have := (hW.rows j y b2).2.2 g hgy; omega
      · omega

/-- read, and lying in blocks from lo to hi -/
structure LieM (w : World) (lo hi : Nat) (v : Value) (L : Mat) : Prop where
  top : hi ≤ w.heap.size
  ex : ∃ vs : List Value, vs.length = L.length ∧ (Seen w v vs ∧ ∀ g, v.ownBlock = some g → lo ≤ g ∧ g < hi) ∧ ∀ i u, vs[i]? = some u → Seen w u (bys (L.getD i [])) ∧ ∀ g, u.ownBlock = some g → lo ≤ g ∧ g < hi
theorem seen_turn {xs : List Value} (h : Seen w v xs) (h2 : ∀ g, v.ownBlock = some g → lo ≤ g ∧ g < hi) (t : TurnIn a b w w') (d : hi ≤ a ∨ b ≤ lo) : Seen w' v xs := by
  obtain ⟨A, c, rfl, h3, h4, h5⟩ := h
  refine ⟨A, c, rfl, h3, h4, fun hn => ?_⟩
  obtain ⟨bb, off, rfl, hb, hc⟩ := h5 hn
  have := h2 bb rfl
  have hs := t.size
  exact ⟨bb, off, rfl, by omega, fun i u hu => (World.cell?_of_block (t.block bb hb (by omega))).trans (hc i u hu)⟩
theorem LieM.keep (h : LieM w lo hi v L) (t : TurnIn a b w w') (d : hi ≤ a ∨ b ≤ lo) : LieM w' lo hi v L := by
  obtain ⟨h1, vs, h2, h3, h4⟩ := h
  exact ⟨Nat.le_trans h1 t.size, vs, h2, ⟨seen_turn h3.1 h3.2 t d, h3.2⟩, fun i u hu => ⟨seen_turn (h4 i u hu).1 (h4 i u hu).2 t d, (h4 i u hu).2⟩⟩
theorem LieM.seen (h : LieM w lo hi v L) : SeenM w v L := by
  obtain ⟨h1, vs, h2, h3, h4⟩ := h
  exact ⟨vs, h2, h3.1, fun i u hu => (h4 i u hu).1⟩
theorem OwnM.lie (h : OwnM E EE w lo hi v L vs) : LieM w lo hi v L :=
  ⟨h.top, vs, h.vlen, ⟨Seen.of_own h.row, fun g e => ⟨(h.row.lt g e).1, h.out g e⟩⟩, fun i u hu => ⟨(h.rows i u hu).seen, fun g e => ⟨((h.rows i u hu).1.lt g e).1, (h.rows i u hu).2.2 g e⟩⟩⟩
end

/-- new rows are returned -/
def RetM (E EE : TypeId) (w : World) (L : Mat) (e : Ending) (w' : World) : Prop := ∃ v vs, e = .returned v ∧ OwnM E EE w' w.heap.size w'.heap.size v L vs ∧ TurnIn 0 0 w w'
/-- a struct with new rows -/
def RetMat (E EE : TypeId) (w : World) (L : Mat) (e : Ending) (w' : World) : Prop := ∃ v vs, e = .returned (.agg #[v]) ∧ OwnM E EE w' w.heap.size w'.heap.size v L vs ∧ TurnIn 0 0 w w'
def RetMatOk (E EE : TypeId) (w : World) (L : Mat) (ok : Bool) (e : Ending) (w' : World) : Prop := ∃ v vs, e = .returned (.tuple #[.agg #[v], .bool ok]) ∧ OwnM E EE w' w.heap.size w'.heap.size v L vs ∧ TurnIn 0 0 w w'
/-- a struct with rows that lie in new blocks -/
def RetLie (w : World) (L : Mat) (e : Ending) (w' : World) : Prop := ∃ v, e = .returned (.agg #[v]) ∧ LieM w' w.heap.size w'.heap.size v L ∧ TurnIn 0 0 w w'
def RetLieOk (w : World) (L : Mat) (ok : Bool) (e : Ending) (w' : World) : Prop := ∃ v, e = .returned (.tuple #[.agg #[v], .bool ok]) ∧ LieM w' w.heap.size w'.heap.size v L ∧ TurnIn 0 0 w w'
def RetIntOk (w : World) (n : Int) (ok : Bool) (e : Ending) (w' : World) : Prop := e = .returned (.tuple #[.int .i64 n, .bool ok]) ∧ TurnIn 0 0 w w'

theorem turn_of_below {w w1 w' : World} (hb : Below w.heap.size w w1) (t : TurnIn 0 0 w1 w') : TurnIn 0 0 w w' := TurnIn.of_below (t.base hb hb.size (by omega))
theorem RetM.base {E EE : TypeId} {w w1 w' : World} {L : Mat} {e : Ending} (h : RetM E EE w1 L e w') (hb : Below w.heap.size w w1) : RetM E EE w L e w' := by
  obtain ⟨v, vs, he, h1, h2⟩ := h
  exact ⟨v, vs, he, h1.wider hb.size (Nat.le_refl _) (Nat.le_refl _), turn_of_below hb h2⟩
/-- entry i, j of a matrix that is given by its entries -/
theorem SeenM.cellF {w : World} {v : Value} {r c : Nat} {F : Ents} (h : SeenM w v (mkM r c F)) (i j : Nat) (hi : i < r) (hj : j < c) : ∃ bb off cp b' off' c', v = .slice (some ⟨bb, off, none⟩) r cp ∧ r ≤ maxLen ∧ bb < w.heap.size ∧ b' < w.heap.size ∧
    w.cell? ⟨bb, off + i, none⟩ = some (.slice (some ⟨b', off', none⟩) c c') ∧ c ≤ maxLen ∧ w.cell? ⟨b', off' + j, none⟩ = some (.int .u8 ((F i j).toNat : Int)) := by
  obtain ⟨bb, off, cp, b', off', c', h1, h2, h3, h4, h5, h6, h7⟩ := h.cell i j (by simpa using hi) (by rw [mkM_getD _ _ _ _ hi]; simpa using hj)
  rw [mkM_length] at h1 h2
  rw [mkM_getD _ _ _ _ hi, mkRow_length] at h5 h6
  rw [ent_mkM _ _ _ _ _ hi hj] at h7
  exact ⟨bb, off, cp, b', off', c', h1, h2, h3, h4, h5, h6, h7⟩
theorem SeenM.rowF {w : World} {v : Value} {r c : Nat} {F : Ents} (h : SeenM w v (mkM r c F)) (i : Nat) (hi : i < r) : ∃ bb off cp A c', v = .slice (some ⟨bb, off, none⟩) r cp ∧ r ≤ maxLen ∧ bb < w.heap.size ∧
    w.cell? ⟨bb, off + i, none⟩ = some (.slice A c c') ∧ c ≤ maxLen ∧ Seen w (.slice A c c') (bys (mkRow c (F i))) := by
  obtain ⟨bb, off, cp, u, h1, h2, h3, h4, h5, h6⟩ := h.row i (by simpa using hi)
  rw [mkM_length] at h1 h2
  rw [mkM_getD _ _ _ _ hi] at h6
  have h6' := h6
  obtain ⟨A, c', h7, h8, h9, _⟩ := h6
  simp only [bys_length, mkRow_length] at h7 h8
  rw [h7] at h5 h6'
  exact ⟨bb, off, cp, A, c', h1, by omega, h4, h5, by omega, h6'⟩

/-- marks of rows -/
def marksM : Nat → Mat → Mat
  | _, [] => []
  | k, r :: L => marks k r.length :: marksM (k + r.length) L
def sizM : Mat → Nat
  | [] => 0
  | r :: L => r.length + sizM L
theorem marksM_length (L : Mat) : ∀ k, (marksM k L).length = L.length := by
  induction L with
  | nil => intro k; rfl
  | cons r L ih => intro k; simp [marksM, ih]
theorem sizM_take_succ (L : Mat) (i : Nat) (hi : i < L.length) : sizM (L.take (i + 1)) = sizM (L.take i) + (L.getD i []).length := by
  induction L generalizing i with
  | nil => simp at hi
  | cons r L ih =>
    cases i with
    | zero => simp [sizM]
    | succ i =>
      have := ih i (by simpa using hi)
      simp only [List.take_succ_cons, sizM, List.getD_cons_succ] at this ⊢
      omega
theorem sizM_take_le (L : Mat) (i : Nat) : sizM (L.take i) ≤ sizM L := by
  induction L generalizing i with
  | nil => simp
  | cons r L ih =>
    cases i with
    | zero => simp [sizM]
    | succ i => have := ih i; simp only [List.take_succ_cons, sizM]; omega
theorem marksM_getD (L : Mat) : ∀ (k i : Nat), i < L.length → (marksM k L).getD i [] = marks (k + sizM (L.take i)) (L.getD i []).length := by
  induction L with
  | nil => intro k i h; simp at h
  | cons r L ih =>
    intro k i h
    cases i with
    | zero => simp [marksM, sizM]
    | succ i =>
      have := ih (k + r.length) i (by simpa using h)
      simp only [marksM, List.getD_cons_succ, List.take_succ_cons, sizM, this]
      rw [Nat.add_assoc]
theorem sizM_le_mul (L : Mat) (c : Nat) (h : ∀ i, i < L.length → (L.getD i []).length ≤ c) : sizM L ≤ L.length * c := by
  induction L with
  | nil => simp [sizM]
  | cons r L ih =>
    have h0 := h 0 (by simp)
    have h1 := ih (fun i hi => by have := h (i + 1) (by simpa using hi); simpa using this)
    simp only [sizM, List.length_cons, Nat.add_mul, Nat.one_mul]
    simp at h0
    omega
end G294
