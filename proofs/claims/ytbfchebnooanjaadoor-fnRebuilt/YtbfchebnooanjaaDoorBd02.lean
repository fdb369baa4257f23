/- Joined texts: MatMem, OpenMats, OpenPie, OpenStrp, FieldWalks, FieldWalksB, Shape. -/
import Derived.Test.YtbfchebnooanjaaDoorBd00
import Derived.Test.YtbfchebnooanjaaDoorBd01
import Derived.Test.YtbfchebnooanjaaDoorProg
import Derived.Deep.Matrix
import Derived.Lib.SmallJoins
import Derived.WalkKit
import Derived.WalkSpells
import Derived.WalkLawsBesides
import Derived.Lib.Hide
set_option linter.unusedSimpArgs false
set_option linter.unusedVariables false
/- Slices of slices of bytes in memory: read, lying in an interval of blocks, and of the call's own with no two rows in one block. -/
namespace G294
open Go Go.RowKit

/-- the value v is seen in w as the rows L -/
def SeenM (w : World) (v : Value) (L : Mat) : Prop := ∃ vs : List Value, vs.length = L.length ∧ Seen w v vs ∧ ∀ i u, vs[i]? = some u → Seen w u (bys (L.getD i []))
section
variable {w w' : World} {v : Value} {L : Mat} {lo hi a b : Nat} {E EE : TypeId} {vs : List Value}
theorem SeenM.below (h : SeenM w v L) (hb : Below w.heap.size w w') : SeenM w' v L := by
  obtain ⟨vs, h1, h2, h3⟩ := h
  exact ⟨vs, h1, h2.below hb, fun i u hu => (h3 i u hu).below hb⟩
theorem SeenM.touch (h : SeenM w v L) (t : TurnIn 0 0 w w') : SeenM w' v L := h.below t.to_below
theorem SeenM.len (h : SeenM w v L) : ∃ A c, v = .slice A L.length c ∧ L.length ≤ c ∧ c ≤ maxLen := by
  obtain ⟨vs, h1, ⟨A, c, h2, h3, h4, _⟩, _⟩ := h
  exact ⟨A, c, by rw [h2, h1], by omega, h4⟩
/-- row i -/
theorem SeenM.row (h : SeenM w v L) (i : Nat) (hi : i < L.length) : ∃ bb off c u, v = .slice (some ⟨bb, off, none⟩) L.length c ∧ L.length ≤ c ∧ c ≤ maxLen ∧ bb < w.heap.size ∧ w.cell? ⟨bb, off + i, none⟩ = some u ∧ Seen w u (bys (L.getD i [])) := by
  obtain ⟨vs, h1, ⟨A, c, h2, h3, h4, h5⟩, h6⟩ := h
  obtain ⟨bb, off, rfl, hb, hc⟩ := h5 (by omega)
  have hi' : i < vs.length := by omega
  have e : vs[i]? = some vs[i] := List.getElem?_eq_getElem hi'
  exact ⟨bb, off, c, vs[i], by rw [h2, h1], by omega, h4, hb, hc i _ e, h6 i _ e⟩
/-- entry i, j -/
theorem SeenM.cell (h : SeenM w v L) (i j : Nat) (hi : i < L.length) (hj : j < (L.getD i []).length) : ∃ bb off c b' off' c', v = .slice (some ⟨bb, off, none⟩) L.length c ∧ L.length ≤ maxLen ∧ bb < w.heap.size ∧ b' < w.heap.size ∧
    w.cell? ⟨bb, off + i, none⟩ = some (.slice (some ⟨b', off', none⟩) (L.getD i []).length c') ∧ (L.getD i []).length ≤ maxLen ∧ w.cell? ⟨b', off' + j, none⟩ = some (.int .u8 ((ent L i j).toNat : Int)) := by
  obtain ⟨bb, off, c, u, h1, h2, h3, h4, h5, ⟨A, c', h6, h7, h8, h9⟩⟩ := h.row i hi
  rw [bys_length] at h6 h7 h9
  obtain ⟨b', off', rfl, hb', hc'⟩ := h9 (by omega)
  refine ⟨bb, off, c, b', off', c', h1, by omega, h4, hb', by rw [h5, h6], by omega, ?_⟩
  rw [hc' j _ (bys_get _ j hj)]
  have e : ent L i j = (L.getD i [])[j] := by
    unfold ent
    generalize L.getD i [] = l at hj ⊢
    simp [List.getD, hj]
  rw [e]

theorem owns_turn {n : Nat} {xs : List Value} (h : w.ownsRow lo E 1 v n xs) (h2 : ∀ g, v.ownBlock = some g → g < hi) (t : TurnIn a b w w') (d : hi ≤ a ∨ b ≤ lo) : w'.ownsRow lo E 1 v n xs := by
  refine ⟨h.1, ?_⟩
  rcases h.2 with hn | ⟨g, cap, cur, rfl, hbg, hg, rest⟩
  · exact .inl hn
  · refine .inr ⟨g, cap, cur, rfl, hbg, ?_, rest⟩
    have := h2 g rfl
    rw [t.block g (Array.getElem?_eq_some_iff.1 hg).1 (by omega)]
    exact hg
theorem OwnBytes.wider {l : List UInt8} {lo' hi' : Nat} (h : OwnBytes E w lo hi v l) (h1 : lo' ≤ lo) (h2 : hi ≤ hi') (h3 : hi' ≤ w.heap.size) : OwnBytes E w lo' hi' v l :=
  ⟨own_base h.1 h1, h3, fun g hg => by have := h.2.2 g hg; omega⟩
theorem OwnBytes.other {l : List UInt8} {row : Option Nat} (h : OwnBytes E w lo hi v l) (hg : w.grownBy w' row) (hne : ∀ g, v.ownBlock = some g → row ≠ some g) : OwnBytes E w' lo hi v l :=
  ⟨own_other h.1 hg hne, Nat.le_trans h.2.1 hg.size, h.2.2⟩

/-- rows of the call's own, in blocks from lo to hi, no two in one block; vs: the rows' values -/
structure OwnM (E EE : TypeId) (w : World) (lo hi : Nat) (v : Value) (L : Mat) (vs : List Value) : Prop where
  row : w.ownsRow lo EE 1 v L.length vs
  top : hi ≤ w.heap.size
  out : ∀ g, v.ownBlock = some g → g < hi
  rows : ∀ (i : Nat) (u : Value), vs[i]? = some u → OwnBytes E w lo hi u (L.getD i [])
  apart : ∀ (i : Nat) (u : Value) (g : Nat), vs[i]? = some u → u.ownBlock = some g → v.ownBlock ≠ some g ∧ ∀ (j : Nat) (u' : Value), vs[j]? = some u' → u'.ownBlock = some g → j = i
theorem OwnM.vlen (h : OwnM E EE w lo hi v L vs) : vs.length = L.length := by have := h.row.1; omega
theorem OwnM.keep (h : OwnM E EE w lo hi v L vs) (t : TurnIn a b w w') (d : hi ≤ a ∨ b ≤ lo) : OwnM E EE w' lo hi v L vs :=
  ⟨owns_turn h.row h.out t d, Nat.le_trans h.top t.size, h.out, fun i u hu => (h.rows i u hu).keep t d, h.apart⟩
theorem OwnM.seen (h : OwnM E EE w lo hi v L vs) : SeenM w v L := ⟨vs, h.vlen, Seen.of_own h.row, fun i u hu => (h.rows i u hu).seen⟩
theorem OwnM.wider {lo' hi' : Nat} (h : OwnM E EE w lo hi v L vs) (h1 : lo' ≤ lo) (h2 : hi ≤ hi') (h3 : hi' ≤ w.heap.size) : OwnM E EE w lo' hi' v L vs :=
  ⟨own_base h.row h1, h3, fun g hg => by have := h.out g hg; omega, fun i u hu => (h.rows i u hu).wider h1 h2 h3, h.apart⟩
theorem OwnM.at (h : OwnM E EE w lo hi v L vs) (i : Nat) (hi' : i < L.length) : ∃ u, vs[i]? = some u ∧ OwnBytes E w lo hi u (L.getD i []) := by
  have hl := h.vlen
  have e : vs[i]? = some (vs[i]'(by omega)) := List.getElem?_eq_getElem (by omega)
  exact ⟨_, e, h.rows i _ e⟩
theorem OwnM.congr {L' : Mat} (h : OwnM E EE w lo hi v L vs) (e : L = L') : OwnM E EE w lo hi v L' vs := e ▸ h
theorem OwnM.nil (E EE : TypeId) (w : World) (lo : Nat) : OwnM E EE w lo w.heap.size (.slice none 0 0) [] [] :=
  ⟨World.ownsRow_nil _ _ _ _, Nat.le_refl _, fun g h => by simp [Value.ownBlock] at h, fun i u h => by simp at h, fun i u g h => by simp at h⟩
theorem getD_set {α : Type} (l : List α) (k i : Nat) (x d : α) (hk : k < l.length) : (l.set k x).getD i d = if i = k then x else l.getD i d := by
  simp only [List.getD, List.getElem?_set]
  by_cases h : k = i
  · subst h; simp [hk]
  · have h' : ¬ i = k := fun e => h e.symm
    simp [h, h']
theorem get_set {α : Type} {l : List α} {k i : Nat} {x u : α} (h : (l.set k x)[i]? = some u) : (i = k ∧ u = x) ∨ (i ≠ k ∧ l[i]? = some u) := by
  rw [List.getElem?_set] at h
  by_cases e : k = i
  · subst e
    simp only [if_true] at h
    split at h
    · exact .inl ⟨rfl, (Option.some.inj h).symm⟩
    · simp at h
  · rw [if_neg e] at h
    exact .inr ⟨fun e' => e e'.symm, h⟩
/-- a new row is stored -/
theorem OwnM.put {g n cap k : Nat} {u : Value} {r : List UInt8} (h : OwnM E EE w lo hi (.slice (some ⟨g, 0, none⟩) n cap) L vs) (hn : n = L.length) (hk : k < L.length)
    (hu : OwnBytes E w a b u r) (h1 : hi ≤ a) (h2 : lo ≤ a) (h3 : a ≤ b) : OwnM E EE (w.setCell ⟨g, k, none⟩ u) lo b (.slice (some ⟨g, 0, none⟩) n cap) (L.set k r) (vs.set k u) := by
  subst hn
  have hst := h.row.stored k u
  have hg := h.out g rfl
  have hug : ∀ g', u.ownBlock = some g' → a ≤ g' ∧ g' < b := fun g' e => ⟨(hu.1.lt g' e).1, hu.2.2 g' e⟩
  have hold : ∀ (i : Nat) (u' : Value) (g' : Nat), vs[i]? = some u' → u'.ownBlock = some g' → g' < hi := fun i u' g' e1 e2 => (h.rows i u' e1).2.2 g' e2
  have hu' : OwnBytes E (w.setCell ⟨g, k, none⟩ u) lo b u r := (hu.other hst.2 (fun g' e => by have := hug g' e; simp; omega)).wider h2 (Nat.le_refl _) (by simpa using hu.2.1)
  refine ⟨by simpa using hst.1, by simpa using hu.2.1, fun g' e => by simp [Value.ownBlock] at e; omega, ?_, ?_⟩
  · intro i u' hi'
    rw [getD_set _ _ _ _ _ hk]
    rcases get_set hi' with ⟨rfl, rfl⟩ | ⟨hne, hi'⟩
    · simpa using hu'
    · rw [if_neg hne]
      exact ((h.rows i u' hi').other hst.2 (fun g' e => fun e2 => (h.apart i u' g' hi' e).1 (by simpa [Value.ownBlock] using e2))).wider (Nat.le_refl _) (by omega) (by simpa using hu.2.1)
  · intro i u' g' hi' hg'
    rcases get_set hi' with ⟨rfl, rfl⟩ | ⟨hne, hi2⟩
    · have := hug g' hg'
      refine ⟨by simp [Value.ownBlock]; omega, fun j u'' hj hg'' => ?_⟩
      rcases get_set hj with ⟨rfl, rfl⟩ | ⟨hne2, hj⟩
      · rfl
      · have := hold j u'' g' hj hg''; omega
    · refine ⟨(h.apart i u' g' hi2 hg').1, fun j u'' hj hg'' => ?_⟩
      rcases get_set hj with ⟨rfl, rfl⟩ | ⟨hne2, hj⟩
      · have := hug g' hg''; have := hold i u' g' hi2 hg'; omega
      · exact (h.apart i u' g' hi2 hg').2 j u'' hj hg''
/-- one row turns into another of the same length, in place -/
theorem OwnM.row_turn {k : Nat} {u : Value} {r : List UInt8} (h : OwnM E EE w lo hi v L vs) (hk : k < L.length) (hu : vs[k]? = some u) (hg : w.grownBy w' u.ownBlock)
    (ho : w'.ownsRow lo E 1 u r.length (bys r)) : OwnM E EE w' lo hi v (L.set k r) vs := by
  refine ⟨?_, Nat.le_trans h.top hg.size, h.out, ?_, h.apart⟩
  · rw [List.length_set]
    refine own_other h.row hg (fun g e1 e2 => (h.apart k u g hu e2).1 e1)
  · intro i u' hi'
    rw [getD_set _ _ _ _ _ hk]
    by_cases e : i = k
    · subst e
      obtain rfl : u = u' := Option.some.inj (hu.symm.trans hi')
      rw [if_pos rfl]
      exact ⟨ho, Nat.le_trans h.top hg.size, (h.rows i u hi').2.2⟩
    · rw [if_neg e]
      exact (h.rows i u' hi').other hg (fun g e1 e2 => e ((h.apart k u g hu e2).2 i u' hi' e1))
/-- one entry is stored -/
theorem OwnM.store {k j bb m cap' : Nat} {x : UInt8} (h : OwnM E EE w lo hi v L vs) (hk : k < L.length) (hu : vs[k]? = some (.slice (some ⟨bb, 0, none⟩) m cap')) :
    OwnM E EE (w.setCell ⟨bb, j, none⟩ (.int .u8 (x.toNat : Int))) lo hi v (L.set k ((L.getD k []).set j x)) vs := by
  have ho := (h.rows k _ hu).1
  have hm : m = (L.getD k []).length := by
    rcases ho.2 with ⟨hh, _⟩ | ⟨g', c', cur, hh, _⟩
    · simp at hh
    · simp at hh; exact hh.2.1
  rw [← hm] at ho
  have hst := ho.stored j (.int .u8 (x.toNat : Int))
  refine h.row_turn hk hu hst.2 ?_
  rw [List.length_set, ← hm]
  have e : bys ((L.getD k []).set j x) = (bys (L.getD k [])).set j (.int .u8 (x.toNat : Int)) := by simp [bys, List.map_set]
  rw [e]
  exact hst.1
/-- the value of a row that is not empty -/
theorem OwnBytes.slice {l : List UInt8} (h : OwnBytes E w lo hi v l) (hl : 0 < l.length) : ∃ g cap, v = .slice (some ⟨g, 0, none⟩) l.length cap ∧ lo ≤ g ∧ g < hi ∧ l.length ≤ cap ∧ cap ≤ maxLen := by
  rcases h.1.2 with ⟨_, hn⟩ | ⟨g, cap, cur, hh, hb, hg, hc1, hc2, _⟩
  · omega
  · exact ⟨g, cap, hh, hb, h.2.2 g (by rw [hh]; rfl), hc1, hc2⟩
theorem OwnM.slice (h : OwnM E EE w lo hi v L vs) (hl : 0 < L.length) : ∃ g cap, v = .slice (some ⟨g, 0, none⟩) L.length cap ∧ lo ≤ g ∧ g < hi ∧ L.length ≤ cap ∧ cap ≤ maxLen := by
  rcases h.row.2 with ⟨_, hn⟩ | ⟨g, cap, cur, hh, hb, hg, hc1, hc2, _⟩
  · omega
  · exact ⟨g, cap, hh, hb, h.out g (by rw [hh]; rfl), hc1, hc2⟩
theorem OwnM.isSlice (h : OwnM E EE w lo hi v L vs) : ∃ A n c, v = .slice A n c := by
  rcases h.row.2 with ⟨hh, _⟩ | ⟨g, cap, cur, hh, _⟩ <;> exact ⟨_, _, _, hh⟩
theorem OwnM.cellAt {g n cap k : Nat} {u : Value} (h : OwnM E EE w lo hi (.slice (some ⟨g, 0, none⟩) n cap) L vs) (hk : vs[k]? = some u) : w.cell? ⟨g, k, none⟩ = some u := by
  have hc := h.row.cells (g := g) rfl k u hk
  rwa [Addr.add_lit, Nat.zero_add] at hc
theorem OwnM.frozenAt {g n cap : Nat} (h : OwnM E EE w lo hi (.slice (some ⟨g, 0, none⟩) n cap) L vs) (k : Nat) : w.frozen? ⟨g, k, none⟩ = false := by
  have hn : n = L.length := by
    rcases h.row.2 with ⟨hh, _⟩ | ⟨g', c', cur, hh, _⟩
    · simp at hh
    · simp at hh; exact hh.2.1
  exact (hn ▸ h.row : w.ownsRow lo EE 1 (.slice (some ⟨g, 0, none⟩) n cap) n vs).frozenAt k
theorem OwnBytes.cellAt {g n cap k : Nat} {l : List UInt8} (h : OwnBytes E w lo hi (.slice (some ⟨g, 0, none⟩) n cap) l) (hk : k < l.length) : w.cell? ⟨g, k, none⟩ = some (.int .u8 ((l.getD k 0).toNat : Int)) := by
  have hc := h.1.cells (g := g) rfl k _ (bys_get l k hk)
  rw [Addr.add_lit, Nat.zero_add] at hc
  rw [hc]; simp [List.getD, hk]
theorem OwnBytes.frozenAt {g n cap : Nat} {l : List UInt8} (h : OwnBytes E w lo hi (.slice (some ⟨g, 0, none⟩) n cap) l) (k : Nat) : w.frozen? ⟨g, k, none⟩ = false := by
  have hn : n = l.length := by
    rcases h.1.2 with ⟨hh, _⟩ | ⟨g', c', cur, hh, _⟩
    · simp at hh
    · simp at hh; exact hh.2.1
  exact (hn ▸ h.1 : w.ownsRow lo E 1 (.slice (some ⟨g, 0, none⟩) n cap) n (bys l)).frozenAt k
theorem bys_zero (c : Nat) (f : Nat → UInt8) (h : ∀ j, j < c → f j = 0) : bys (mkRow c f) = List.replicate c (.int .u8 0) := by
  rw [mkRow_congr (g := fun _ => 0) h]
  simp [bys, mkRow, List.map_const']
theorem OwnM.drewN (h : OwnM E EE w lo hi v L vs) (q : Nat) : OwnM E EE (w.drewN q) lo hi v L vs := h.keep (a := 0) (b := 0) ⟨rfl, rfl, rfl, Nat.le_refl _, fun _ _ _ => rfl⟩ (by omega)
theorem mkM_store (r c : Nat) (F : Ents) (k j : Nat) (x : UInt8) (hk : k < r) : (mkM r c F).set k (((mkM r c F).getD k []).set j x) = mkM r c (fun i jj => if i = k ∧ jj = j then x else F i jj) := by
  rw [mkM_getD _ _ _ _ hk, mkRow_set, mkM_set]
  apply mkM_congr
  intro i jj hi hj
  by_cases h1 : i = k
  · subst h1; simp
  · simp [h1]
theorem OwnM.storeF {r c k j bb m cap' : Nat} {F : Ents} {x : UInt8} (h : OwnM E EE w lo hi v (mkM r c F) vs) (hk : k < r) (hu : vs[k]? = some (.slice (some ⟨bb, 0, none⟩) m cap')) :
    OwnM E EE (w.setCell ⟨bb, j, none⟩ (.int .u8 (x.toNat : Int))) lo hi v (mkM r c fun i jj => if i = k ∧ jj = j then x else F i jj) vs :=
  (h.store (by simpa using hk) hu).congr (mkM_store r c F k j x hk)
/-- row k of rows of the call's own -/
theorem OwnM.rowF {r c : Nat} {F : Ents} (h : OwnM E EE w lo hi v (mkM r c F) vs) (k : Nat) (hk : k < r) (hc : 0 < c) : ∃ bb cp, vs[k]? = some (.slice (some ⟨bb, 0, none⟩) c cp) ∧ lo ≤ bb ∧ bb < hi ∧ v.ownBlock ≠ some bb ∧ c ≤ cp ∧ cp ≤ maxLen ∧
    (∀ j, w.frozen? ⟨bb, j, none⟩ = false) ∧ ∀ j, j < c → w.cell? ⟨bb, j, none⟩ = some (.int .u8 ((F k j).toNat : Int)) := by
  obtain ⟨u, hu, ho⟩ := h.at k (by simpa using hk)
  rw [mkM_getD _ _ _ _ hk] at ho
  obtain ⟨bb, cp, rfl, h1, h2, h3, h4⟩ := ho.slice (by simpa using hc)
  rw [mkRow_length] at ho hu h3
  refine ⟨bb, cp, hu, h1, h2, (h.apart k _ bb hu rfl).1, h3, h4, ho.frozenAt, fun j hj => ?_⟩
  have := ho.cellAt (k := j) (by simpa using hj)
  rwa [mkRow_getD _ _ _ hj] at this
theorem OwnM.sliceF {r c : Nat} {F : Ents} (h : OwnM E EE w lo hi v (mkM r c F) vs) (hr : 0 < r) : ∃ g cp, v = .slice (some ⟨g, 0, none⟩) r cp ∧ lo ≤ g ∧ g < hi ∧ r ≤ cp ∧ cp ≤ maxLen := by
  have := h.slice (by simpa using hr)
  simpa using this

/-- two rows change places -/
theorem OwnM.swap {g n cap p q : Nat} {up uq : Value} {L' : Mat} (h : OwnM E EE w lo hi (.slice (some ⟨g, 0, none⟩) n cap) L vs) (hn : n = L.length) (hp : vs[p]? = some up) (hq : vs[q]? = some uq)
    (hl : L'.length = L.length) (hL : ∀ i, i < L.length → L'.getD i [] = L.getD (sw p q i) []) : OwnM E EE ((w.setCell ⟨g, p, none⟩ uq).setCell ⟨g, q, none⟩ up) lo hi (.slice (some ⟨g, 0, none⟩) n cap) L' ((vs.set p uq).set q up) := by
  subst hn
  have h1 := h.row.stored p uq
  have h2 := h1.1.stored q up
  have hpl : p < vs.length := (List.getElem?_eq_some_iff.1 hp).1
  have hql : q < vs.length := (List.getElem?_eq_some_iff.1 hq).1
  have hvl := h.vlen
  have key : ∀ (i : Nat) (u : Value), ((vs.set p uq).set q up)[i]? = some u → i < L.length ∧ vs[sw p q i]? = some u := by
    intro i u hi'
    have hil : i < L.length := by have := (List.getElem?_eq_some_iff.1 hi').1; simp at this; omega
    refine ⟨hil, ?_⟩
    unfold sw
    rcases get_set hi' with ⟨rfl, rfl⟩ | ⟨hne, hi'⟩
    · by_cases e : i = p
      · subst e; rw [if_pos rfl]; exact hp
      · rw [if_neg e, if_pos rfl]; exact hp
    · rcases get_set hi' with ⟨rfl, rfl⟩ | ⟨hne2, hi'⟩
      · rw [if_pos rfl]; exact hq
      · rw [if_neg hne2, if_neg hne]; exact hi'
  have hsw : ∀ i j, sw p q i = sw p q j → i = j := by
    intro i j; unfold sw
    intro e
    split at e <;> split at e <;> (try split at e) <;> (try split at e) <;> omega
  have hkeep : ∀ (i : Nat) (u : Value) (r : List UInt8), vs[i]? = some u → OwnBytes E w lo hi u r → OwnBytes E ((w.setCell ⟨g, p, none⟩ uq).setCell ⟨g, q, none⟩ up) lo hi u r := by
    intro i u r hi' ho
    have hne : ∀ g', u.ownBlock = some g' → (some g : Option Nat) ≠ some g' := fun g' e e2 => (h.apart i u g' hi' e).1 (by simpa [Value.ownBlock] using e2)
    exact (ho.other h1.2 hne).other h2.2 hne
  refine ⟨by rw [hl]; exact h2.1, by simpa using h.top, h.out, ?_, ?_⟩
  · intro i u hi'
    obtain ⟨a1, a2⟩ := key i u hi'
    rw [hL i a1]
    exact hkeep _ u _ a2 (h.rows _ u a2)
  · intro i u g' hi' hg'
    obtain ⟨a1, a2⟩ := key i u hi'
    refine ⟨(h.apart _ u g' a2 hg').1, fun j u'' hj hg'' => ?_⟩
    obtain ⟨b1, b2⟩ := key j u'' hj
    exact hsw _ _ ((h.apart _ u g' a2 hg').2 _ u'' b2 hg'')

theorem own_isSlice {base n : Nat} {e : TypeId} {xs : List Value} (h : w.ownsRow base e 1 v n xs) : ∃ A n' c, v = .slice A n' c := by
  rcases h.2 with ⟨hh, _⟩ | ⟨g, cap, cur, hh, _⟩ <;> exact ⟨_, _, _, hh⟩
theorem cell_past {W w1 : World} {row : Option Nat} {B : Nat} (k : TurnIn 0 0 w W) (hg : W.grownBy w1 row) (hne : row ≠ some B) (hB : B < w.heap.size) (o : Nat) : w1.cell? ⟨B, o, none⟩ = w.cell? ⟨B, o, none⟩ := by
  have h1 : W.heap[B]? = w.heap[B]? := k.block B hB (by omega)
  have h2 : w1.heap[B]? = W.heap[B]? := hg.block B (by have := k.size; omega) (fun e => hne e.symm)
  exact World.cell?_of_block (h2.trans h1)
theorem frozen_past {W w1 : World} {row : Option Nat} {B : Nat} (k : TurnIn 0 0 w W) (hg : W.grownBy w1 row) (hne : row ≠ some B) (hB : B < w.heap.size) (o : Nat) : w1.frozen? ⟨B, o, none⟩ = w.frozen? ⟨B, o, none⟩ := by
  have h1 : W.heap[B]? = w.heap[B]? := k.block B hB (by omega)
  have h2 : w1.heap[B]? = W.heap[B]? := hg.block B (by have := k.size; omega) (fun e => hne e.symm)
  exact World.frozen?_of_block (h2.trans h1)
/-- a new row is appended -/
theorem OwnM.push {W w1 : World} {v' u : Value} {r : List UInt8} (h : OwnM E EE w lo hi v L vs) (k : TurnIn 0 0 w W) (hu : OwnBytes E W a b u r) (h1 : hi ≤ a) (h2 : lo ≤ a)
    (ho : w1.ownsRow lo EE 1 v' (L.length + 1) (vs ++ [u])) (hg : W.grownBy w1 v.ownBlock) (hv : v'.ownBlock = v.ownBlock ∨ v'.ownBlock = some W.heap.size) : OwnM E EE w1 lo w1.heap.size v' (L ++ [r]) (vs ++ [u]) := by
  have hW := h.keep k (by omega)
  have hvl := h.vlen
  have hs := hg.size
  have hub : ∀ g, u.ownBlock = some g → a ≤ g ∧ g < W.heap.size := fun g e => ⟨(hu.1.lt g e).1, (hu.1.lt g e).2⟩
  have hob : ∀ g, v.ownBlock = some g → g < hi := h.out
  have key : ∀ (i : Nat) (x : Value), (vs ++ [u])[i]? = some x → (i < L.length ∧ vs[i]? = some x) ∨ (i = L.length ∧ x = u) := by
    intro i x hi'
    rcases Nat.lt_or_ge i vs.length with hlt | hge
    · rw [List.getElem?_append_left hlt] at hi'; exact .inl ⟨by omega, hi'⟩
    · rw [List.getElem?_append_right hge] at hi'
      have hx := (List.getElem?_eq_some_iff.1 hi').1
      simp at hx
      have : i - vs.length = 0 := by omega
      rw [this] at hi'
      simp at hi'
      exact .inr ⟨by omega, hi'.symm⟩
  refine ⟨by simpa using ho, Nat.le_refl _, fun g e => (ho.lt g e).2, ?_, ?_⟩
  · intro i x hi'
    rcases key i x hi' with ⟨h3, h4⟩ | ⟨rfl, rfl⟩
    · have e : (L ++ [r]).getD i [] = L.getD i [] := by simp [List.getD, List.getElem?_append_left h3]
      rw [e]
      exact ((hW.rows i x h4).other hg (fun g e1 e2 => (hW.apart i x g h4 e1).1 e2)).wider (Nat.le_refl _) (by have := hW.top; omega) (Nat.le_refl _)
    · have e : (L ++ [r]).getD L.length [] = r := by simp [List.getD]
      rw [e]
      exact (hu.other hg (fun g e1 e2 => by have := hub g e1; have := hob g e2; omega)).wider h2 (by have := hu.2.1; omega) (Nat.le_refl _)
  · intro i x g hi' hgx
    have hlt : g < W.heap.size := by
      rcases key i x hi' with ⟨_, h4⟩ | ⟨_, rfl⟩
      · exact ((hW.rows i x h4).1.lt g hgx).2
      · exact (hub g hgx).2
    have hne : v.ownBlock ≠ some g := by
      rcases key i x hi' with ⟨_, h4⟩ | ⟨_, rfl⟩
      · exact (hW.apart i x g h4 hgx).1
      · intro e; have := hub g hgx; have := hob g e; omega
    refine ⟨?_, ?_⟩
    · rcases hv with e | e <;> rw [e]
      · exact hne
      · simp; omega
    · intro j y hj hgy
      rcases key i x hi' with ⟨a1, a2⟩ | ⟨a1, a2⟩ <;> rcases key j y hj with ⟨b1, b2⟩ | ⟨b1, b2⟩
      · exact (hW.apart i x g a2 hgx).2 j y b2 hgy
      · subst b2; have := hub g hgy; have := (hW.rows i x a2).2.2 g hgx; omega
      · subst a2; have := hub g hgx; have := (hW.rows j y b2).2.2 g hgy; omega
      · omega

/-- read, and lying in blocks from lo to hi -/
structure LieM (w : World) (lo hi : Nat) (v : Value) (L : Mat) : Prop where
  top : hi ≤ w.heap.size
  ex : ∃ vs : List Value, vs.length = L.length ∧ (Seen w v vs ∧ ∀ g, v.ownBlock = some g → lo ≤ g ∧ g < hi) ∧ ∀ i u, vs[i]? = some u → Seen w u (bys (L.getD i [])) ∧ ∀ g, u.ownBlock = some g → lo ≤ g ∧ g < hi
theorem seen_turn {xs : List Value} (h : Seen w v xs) (h2 : ∀ g, v.ownBlock = some g → lo ≤ g ∧ g < hi) (t : TurnIn a b w w') (d : hi ≤ a ∨ b ≤ lo) : Seen w' v xs := by
  obtain ⟨A, c, rfl, h3, h4, h5⟩ := h
  refine ⟨A, c, rfl, h3, h4, fun hn => ?_⟩
  obtain ⟨bb, off, rfl, hb, hc⟩ := h5 hn
  have := h2 bb rfl
  have hs := t.size
  exact ⟨bb, off, rfl, by omega, fun i u hu => (World.cell?_of_block (t.block bb hb (by omega))).trans (hc i u hu)⟩
theorem LieM.keep (h : LieM w lo hi v L) (t : TurnIn a b w w') (d : hi ≤ a ∨ b ≤ lo) : LieM w' lo hi v L := by
  obtain ⟨h1, vs, h2, h3, h4⟩ := h
  exact ⟨Nat.le_trans h1 t.size, vs, h2, ⟨seen_turn h3.1 h3.2 t d, h3.2⟩, fun i u hu => ⟨seen_turn (h4 i u hu).1 (h4 i u hu).2 t d, (h4 i u hu).2⟩⟩
theorem LieM.seen (h : LieM w lo hi v L) : SeenM w v L := by
  obtain ⟨h1, vs, h2, h3, h4⟩ := h
  exact ⟨vs, h2, h3.1, fun i u hu => (h4 i u hu).1⟩
theorem OwnM.lie (h : OwnM E EE w lo hi v L vs) : LieM w lo hi v L :=
  ⟨h.top, vs, h.vlen, ⟨Seen.of_own h.row, fun g e => ⟨(h.row.lt g e).1, h.out g e⟩⟩, fun i u hu => ⟨(h.rows i u hu).seen, fun g e => ⟨((h.rows i u hu).1.lt g e).1, (h.rows i u hu).2.2 g e⟩⟩⟩
end

/-- new rows are returned -/
def RetM (E EE : TypeId) (w : World) (L : Mat) (e : Ending) (w' : World) : Prop := ∃ v vs, e = .returned v ∧ OwnM E EE w' w.heap.size w'.heap.size v L vs ∧ TurnIn 0 0 w w'
/-- a struct with new rows -/
def RetMat (E EE : TypeId) (w : World) (L : Mat) (e : Ending) (w' : World) : Prop := ∃ v vs, e = .returned (.agg #[v]) ∧ OwnM E EE w' w.heap.size w'.heap.size v L vs ∧ TurnIn 0 0 w w'
def RetMatOk (E EE : TypeId) (w : World) (L : Mat) (ok : Bool) (e : Ending) (w' : World) : Prop := ∃ v vs, e = .returned (.tuple #[.agg #[v], .bool ok]) ∧ OwnM E EE w' w.heap.size w'.heap.size v L vs ∧ TurnIn 0 0 w w'
/-- a struct with rows that lie in new blocks -/
def RetLie (w : World) (L : Mat) (e : Ending) (w' : World) : Prop := ∃ v, e = .returned (.agg #[v]) ∧ LieM w' w.heap.size w'.heap.size v L ∧ TurnIn 0 0 w w'
def RetLieOk (w : World) (L : Mat) (ok : Bool) (e : Ending) (w' : World) : Prop := ∃ v, e = .returned (.tuple #[.agg #[v], .bool ok]) ∧ LieM w' w.heap.size w'.heap.size v L ∧ TurnIn 0 0 w w'
def RetIntOk (w : World) (n : Int) (ok : Bool) (e : Ending) (w' : World) : Prop := e = .returned (.tuple #[.int .i64 n, .bool ok]) ∧ TurnIn 0 0 w w'

theorem turn_of_below {w w1 w' : World} (hb : Below w.heap.size w w1) (t : TurnIn 0 0 w1 w') : TurnIn 0 0 w w' := TurnIn.of_below (t.base hb hb.size (by omega))
theorem RetM.base {E EE : TypeId} {w w1 w' : World} {L : Mat} {e : Ending} (h : RetM E EE w1 L e w') (hb : Below w.heap.size w w1) : RetM E EE w L e w' := by
  obtain ⟨v, vs, he, h1, h2⟩ := h
  exact ⟨v, vs, he, h1.wider hb.size (Nat.le_refl _) (Nat.le_refl _), turn_of_below hb h2⟩
/-- entry i, j of a matrix that is given by its entries -/
theorem SeenM.cellF {w : World} {v : Value} {r c : Nat} {F : Ents} (h : SeenM w v (mkM r c F)) (i j : Nat) (hi : i < r) (hj : j < c) : ∃ bb off cp b' off' c', v = .slice (some ⟨bb, off, none⟩) r cp ∧ r ≤ maxLen ∧ bb < w.heap.size ∧ b' < w.heap.size ∧
    w.cell? ⟨bb, off + i, none⟩ = some (.slice (some ⟨b', off', none⟩) c c') ∧ c ≤ maxLen ∧ w.cell? ⟨b', off' + j, none⟩ = some (.int .u8 ((F i j).toNat : Int)) := by
  obtain ⟨bb, off, cp, b', off', c', h1, h2, h3, h4, h5, h6, h7⟩ := h.cell i j (by simpa using hi) (by rw [mkM_getD _ _ _ _ hi]; simpa using hj)
  rw [mkM_length] at h1 h2
  rw [mkM_getD _ _ _ _ hi, mkRow_length] at h5 h6
  rw [ent_mkM _ _ _ _ _ hi hj] at h7
  exact ⟨bb, off, cp, b', off', c', h1, h2, h3, h4, h5, h6, h7⟩
theorem SeenM.rowF {w : World} {v : Value} {r c : Nat} {F : Ents} (h : SeenM w v (mkM r c F)) (i : Nat) (hi : i < r) : ∃ bb off cp A c', v = .slice (some ⟨bb, off, none⟩) r cp ∧ r ≤ maxLen ∧ bb < w.heap.size ∧
    w.cell? ⟨bb, off + i, none⟩ = some (.slice A c c') ∧ c ≤ maxLen ∧ Seen w (.slice A c c') (bys (mkRow c (F i))) := by
  obtain ⟨bb, off, cp, u, h1, h2, h3, h4, h5, h6⟩ := h.row i (by simpa using hi)
  rw [mkM_length] at h1 h2
  rw [mkM_getD _ _ _ _ hi] at h6
  have h6' := h6
  obtain ⟨A, c', h7, h8, h9, _⟩ := h6
  simp only [bys_length, mkRow_length] at h7 h8
  rw [h7] at h5 h6'
  exact ⟨bb, off, cp, A, c', h1, by omega, h4, h5, by omega, h6'⟩

/-- marks of rows -/
def marksM : Nat → Mat → Mat
  | _, [] => []
  | k, r :: L => marks k r.length :: marksM (k + r.length) L
def sizM : Mat → Nat
  | [] => 0
  | r :: L => r.length + sizM L
theorem marksM_length (L : Mat) : ∀ k, (marksM k L).length = L.length := by
  induction L with
  | nil => intro k; rfl
  | cons r L ih => intro k; simp [marksM, ih]
theorem sizM_take_succ (L : Mat) (i : Nat) (hi : i < L.length) : sizM (L.take (i + 1)) = sizM (L.take i) + (L.getD i []).length := by
  induction L generalizing i with
  | nil => simp at hi
  | cons r L ih =>
    cases i with
    | zero => simp [sizM]
    | succ i =>
      have := ih i (by simpa using hi)
      simp only [List.take_succ_cons, sizM, List.getD_cons_succ] at this ⊢
      omega
theorem sizM_take_le (L : Mat) (i : Nat) : sizM (L.take i) ≤ sizM L := by
  induction L generalizing i with
  | nil => simp
  | cons r L ih =>
    cases i with
    | zero => simp [sizM]
    | succ i => have := ih i; simp only [List.take_succ_cons, sizM]; omega
theorem marksM_getD (L : Mat) : ∀ (k i : Nat), i < L.length → (marksM k L).getD i [] = marks (k + sizM (L.take i)) (L.getD i []).length := by
  induction L with
  | nil => intro k i h; simp at h
  | cons r L ih =>
    intro k i h
    cases i with
    | zero => simp [marksM, sizM]
    | succ i =>
      have := ih (k + r.length) i (by simpa using h)
      simp only [marksM, List.getD_cons_succ, List.take_succ_cons, sizM, this]
      rw [Nat.add_assoc]
theorem sizM_le_mul (L : Mat) (c : Nat) (h : ∀ i, i < L.length → (L.getD i []).length ≤ c) : sizM L ≤ L.length * c := by
  induction L with
  | nil => simp [sizM]
  | cons r L ih =>
    have h0 := h 0 (by simp)
    have h1 := ih (fun i hi => by have := h (i + 1) (by simpa using hi); simpa using this)
    simp only [sizM, List.length_cons, Nat.add_mul, Nat.one_mul]
    simp at h0
    omega
end G294

/- From the readings of a law's arguments to what its walk asks: slices of ints, slices of slices of bytes, a struct of one such field. -/
namespace G294
open Go Go.ChangeShapes Go.WideShapes Go.ChangeAt Go.RowKit Go.Deep

def bytesOf (zs : List Int) : List UInt8 := zs.map fun z => UInt8.ofNat z.toNat
theorem bytesOf_length (zs : List Int) : (bytesOf zs).length = zs.length := by simp [bytesOf]
theorem bys_bytesOf {zs : List Int} (h : ∀ z ∈ zs, (Lit.int .u8 z).wf = true) : bys (bytesOf zs) = zs.map fun z => Value.int .u8 z := by
  simp only [bys, bytesOf, List.map_map]
  refine List.map_congr_left fun z hz => ?_
  have hb := bounds_u8 (h z hz)
  simp only [Function.comp, UInt8.toNat_ofNat']
  congr 1
  omega

section
variable {H : Type} {enc : TypeId × Value → H} {P : Program} {W : World} {base : Nat} {t e q : TypeId} {v : Value} {d : DataW H} {p : List MemPlace}
/-- a slice of ints that came in -/
theorem seen_ints (ht : P.underlying t = some (.slice e)) (he : P.underlying e = some (.int .i64)) (hc : P.cellsOf e = 1)
    (hv : Value.okWide P W .any base t v) (h : DataW.Trod enc P W 0 (fun _ => true) true t v d p) (hlt : ∀ x ∈ p, x.block < W.heap.size) : ∃ l : List Int, Seen W v (ints l) := by
  obtain ⟨a0, len, cap, rfl⟩ := okWide_slice ht hv
  obtain ⟨fuel, hf⟩ := h
  rcases open_ints ht he hc hf with ⟨hcs, hx⟩ | ⟨a, len', cap', zs, hcs, _, hl, hm, hz, hx, hcell, hwz⟩
  · have e1 : a0 = none ∧ len = 0 ∧ cap = 0 := by simpa [Value.cells] using hcs
    obtain ⟨rfl, rfl, rfl⟩ := e1
    exact ⟨[], Seen.nil W⟩
  · have e1 : a0 = some a ∧ len = len' ∧ cap = cap' := by simpa [Value.cells] using hcs
    obtain ⟨rfl, rfl, rfl⟩ := e1
    have hz' : zs.length = cap := by simpa using hz
    have hlen : (zs.take len).length = len := by rw [List.length_take]; omega
    refine ⟨zs.take len, some a, cap, by simp [hlen, hl, hz'], by simp [hl, hz'], hm, fun hn => ?_⟩
    rw [ints_length, hlen] at hn
    obtain ⟨b, off, rfl, hc'⟩ := ints_at hcell (by omega)
    refine ⟨b, off, rfl, World.block_lt_of_cell? W _ (hc' 0 (by omega)), fun i u hu => ?_⟩
    have hi : i < (zs.take len).length := by
      have := (List.getElem?_eq_some_iff.1 hu).1
      simpa using this
    rw [ints_get _ i hi] at hu
    rw [hlen] at hi
    rw [hc' i (by omega), ← Option.some.inj hu]
    simp [List.getD, show i < zs.length by omega]

/-- the cells of a slice of slices of bytes -/
theorem seen_rows {held : Bool} {fuel : Nat} {x : DataW H × List MemPlace} (ht : P.underlying t = some (.slice e)) (he : P.underlying e = some (.slice q)) (hq : P.underlying q = some (.int .u8)) (ce : P.cellsOf e = 1) (cq : P.cellsOf q = 1)
    (h : DataW.trod enc P W 0 (fun _ => true) held fuel t [v] = some x) : ∃ L : Mat, SeenM W v L := by
  rcases open_int_rows ht he hq ce cq h with ⟨hcs, _⟩ | ⟨a, len, cap, A, L, C, Z, hcs, _, hl, hm, _, hrow⟩
  · obtain rfl : v = .slice none 0 0 := by simpa using hcs
    exact ⟨[], [], rfl, Seen.nil W, fun i u hu => by simp at hu⟩
  · obtain rfl : v = .slice (some a) len cap := by simpa using hcs
    refine ⟨(List.range len).map fun r => bytesOf ((Z r).take (L r)), (List.range len).map fun r => .slice (A r) (L r) (C r), by simp, ?_, ?_⟩
    · refine ⟨some a, cap, by simp, by simp [hl], hm, fun hn => ?_⟩
      have hn' : 0 < len := by simpa using hn
      obtain ⟨b, off, spot⟩ := a
      have hspot : spot = none := by simpa [Addr.add] using World.cell?_spot (hrow 0 (by omega)).1
      subst hspot
      have hc' : ∀ i, i < len → W.cell? ⟨b, off + i, none⟩ = some (.slice (A i) (L i) (C i)) := fun i hi => by
        rw [← Go.WideShapes.add_plain]; exact (hrow i (by omega)).1
      refine ⟨b, off, rfl, World.block_lt_of_cell? W _ (hc' 0 hn'), fun i u hu => ?_⟩
      have hi : i < len := by have := (List.getElem?_eq_some_iff.1 hu).1; simpa using this
      rw [hc' i hi]
      rw [List.getElem?_map, List.getElem?_range hi] at hu
      simpa using hu
    · intro i u hu
      have hi : i < len := by have := (List.getElem?_eq_some_iff.1 hu).1; simpa using this
      rw [List.getElem?_map, List.getElem?_range hi] at hu
      have hu' : Value.slice (A i) (L i) (C i) = u := by simpa using hu
      subst hu'
      obtain ⟨r1, r2, r3, r4, r5, r6, r7⟩ := hrow i (by omega)
      have eg : ((List.range len).map fun r => bytesOf ((Z r).take (L r))).getD i [] = bytesOf ((Z i).take (L i)) := by simp [List.getD, hi]
      have hlen : (bytesOf ((Z i).take (L i))).length = L i := by rw [bytesOf_length, List.length_take]; omega
      rw [eg]
      refine ⟨A i, C i, by rw [bys_length, hlen], by rw [bys_length, hlen]; exact r2, r3, fun hn => ?_⟩
      rw [bys_length, hlen] at hn
      obtain ⟨a', ha'⟩ : ∃ a', A i = some a' := by
        cases hA : A i with
        | none => have := r6 hA; omega
        | some a' => exact ⟨a', rfl⟩
      obtain ⟨b', off', spot'⟩ := a'
      obtain ⟨_, hcc⟩ := r7 _ ha'
      have hspot : spot' = none := by simpa [Addr.add] using World.cell?_spot (hcc 0 (by omega))
      subst hspot
      have hc' : ∀ j, j < C i → W.cell? ⟨b', off' + j, none⟩ = some (.int .u8 ((Z i).getD j 0)) := fun j hj => by
        rw [← Go.WideShapes.add_plain]; exact hcc j hj
      refine ⟨b', off', ha', World.block_lt_of_cell? W _ (hc' 0 (by omega)), fun j u hu => ?_⟩
      have hj : j < L i := by have := (List.getElem?_eq_some_iff.1 hu).1; simpa [hlen] using this
      rw [bys_bytesOf (fun z hz => r5 z (List.mem_of_mem_take hz)), List.getElem?_map, List.getElem?_take, if_pos hj, List.getElem?_eq_getElem (by omega)] at hu
      simp only [Option.map_some, Option.some.injEq] at hu
      rw [hc' j (by omega), ← hu]
      simp [List.getD, show j < (Z i).length by omega]

/-- a struct of one field, a slice of slices of bytes, that came in -/
theorem seen_mat1 {s : TypeId} {f0 : Field} (hs : P.underlying s = some (.struct #[f0])) (ho : f0.offset = 0) (hf : f0.type = t) (cs1 : P.cellsOf s = 1) (ct : P.cellsOf t = 1)
    (ht : P.underlying t = some (.slice e)) (he : P.underlying e = some (.slice q)) (hq : P.underlying q = some (.int .u8)) (ce : P.cellsOf e = 1) (cq : P.cellsOf q = 1)
    (hv : Value.okWide P W .any base s v) (h : DataW.Trod enc P W 0 (fun _ => true) true s v d p) (hlt : ∀ x ∈ p, x.block < W.heap.size) : ∃ (y : Value) (L : Mat), v = .agg #[y] ∧ SeenM W y L := by
  obtain ⟨cs, rfl, hcs⟩ := okWide_struct hs hv
  rw [cs1] at hcs
  obtain ⟨y, rfl⟩ : ∃ y, cs = #[y] := by
    match cs, hcs with
    | ⟨[y]⟩, _ => exact ⟨y, rfl⟩
  obtain ⟨fuel, hfu⟩ := h
  obtain ⟨y0, n, _, _, hy⟩ := trod_struct1 hs hfu
  rw [ho, hf, ct] at hy
  have hy' : DataW.trod enc P W 0 (fun _ => true) true n t [y] = some y0 := by simpa [Value.cells] using hy
  obtain ⟨L, hL⟩ := seen_rows ht he hq ce cq hy'
  exact ⟨y, L, rfl, hL⟩
end
end G294
namespace Go.Proofs.YtbfchebnooanjaaDoor
open Go Go.ChangeShapes Go.WideShapes Go.ChangeAt Go.RowKit G294

end Go.Proofs.YtbfchebnooanjaaDoor

/- From the readings of a law's arguments to what its walk asks: a struct of an int and a slice of bytes. -/
namespace G294
open Go Go.ChangeShapes Go.WideShapes Go.ChangeAt Go.RowKit Go.Deep Go.Joins
section
variable {H : Type} {enc : TypeId × Value → H} {P : Program} {W : World} {base : Nat} {t e q s : TypeId} {v : Value} {d : DataW H} {p : List MemPlace} {f0 f1 : Field}
theorem seen_bytes1 {held : Bool} {fuel : Nat} {x : DataW H × List MemPlace} (ht : P.underlying t = some (.slice e)) (he : P.underlying e = some (.int .u8)) (hc : P.cellsOf e = 1)
    (h : DataW.trod enc P W 0 (fun _ => true) held fuel t [v] = some x) : ∃ l : List UInt8, Seen W v (bys l) := by
  rcases open_ints ht he hc h with ⟨hcs, hx⟩ | ⟨a, len, cap, zs, hcs, _, hl, hm, hz, hx, hcell, hwz⟩
  · obtain rfl : v = .slice none 0 0 := by simpa using hcs
    exact ⟨[], Seen.nil W⟩
  · obtain rfl : v = .slice (some a) len cap := by simpa using hcs
    have hz' : zs.length = cap := by simpa using hz
    obtain ⟨l, hbl, hll⟩ := bytes_of_wf (zs := zs.take len) (fun y hy => hwz y (List.mem_of_mem_take hy))
    have hlen : l.length = len := by rw [hll, List.length_take]; omega
    refine ⟨l, some a, cap, by simp [hlen], by simp [hlen, hl], hm, fun hn => ?_⟩
    rw [bys_length, hlen] at hn
    obtain ⟨b, off, rfl, hc'⟩ := ints_at hcell (by omega)
    refine ⟨b, off, rfl, World.block_lt_of_cell? W _ (hc' 0 (by omega)), fun i u hu => ?_⟩
    rw [← hbl] at hu
    simp only [List.getElem?_map, List.getElem?_take] at hu
    split at hu
    · rename_i hi
      rw [hc' i (by omega)]
      rw [List.getElem?_eq_getElem (by omega)] at hu
      simp only [Option.map_some, Option.some.injEq] at hu
      rw [← hu]
      simp [List.getD, show i < zs.length by omega]
    · simp at hu
theorem seen_piece (hs : P.underlying s = some (.struct #[f0, f1])) (hone : oneCellFields P #[f0, f1] = true) (hC : P.cellsOf s = 2) (u0 : P.underlying f0.type = some (.int .i64)) (ht : P.underlying f1.type = some (.slice e)) (he : P.underlying e = some (.int .u8)) (hc : P.cellsOf e = 1)
    (hv : Value.okWide P W .any base s v) (h : DataW.Trod enc P W 0 (fun _ => true) true s v d p) : ∃ (a : Int) (u : Value) (l : List UInt8), v = .agg #[.int .i64 a, u] ∧ Seen W u (bys l) := by
  obtain ⟨v0, v1, y0, y1, n, rfl, _, _, h0, h1⟩ := open_agg2 hs hone hC hv h
  obtain ⟨g, hg, _⟩ := DataW.trod_int u0 h0
  obtain ⟨l, hl⟩ := seen_bytes1 ht he hc h1
  simp only [List.cons.injEq, and_true] at hg
  exact ⟨g, v1, l, by rw [hg], hl⟩
end
end G294

/- From the readings of a law's arguments to what its walk asks: a struct of two slices of strings. -/
namespace G294
open Go Go.ChangeShapes Go.WideShapes Go.ChangeAt Go.RowKit Go.Deep Go.Joins
section
variable {H : Type} {enc : TypeId × Value → H} {P : Program} {W : World} {base : Nat} {t e q s : TypeId} {v : Value} {d : DataW H} {p : List MemPlace} {f0 f1 : Field}
theorem seen_strs1 {held : Bool} {fuel : Nat} {x : DataW H × List MemPlace} (ht : P.underlying t = some (.slice e)) (he : P.underlying e = some .string) (hc : P.cellsOf e = 1)
    (h : DataW.trod enc P W 0 (fun _ => true) held fuel t [v] = some x) : ∃ l : List (List UInt8), Seen W v (strs l) ∧ ∀ s ∈ l, s.length ≤ maxLen := by
  rcases open_strings ht he hc h with ⟨hcs, hx⟩ | ⟨a, len, cap, ss, hcs, _, hl, hm, hz, hx, hcell, hwz⟩
  · obtain rfl : v = .slice none 0 0 := by simpa using hcs
    exact ⟨[], Seen.nil W, fun s hs => by simp at hs⟩
  · obtain rfl : v = .slice (some a) len cap := by simpa using hcs
    have hz' : ss.length = cap := by simpa using hz
    have hlen : (ss.take len).length = len := by rw [List.length_take]; omega
    have es : strs ((ss.take len).map fun s => s.data.toList) = (ss.take len).map Value.string := by
      simp only [strs, List.map_map]
      exact List.map_congr_left fun s _ => by simp only [Function.comp]; rw [← str_eq]
    refine ⟨(ss.take len).map fun s => s.data.toList, ⟨some a, cap, by simp [hlen, hl, hz'], by simp [hl, hz'], hm, fun hn => ?_⟩, fun s hs => ?_⟩
    rotate_left
    · obtain ⟨b, hb, rfl⟩ := List.mem_map.1 hs
      have := hwz b (List.mem_of_mem_take hb)
      rw [Array.length_toList]
      exact this
    rw [strs_length, List.length_map, hlen] at hn
    obtain ⟨b, off, spot⟩ := a
    have hspot : spot = none := by simpa [Addr.add] using World.cell?_spot (hcell 0 (by omega))
    subst hspot
    have hc' : ∀ i, i < ss.length → W.cell? ⟨b, off + i, none⟩ = some (.string (ss.getD i ByteArray.empty)) := fun i hi => by
      rw [← Go.WideShapes.add_plain]; exact hcell i hi
    refine ⟨b, off, rfl, World.block_lt_of_cell? W _ (hc' 0 (by omega)), fun i u hu => ?_⟩
    rw [es, List.getElem?_map] at hu
    have hi : i < len := by
      rcases Nat.lt_or_ge i len with h | h
      · exact h
      · rw [List.getElem?_eq_none (by omega)] at hu; simp at hu
    rw [List.getElem?_take, if_pos hi, List.getElem?_eq_getElem (by omega)] at hu
    simp only [Option.map_some, Option.some.injEq] at hu
    rw [hc' i (by omega), ← hu]
    simp [List.getD, show i < ss.length by omega]
theorem seen_strp (hs : P.underlying s = some (.struct #[f0, f1])) (hone : oneCellFields P #[f0, f1] = true) (hC : P.cellsOf s = 2) (h0 : P.underlying f0.type = some (.slice e)) (h1 : P.underlying f1.type = some (.slice e)) (he : P.underlying e = some .string) (hc : P.cellsOf e = 1)
    (hv : Value.okWide P W .any base s v) (h : DataW.Trod enc P W 0 (fun _ => true) true s v d p) : ∃ (x u : Value) (l m : List (List UInt8)), v = .agg #[x, u] ∧ Seen W x (strs l) ∧ Seen W u (strs m) ∧ (∀ s ∈ l, s.length ≤ maxLen) ∧ ∀ s ∈ m, s.length ≤ maxLen := by
  obtain ⟨v0, v1, y0, y1, n, rfl, _, _, g0, g1⟩ := open_agg2 hs hone hC hv h
  obtain ⟨l, hl, ml⟩ := seen_strs1 h0 he hc g0
  obtain ⟨m, hm, mm⟩ := seen_strs1 h1 he hc g1
  exact ⟨v0, v1, l, m, rfl, hl, hm, ml, mm⟩
end
end G294

/- Contracts of chapter 1's functions, the program's and the model's: what each call returns; the world is left as it was. -/
namespace Go.Proofs.YtbfchebnooanjaaDoor
open Go.RowKit

/-- the table of remainders, as the program's text lays it -/
def Tab (w : World) : Prop := ∀ k, k < 7 → w.cell? ⟨0, k, none⟩ = some (.int .u8 (G294.tabN k : Nat))
theorem Tab.below {w w' : World} (h : Tab w) (hb : Below w.heap.size w w') (h0 : 0 < w.heap.size) : Tab w' := fun k hk => (hb.cell (p := ⟨0, k, none⟩) h0).trans (h k hk)
theorem ret_int {k : IntKind} {a b : Int} (h : a = b) : Ending.returned (.int k a) = .returned (.int k b) := by rw [h]

theorem and1_u8 (b : Nat) (hb : b < 256) (k : Nat) : bits BinOp.and IntKind.u8 ((b : Int) / 2 ^ k) 1 = ((G294.bit b k : Nat) : Int) := by
  have h1 : ((b : Int) / 2 ^ k) = ((b / 2 ^ k : Nat) : Int) := by simp
  have h2 : b / 2 ^ k < 256 := Nat.lt_of_le_of_lt (Nat.div_le_self _ _) hb
  rw [h1]
  have := u8_and_nat (b / 2 ^ k) 1 h2 (by omega)
  rw [show ((1 : Nat) : Int) = 1 from rfl] at this
  rw [this]; simp [G294.bit, Nat.and_one_is_mod]
theorem and1_u16 (b : Nat) (hb : b < 65536) (k : Nat) : bits BinOp.and IntKind.u16 ((b : Int) / 2 ^ k) 1 = ((G294.bit b k : Nat) : Int) := by
  have h1 : ((b : Int) / 2 ^ k) = ((b / 2 ^ k : Nat) : Int) := by simp
  have h2 : b / 2 ^ k < 65536 := Nat.lt_of_le_of_lt (Nat.div_le_self _ _) hb
  rw [h1]
  have := u16_and_nat (b / 2 ^ k) 1 h2 (by omega)
  rw [show ((1 : Nat) : Int) = 1 from rfl] at this
  rw [this]; simp [G294.bit, Nat.and_one_is_mod]
theorem test_bit {b k : Nat} {x : Bool} (e : (((G294.bit b k : Nat) : Int) == 1) = x) : (x = true ∧ G294.bit b k = 1) ∨ (x = false ∧ ¬ G294.bit b k = 1) := by
  cases x
  · right; exact ⟨rfl, by intro h; simp [h] at e⟩
  · left; refine ⟨rfl, ?_⟩; have := beq_iff_eq.1 e; omega

theorem pp_yes {a b k : Nat} (ha : a < 256) (hb : b < 256) (hk : k < 8) (h : (bits BinOp.and IntKind.u8 ((b : Int) / 2 ^ k) 1 == 1) = true) :
    bits BinOp.xor IntKind.u16 ((G294.pp a b k : Nat) : Int) (IntKind.u16.wrap ((a : Int) * 2 ^ k)) = ((G294.pp a b (k + 1) : Nat) : Int) := by
  rw [and1_u8 b hb] at h
  have hbit : G294.bit b k = 1 := by have := beq_iff_eq.1 h; omega
  have h1 : ((a : Int) * 2 ^ k) = ((a * 2 ^ k : Nat) : Int) := by simp
  have h2 := G294.shl_lt ha hk
  rw [h1, IntKind.wrap_u16]
  have h3 : ((a * 2 ^ k : Nat) : Int) % 65536 = ((a * 2 ^ k : Nat) : Int) := by omega
  rw [h3, u16_xor_nat _ _ (G294.pp_lt ha b k (by omega)) h2]
  simp [G294.pp, hbit]
theorem pp_no {a b k : Nat} (hb : b < 256) (h : (bits BinOp.and IntKind.u8 ((b : Int) / 2 ^ k) 1 == 1) = false) :
    ((G294.pp a b k : Nat) : Int) = ((G294.pp a b (k + 1) : Nat) : Int) := by
  rw [and1_u8 b hb] at h
  have hbit : ¬ G294.bit b k = 1 := by intro e; simp [e] at h
  simp [G294.pp, hbit]

set_option maxHeartbeats 400000 in
theorem pp_any (a b : Nat) (ha : a < 256) (hb : b < 256) (w : World) :
    Calls Tryd.prog 121 #[.int .u8 a, .int .u8 b] w fun e w' => e = .returned (.int .u16 (G294.pp a b 8 : Nat)) ∧ w = w' := by
  go_enter Tryd.func121, Tryd.ntmps121
  go_wp2
  go_loop [5, 7] (fun p i => ∃ k : Nat, k ≤ 8 ∧ i = .int .i64 k ∧ p = .int .u16 (G294.pp a b k : Nat)) (fun _ i => 8 - (intOf i).toNat)
  case atStart => exact ⟨0, by omega, rfl, rfl⟩
  case round =>
    obtain ⟨k, hk, rfl, rfl⟩ := hrel
    by_cases hlt : k < 8
    · go_wp2
      · have hy := pp_yes ha hb hlt ‹_›
        go_round
        case rel => exact ⟨k + 1, by omega, by go_num, by rw [hy]⟩
        case measure => simp [intOf]; omega
      · have hy := pp_no (a := a) hb ‹_›
        go_round
        case rel => exact ⟨k + 1, by omega, by go_num, by rw [hy]⟩
        case measure => simp [intOf]; omega
    · obtain rfl : k = 8 := by omega
      go_wp2
      go_ret
      exact ⟨rfl, rfl⟩

theorem rd_yes {p k : Nat} (hp : p < 65536) (hk : k < 7) (h : (bits BinOp.and IntKind.u16 ((p : Int) / 2 ^ (8 + k)) 1 == 1) = true) :
    bits BinOp.xor IntKind.u8 ((G294.rd p k : Nat) : Int) ((G294.tabN k : Nat) : Int) = ((G294.rd p (k + 1) : Nat) : Int) := by
  rw [and1_u16 p hp] at h
  have hbit : G294.bit p (8 + k) = 1 := by have := beq_iff_eq.1 h; omega
  rw [u8_xor_nat _ _ (G294.rd_lt p k) (G294.tabN_lt k)]
  simp [G294.rd, hbit]
theorem rd_no {p k : Nat} (hp : p < 65536) (h : (bits BinOp.and IntKind.u16 ((p : Int) / 2 ^ (8 + k)) 1 == 1) = false) :
    ((G294.rd p k : Nat) : Int) = ((G294.rd p (k + 1) : Nat) : Int) := by
  rw [and1_u16 p hp] at h
  have hbit : ¬ G294.bit p (8 + k) = 1 := by intro e; simp [e] at h
  simp [G294.rd, hbit]

set_option maxHeartbeats 400000 in
theorem rd_any (p : Nat) (hp : p < 65536) (w : World) (ht : Tab w) :
    Calls Tryd.prog 120 #[.int .u16 p] w fun e w' => e = .returned (.int .u8 (G294.rd p 7 : Nat)) ∧ w = w' := by
  go_enter Tryd.func120, Tryd.ntmps120
  go_wp2
  go_loop [3, 7] (fun r i => ∃ k : Nat, k ≤ 7 ∧ i = .int .i64 k ∧ r = .int .u8 (G294.rd p k : Nat)) (fun _ i => 7 - (intOf i).toNat)
  case atStart => exact ⟨0, by omega, rfl, by simp [G294.rd]⟩
  case round =>
    obtain ⟨k, hk, rfl, rfl⟩ := hrel
    by_cases hlt : k < 7
    · have hc := ht k hlt
      go_wp2
      · have hy := rd_yes hp hlt ‹_›
        go_round
        case rel => exact ⟨k + 1, by omega, by go_num, by rw [hy]⟩
        case measure => simp [intOf]; omega
      · have hy := rd_no hp ‹_›
        go_round
        case rel => exact ⟨k + 1, by omega, by go_num, by rw [hy]⟩
        case measure => simp [intOf]; omega
    · obtain rfl : k = 7 := by omega
      go_wp2
      go_ret
      exact ⟨rfl, rfl⟩

set_option maxHeartbeats 400000 in
theorem times_any (a b : Nat) (ha : a < 256) (hb : b < 256) (w : World) (ht : Tab w) :
    Calls Tryd.prog 105 #[.int .u8 a, .int .u8 b] w fun e w' => e = .returned (.int .u8 (G294.gm a b : Nat)) ∧ w = w' := by
  have hr := G294.rd_pp8 ha b
  have HR := Lib.hid hr
  clear hr
  go_enter Tryd.func105, Tryd.ntmps105
  go_wp2_with fail
  refine (pp_any a b ha hb _).mono ?_
  rintro e w' ⟨rfl, rfl⟩
  go_wp2_with fail
  refine (rd_any _ (G294.pp_lt ha b 8 (by omega)) _ ht).mono ?_
  rintro e w' ⟨rfl, rfl⟩
  go_wp2_with fail
  go_ret
  exact ⟨ret_int (by rw [HR.out]), rfl⟩

theorem bit_i64 {n : Nat} (hn : n < 9223372036854775808) : bits BinOp.and IntKind.i64 (n : Int) 1 = ((n % 2 : Nat) : Int) := by
  have ho : ∀ a : Nat, a < 9223372036854775808 → (BitVec.ofInt 64 (a : Int)).toNat = a := fun a ha => by
    rw [BitVec.ofInt_natCast, BitVec.toNat_ofNat]; exact Nat.mod_eq_of_lt (by omega)
  show IntKind.i64.wrap ((BitVec.ofInt 64 (n : Int) &&& BitVec.ofInt 64 ((1 : Nat) : Int)).toNat : Int) = _
  rw [BitVec.toNat_and, ho n hn, ho 1 (by omega), IntKind.wrap_i64, Nat.and_one_is_mod]
  omega

set_option maxHeartbeats 1000000 in
theorem powerOf_any (a n : Nat) (ha : a < 256) (hn : n ≤ 10000) (w : World) (ht : Tab w) :
    Calls Tryd.prog 119 #[.int .u8 a, .int .i64 n] w fun e w' => e = .returned (.int .u8 (G294.gp a n : Nat)) ∧ w = w' := by
  go_enter Tryd.func119, Tryd.ntmps119
  go_wp2
  go_loop [0, 1, 5] (fun x y p => ∃ b m q : Nat, b < 256 ∧ m ≤ 10000 ∧ q < 256 ∧ x = .int .u8 b ∧ y = .int .i64 m ∧ p = .int .u8 q ∧ Hid (G294.gm q (G294.gp b m) = G294.gp a n)) (fun _ y _ => (intOf y).toNat)
  case atStart => exact ⟨a, n, 1, ha, hn, by omega, rfl, rfl, rfl, by rw [G294.gm_one_left (G294.gp_lt ha n)]; rfl⟩
  case round =>
    obtain ⟨b, m, q, hb, hm, hq, rfl, rfl, rfl, HE⟩ := hrel
    by_cases hlt : 0 < m
    · have HS := Lib.hid (G294.gp_step (a := b) (n := m) (p := q) hb hq hlt)
      by_cases hodd : m % 2 = 1
      · have hbit : (bits BinOp.and IntKind.i64 (m : Int) 1 == 1) = true := by rw [bit_i64 (by omega), hodd]; rfl
        have HO := Lib.hid hodd
        clear hodd
        go_wp2_with fail
        refine (times_any q b hq hb _ ht).mono ?_
        rintro e w' ⟨rfl, rfl⟩
        go_wp2_with fail
        refine (times_any b b hb hb _ ht).mono ?_
        rintro e w' ⟨rfl, rfl⟩
        go_wp2_with fail
        go_round
        case rel => exact ⟨G294.gm b b, m / 2, G294.gm q b, G294.gm_lt hb b, by omega, G294.gm_lt hq b, rfl, by go_num, rfl, by have h := HS.out; rw [HE.out, if_pos HO.out] at h; exact h.symm⟩
        case measure => simp [intOf]; omega
      · have hbit : (bits BinOp.and IntKind.i64 (m : Int) 1 == 1) = false := by
          have : m % 2 = 0 := by omega
          rw [bit_i64 (by omega), this]; rfl
        have HO := Lib.hid hodd
        clear hodd
        go_wp2_with fail
        refine (times_any b b hb hb _ ht).mono ?_
        rintro e w' ⟨rfl, rfl⟩
        go_wp2_with fail
        go_round
        case rel => exact ⟨G294.gm b b, m / 2, q, G294.gm_lt hb b, by omega, hq, rfl, by go_num, rfl, by have h := HS.out; rw [HE.out, if_neg HO.out] at h; exact h.symm⟩
        case measure => simp [intOf]; omega
    · obtain rfl : m = 0 := by omega
      go_wp2_with fail
      go_ret
      exact ⟨ret_int (by have h := HE.out; simp only [G294.gp, G294.gm_one_right] at h; rw [h]), rfl⟩

set_option maxHeartbeats 400000 in
theorem inverse_any (a : Nat) (ha : a < 256) (w : World) (ht : Tab w) :
    Calls Tryd.prog 104 #[.int .u8 a] w fun e w' => e = .returned (.int .u8 (G294.gi a : Nat)) ∧ w = w' := by
  go_enter Tryd.func104, Tryd.ntmps104
  go_wp2_with fail
  refine (powerOf_any a 254 ha (by omega) _ ht).mono ?_
  rintro e w' ⟨rfl, rfl⟩
  go_wp2_with fail
  go_ret
  exact ⟨rfl, rfl⟩
end Go.Proofs.YtbfchebnooanjaaDoor

/- Contracts of chapter 1: LogOf, and the model's functions. -/
namespace Go.Proofs.YtbfchebnooanjaaDoor
open Go.RowKit

/-- what LogOf returns -/
def logV (a : Nat) : Value := if a = 0 then .tuple #[.int .i64 0, .bool false] else .tuple #[.int .i64 (G294.gl a : Nat), .bool true]

theorem xor_i64 {a b : Nat} (ha : a < 9223372036854775808) (hb : b < 9223372036854775808) : bits BinOp.xor IntKind.i64 (a : Int) (b : Int) = ((a ^^^ b : Nat) : Int) := by
  have ho : ∀ a : Nat, a < 9223372036854775808 → (BitVec.ofInt 64 (a : Int)).toNat = a := fun a ha => by
    rw [BitVec.ofInt_natCast, BitVec.toNat_ofNat]; exact Nat.mod_eq_of_lt (by omega)
  have hx : a ^^^ b < 2 ^ 63 := Nat.xor_lt_two_pow (by omega) (by omega)
  show IntKind.i64.wrap ((BitVec.ofInt 64 (a : Int) ^^^ BitVec.ofInt 64 (b : Int)).toNat : Int) = _
  rw [BitVec.toNat_xor, ho a ha, ho b hb, IntKind.wrap_i64]
  omega

set_option maxHeartbeats 1000000 in
theorem l1Times_any (a b : Nat) (ha : a < 256) (hb : b < 256) (w : World) :
    Calls Tryd.prog 61 #[.int .u8 a, .int .u8 b] w fun e w' => e = .returned (.int .u8 (G294.gm a b : Nat)) ∧ w = w' := by
  go_enter Tryd.func61, Tryd.ntmps61
  go_wp2
  go_loop [5, 6, 7] (fun o x y => ∃ k q p m : Nat, k ≤ 8 ∧ q < 256 ∧ p < 256 ∧ m < 256 ∧ o = .int .i64 q ∧ x = .int .i64 p ∧ y = .int .i64 m ∧ Hid (q = G294.st a b k) ∧ Hid (p = G294.xts k a) ∧ Hid (m = b / 2 ^ k)) (fun _ _ y => (intOf y).toNat)
  case atStart => exact ⟨0, 0, a, b, by omega, by omega, ha, hb, rfl, by simp, by simp, rfl, rfl, by show b = b / 2 ^ 0; omega⟩
  case round =>
    obtain ⟨k, q, p, m, hk, hq, hp, hm, rfl, rfl, rfl, HQ, HP, HM⟩ := hrel
    by_cases hlt : 0 < m
    · have hk8 : k < 8 := G294.k_lt_8 hb (by rw [← HM.out]; exact hlt)
      have HX := Lib.hid (xor_i64 (a := q) (b := p) (by omega) (by omega))
      have HXs := Lib.hid (G294.xs_xt p hp)
      have HX2 := Lib.hid (xor_i64 (a := p * 2) (b := 283) (by omega) (by omega))
      have hqp : q ^^^ p < 256 := G294.xor_lt hq hp
      have HM2 : Hid (m / 2 = b / 2 ^ (k + 1)) := by show m / 2 = _; rw [HM.out, G294.div_step]
      have HB : Hid (G294.bit b k = m % 2) := by show G294.bit b k = _; rw [HM.out]; rfl
      by_cases hodd : m % 2 = 1
      · have hbit : (bits BinOp.and IntKind.i64 (m : Int) 1 == 1) = true := by rw [bit_i64 (by omega), hodd]; rfl
        have HQ2 : Hid (q ^^^ p = G294.st a b (k + 1)) := by
          show q ^^^ p = _
          rw [G294.st, if_pos (by rw [HB.out]; exact hodd), ← HQ.out, ← HP.out]
        clear hodd
        by_cases hov : 255 < p * 2
        · have HPn : Hid (bits BinOp.xor IntKind.i64 ((p : Int) * 2) 283 = ((G294.xt p : Nat) : Int)) := by
            show bits BinOp.xor IntKind.i64 ((p : Int) * 2) 283 = _
            have h := HX2.out
            rw [← HXs.out, G294.xs, if_pos hov, ← h]; rfl
          go_wp2_with fail
          go_round
          case rel => exact ⟨k + 1, q ^^^ p, G294.xt p, m / 2, by omega, hqp, G294.xt_lt p, by omega, by rw [HX.out], by rw [HPn.out], by go_num, HQ2, by show G294.xt p = _; rw [HP.out]; rfl, HM2⟩
          case measure => simp [intOf]; omega
        · have HPn : Hid ((p : Int) * 2 = ((G294.xt p : Nat) : Int)) := by
            show (p : Int) * 2 = _
            rw [← HXs.out, G294.xs, if_neg hov]; simp
          go_wp2_with fail
          go_round
          case rel => exact ⟨k + 1, q ^^^ p, G294.xt p, m / 2, by omega, hqp, G294.xt_lt p, by omega, by rw [HX.out], by rw [HPn.out], by go_num, HQ2, by show G294.xt p = _; rw [HP.out]; rfl, HM2⟩
          case measure => simp [intOf]; omega
      · have hbit : (bits BinOp.and IntKind.i64 (m : Int) 1 == 1) = false := by
          have : m % 2 = 0 := by omega
          rw [bit_i64 (by omega), this]; rfl
        have HQ2 : Hid (q = G294.st a b (k + 1)) := by
          show q = _
          rw [G294.st, if_neg (by rw [HB.out]; exact hodd), ← HQ.out]
        clear hodd
        by_cases hov : 255 < p * 2
        · have HPn : Hid (bits BinOp.xor IntKind.i64 ((p : Int) * 2) 283 = ((G294.xt p : Nat) : Int)) := by
            show bits BinOp.xor IntKind.i64 ((p : Int) * 2) 283 = _
            have h := HX2.out
            rw [← HXs.out, G294.xs, if_pos hov, ← h]; rfl
          go_wp2_with fail
          go_round
          case rel => exact ⟨k + 1, q, G294.xt p, m / 2, by omega, hq, G294.xt_lt p, by omega, rfl, by rw [HPn.out], by go_num, HQ2, by show G294.xt p = _; rw [HP.out]; rfl, HM2⟩
          case measure => simp [intOf]; omega
        · have HPn : Hid ((p : Int) * 2 = ((G294.xt p : Nat) : Int)) := by
            show (p : Int) * 2 = _
            rw [← HXs.out, G294.xs, if_neg hov]; simp
          go_wp2_with fail
          go_round
          case rel => exact ⟨k + 1, q, G294.xt p, m / 2, by omega, hq, G294.xt_lt p, by omega, rfl, by rw [HPn.out], by go_num, HQ2, by show G294.xt p = _; rw [HP.out]; rfl, HM2⟩
          case measure => simp [intOf]; omega
    · obtain rfl : m = 0 := by omega
      go_wp2_with fail
      go_ret
      exact ⟨ret_int (by rw [HQ.out, G294.st_end a b k hk HM.out.symm]), rfl⟩

set_option maxHeartbeats 400000 in
theorem l1Power_any (a n : Nat) (ha : a < 256) (hn : n ≤ 10000) (w : World) :
    Calls Tryd.prog 106 #[.int .u8 a, .int .i64 n] w fun e w' => e = .returned (.int .u8 (G294.gp a n : Nat)) ∧ w = w' := by
  go_enter Tryd.func106, Tryd.ntmps106
  go_wp2
  go_loop [1, 5] (fun y p => ∃ m q : Nat, m ≤ n ∧ q < 256 ∧ y = .int .i64 m ∧ p = .int .u8 q ∧ Hid (q = G294.gp a (n - m))) (fun y _ => (intOf y).toNat)
  case atStart => exact ⟨n, 1, by omega, by omega, rfl, rfl, by show 1 = _; rw [Nat.sub_self]; rfl⟩
  case round =>
    obtain ⟨m, q, hm, hq, rfl, rfl, HQ⟩ := hrel
    by_cases hlt : 0 < m
    · have HQ2 : Hid (G294.gm q a = G294.gp a (n - (m - 1))) := by
        show G294.gm q a = _
        rw [HQ.out, show n - (m - 1) = (n - m) + 1 by omega]; rfl
      go_wp2_with fail
      refine (l1Times_any q a hq ha _).mono ?_
      rintro e w' ⟨rfl, rfl⟩
      go_wp2_with fail
      go_round
      case rel => exact ⟨m - 1, G294.gm q a, by omega, G294.gm_lt hq a, by go_num, rfl, HQ2⟩
      case measure => simp [intOf]; omega
    · obtain rfl : m = 0 := by omega
      go_wp2_with fail
      go_ret
      exact ⟨ret_int (by rw [HQ.out]; rfl), rfl⟩

set_option maxHeartbeats 400000 in
theorem l1Inverse_any (a : Nat) (ha : a < 256) (w : World) :
    Calls Tryd.prog 88 #[.int .u8 a] w fun e w' => e = .returned (.int .u8 (G294.gi a : Nat)) ∧ w = w' := by
  by_cases h0 : a = 0
  · subst h0
    have HZ := Lib.hid G294.gi_zero
    go_enter Tryd.func88, Tryd.ntmps88
    go_wp2_with fail
    go_ret
    exact ⟨ret_int (by rw [HZ.out]; rfl), rfl⟩
  · have hb : ((a : Int) == 0) = false := by simp; omega
    clear h0
    go_enter Tryd.func88, Tryd.ntmps88
    go_wp2_with fail
    refine (l1Power_any a 254 ha (by omega) _).mono ?_
    rintro e w' ⟨rfl, rfl⟩
    go_wp2_with fail
    go_ret
    exact ⟨rfl, rfl⟩

/-- l1In -/
def inB (n lo hi : Int) : Bool := decide (lo ≤ n ∧ n ≤ hi)
set_option maxHeartbeats 400000 in
theorem l1In_any (n lo hi : Int) (w : World) :
    Calls Tryd.prog 29 #[.int .i64 n, .int .i64 lo, .int .i64 hi] w fun e w' => e = .returned (.bool (inB n lo hi)) ∧ w = w' := by
  by_cases h1 : lo ≤ n
  · have hd : decide (lo ≤ n) = true := by simpa using h1
    by_cases h2 : n ≤ hi
    · have HV : Hid (inB n lo hi = true) := by show inB n lo hi = true; simp [inB, h1, h2]
      go_enter Tryd.func29, Tryd.ntmps29
      go_wp2_with fail
      go_ret
      exact ⟨by rw [HV.out]; simp [h2], rfl⟩
    · have HV : Hid (inB n lo hi = false) := by show inB n lo hi = false; simp [inB, h2]
      go_enter Tryd.func29, Tryd.ntmps29
      go_wp2_with fail
      go_ret
      exact ⟨by rw [HV.out]; simp [h2], rfl⟩
  · have hd : decide (lo ≤ n) = false := by simpa using h1
    have HV : Hid (inB n lo hi = false) := by show inB n lo hi = false; simp [inB, h1]
    go_enter Tryd.func29, Tryd.ntmps29
    go_wp2_with fail
    go_ret
    exact ⟨by rw [HV.out]; rfl, rfl⟩
end Go.Proofs.YtbfchebnooanjaaDoor

/- Shapes of codes: the program's goodDataCount and GoodShape, the model's GoodShape. -/
namespace G294
open Go Go.RowKit
def dataOk (k : Int) : Bool := decide (1 ≤ k ∧ k ≤ 8)
def shapeOk (k m : Int) : Bool := dataOk k && decide (1 ≤ m ∧ m ≤ 6)
theorem shapeOk_b {k m : Int} (h : shapeOk k m = true) : (1 ≤ k ∧ k ≤ 8) ∧ 1 ≤ m ∧ m ≤ 6 := by simpa [shapeOk, dataOk] using h
end G294
namespace Go.Proofs.YtbfchebnooanjaaDoor
open Go.RowKit G294

set_option maxHeartbeats 400000 in
theorem goodDataCount_any (n : Int) (w : World) : Calls Tryd.prog 36 #[.int .i64 n] w fun e w' => e = .returned (.bool (dataOk n)) ∧ w = w' := by
  by_cases h1 : 1 ≤ n
  · have hd : decide (1 ≤ n) = true := by simpa using h1
    by_cases h2 : n ≤ 8
    · have HV : Hid (dataOk n = true) := by show dataOk n = true; simp [dataOk, h1, h2]
      go_enter Tryd.func36, Tryd.ntmps36
      go_wp2_with fail
      go_ret
      exact ⟨by rw [HV.out]; simp [h2], rfl⟩
    · have HV : Hid (dataOk n = false) := by show dataOk n = false; simp [dataOk, h2]
      go_enter Tryd.func36, Tryd.ntmps36
      go_wp2_with fail
      go_ret
      exact ⟨by rw [HV.out]; simp [h2], rfl⟩
  · have hd : decide (1 ≤ n) = false := by simpa using h1
    have HV : Hid (dataOk n = false) := by show dataOk n = false; simp [dataOk, h1]
    go_enter Tryd.func36, Tryd.ntmps36
    go_wp2_with fail
    go_ret
    exact ⟨by rw [HV.out]; rfl, rfl⟩

set_option maxHeartbeats 1000000 in
theorem goodShape_any (k m : Int) (w : World) : Calls Tryd.prog 80 #[.int .i64 k, .int .i64 m] w fun e w' => e = .returned (.bool (shapeOk k m)) ∧ w = w' := by
  by_cases h : dataOk k = true
  · have HO := Lib.hid h
    clear h
    by_cases h1 : 1 ≤ m
    · have hd : decide (1 ≤ m) = true := by simpa using h1
      by_cases h2 : m ≤ 6
      · have hd2 : decide (m ≤ 6) = true := by simpa using h2
        have HV : Hid (shapeOk k m = true) := by show shapeOk k m = true; simp [shapeOk, HO.out, h1, h2]
        go_enter Tryd.func80, Tryd.ntmps80
        go_wp2_with fail
        refine (goodDataCount_any _ _).mono ?_
        rintro e w' ⟨rfl, rfl⟩
        rw [HO.out]
        go_wp2_with fail
        go_ret
        exact ⟨by rw [HV.out]; simp [h2], rfl⟩
      · have hd2 : decide (m ≤ 6) = false := by simpa using h2
        have HV : Hid (shapeOk k m = false) := by show shapeOk k m = false; simp [shapeOk, h2]
        go_enter Tryd.func80, Tryd.ntmps80
        go_wp2_with fail
        refine (goodDataCount_any _ _).mono ?_
        rintro e w' ⟨rfl, rfl⟩
        rw [HO.out]
        go_wp2_with fail
        go_ret
        exact ⟨by rw [HV.out]; simp [h2], rfl⟩
    · have hd : decide (1 ≤ m) = false := by simpa using h1
      have HV : Hid (shapeOk k m = false) := by show shapeOk k m = false; simp [shapeOk, h1]
      go_enter Tryd.func80, Tryd.ntmps80
      go_wp2_with fail
      refine (goodDataCount_any _ _).mono ?_
      rintro e w' ⟨rfl, rfl⟩
      rw [HO.out]
      go_wp2_with fail
      go_ret
      exact ⟨by rw [HV.out]; simp [h1], rfl⟩
  · have HO : Hid (dataOk k = false) := by show dataOk k = false; simpa using h
    have HV : Hid (shapeOk k m = false) := by show shapeOk k m = false; simp [shapeOk, HO.out]
    clear h
    go_enter Tryd.func80, Tryd.ntmps80
    go_wp2_with fail
    refine (goodDataCount_any _ _).mono ?_
    rintro e w' ⟨rfl, rfl⟩
    rw [HO.out]
    go_wp2_with fail
    go_ret
    exact ⟨by rw [HV.out]; rfl, rfl⟩

set_option maxHeartbeats 1000000 in
theorem sGoodShape_any (k m : Int) (w : World) : Calls Tryd.prog 58 #[.int .i64 k, .int .i64 m] w fun e w' => e = .returned (.bool (shapeOk k m)) ∧ w = w' := by
  by_cases h : dataOk k = true
  · have HO : Hid (inB k 1 8 = true) := h
    have HV : Hid (shapeOk k m = inB m 1 6) := by show shapeOk k m = inB m 1 6; simp [shapeOk, h, inB]
    clear h
    go_enter Tryd.func58, Tryd.ntmps58
    go_wp2_with fail
    refine (l1In_any _ _ _ _).mono ?_
    rintro e w' ⟨rfl, rfl⟩
    rw [HO.out]
    go_wp2_with fail
    refine (l1In_any _ _ _ _).mono ?_
    rintro e w' ⟨rfl, rfl⟩
    go_wp2_with fail
    go_ret
    exact ⟨by rw [HV.out]; rfl, rfl⟩
  · have HO : Hid (inB k 1 8 = false) := by show inB k 1 8 = false; simpa [dataOk, inB] using h
    have HV : Hid (shapeOk k m = false) := by show shapeOk k m = false; simp [shapeOk, h]
    clear h
    go_enter Tryd.func58, Tryd.ntmps58
    go_wp2_with fail
    refine (l1In_any _ _ _ _).mono ?_
    rintro e w' ⟨rfl, rfl⟩
    rw [HO.out]
    go_wp2_with fail
    go_ret
    exact ⟨by rw [HV.out]; rfl, rfl⟩

end Go.Proofs.YtbfchebnooanjaaDoor
