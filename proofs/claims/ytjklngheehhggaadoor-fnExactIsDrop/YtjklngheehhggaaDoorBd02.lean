/- Joined texts: MatMem, ShardMem, BytesWalks, MarkText, StrWalks, NewGrid. -/
import Derived.Test.YtjklngheehhggaaDoorBd00
import Derived.Test.YtjklngheehhggaaDoorBd01
import Derived.Test.YtjklngheehhggaaDoorProg
import Derived.Deep.QuietTactic
import Derived.BigQuiet
import Derived.Laws.Concat
import Derived.Deep.RegionHeld3
import Derived.Shelf.Abstract
set_option linter.unusedSimpArgs false
set_option linter.unusedVariables false
/- Slices of slices of bytes in memory: read, lying in an interval of blocks, and of the call's own with no two rows in one block. -/
namespace G294
open Go Go.RowKit

/-- the value v is seen in w as the rows L -/
def SeenM (w : World) (v : Value) (L : Mat) : Prop := ∃ vs : List Value, vs.length = L.length ∧ Seen w v vs ∧ ∀ i u, vs[i]? = some u → Seen w u (bys (L.getD i []))
section
variable {w w' : World} {v : Value} {L : Mat} {lo hi a b : Nat} {E EE : TypeId} {vs : List Value}
theorem SeenM.below (h : SeenM w v L) (hb : Below w.heap.size w w') : SeenM w' v L := by
  obtain ⟨vs, h1, h2, h3⟩ := h
  exact ⟨vs, h1, h2.below hb, fun i u hu => (h3 i u hu).below hb⟩
theorem SeenM.touch (h : SeenM w v L) (t : TurnIn 0 0 w w') : SeenM w' v L := h.below t.to_below
theorem SeenM.len (h : SeenM w v L) : ∃ A c, v = .slice A L.length c ∧ L.length ≤ c ∧ c ≤ maxLen := by
  obtain ⟨vs, h1, ⟨A, c, h2, h3, h4, _⟩, _⟩ := h
  exact ⟨A, c, by rw [h2, h1], by omega, h4⟩
/-- row i -/
theorem SeenM.row (h : SeenM w v L) (i : Nat) (hi : i < L.length) : ∃ bb off c u, v = .slice (some ⟨bb, off, none⟩) L.length c ∧ L.length ≤ c ∧ c ≤ maxLen ∧ bb < w.heap.size ∧ w.cell? ⟨bb, off + i, none⟩ = some u ∧ Seen w u (bys (L.getD i [])) := by
  obtain ⟨vs, h1, ⟨A, c, h2, h3, h4, h5⟩, h6⟩ := h
  obtain ⟨bb, off, rfl, hb, hc⟩ := h5 (by omega)
  have hi' : i < vs.length := by omega
  have e : vs[i]? = some vs[i] := List.getElem?_eq_getElem hi'
  exact ⟨bb, off, c, vs[i], by rw [h2, h1], by omega, h4, hb, hc i _ e, h6 i _ e⟩
/-- entry i, j -/
theorem SeenM.cell (h : SeenM w v L) (i j : Nat) (hi : i < L.length) (hj : j < (L.getD i []).length) : ∃ bb off c b' off' c', v = .slice (some ⟨bb, off, none⟩) L.length c ∧ L.length ≤ maxLen ∧ bb < w.heap.size ∧ b' < w.heap.size ∧
    w.cell? ⟨bb, off + i, none⟩ = some (.slice (some ⟨b', off', none⟩) (L.getD i []).length c') ∧ (L.getD i []).length ≤ maxLen ∧ w.cell? ⟨b', off' + j, none⟩ = some (.int .u8 ((ent L i j).toNat : Int)) := by
  obtain ⟨bb, off, c, u, h1, h2, h3, h4, h5, ⟨A, c', h6, h7, h8, h9⟩⟩ := h.row i hi
  rw [bys_length] at h6 h7 h9
  obtain ⟨b', off', rfl, hb', hc'⟩ := h9 (by omega)
  refine ⟨bb, off, c, b', off', c', h1, by omega, h4, hb', by rw [h5, h6], by omega, ?_⟩
  rw [hc' j _ (bys_get _ j hj)]
  have e : ent L i j = (L.getD i [])[j] := by
    unfold ent
    generalize L.getD i [] = l at hj ⊢
    simp [List.getD, hj]
  rw [e]

theorem owns_turn {n : Nat} {xs : List Value} (h : w.ownsRow lo E 1 v n xs) (h2 : ∀ g, v.ownBlock = some g → g < hi) (t : TurnIn a b w w') (d : hi ≤ a ∨ b ≤ lo) : w'.ownsRow lo E 1 v n xs := by
  refine ⟨h.1, ?_⟩
  rcases h.2 with hn | ⟨g, cap, cur, rfl, hbg, hg, rest⟩
  · exact .inl hn
  · refine .inr ⟨g, cap, cur, rfl, hbg, ?_, rest⟩
    have := h2 g rfl
    rw [t.block g (Array.getElem?_eq_some_iff.1 hg).1 (by omega)]
    exact hg
theorem OwnBytes.wider {l : List UInt8} {lo' hi' : Nat} (h : OwnBytes E w lo hi v l) (h1 : lo' ≤ lo) (h2 : hi ≤ hi') (h3 : hi' ≤ w.heap.size) : OwnBytes E w lo' hi' v l :=
  ⟨own_base h.1 h1, h3, fun g hg => by have := h.2.2 g hg; omega⟩
theorem OwnBytes.other {l : List UInt8} {row : Option Nat} (h : OwnBytes E w lo hi v l) (hg : w.grownBy w' row) (hne : ∀ g, v.ownBlock = some g → row ≠ some g) : OwnBytes E w' lo hi v l :=
  ⟨own_other h.1 hg hne, Nat.le_trans h.2.1 hg.size, h.2.2⟩

/-- rows of the call's own, in blocks from lo to hi, no two in one block; vs: the rows' values -/
structure OwnM (E EE : TypeId) (w : World) (lo hi : Nat) (v : Value) (L : Mat) (vs : List Value) : Prop where
  row : w.ownsRow lo EE 1 v L.length vs
  top : hi ≤ w.heap.size
  out : ∀ g, v.ownBlock = some g → g < hi
  rows : ∀ (i : Nat) (u : Value), vs[i]? = some u → OwnBytes E w lo hi u (L.getD i [])
  apart : ∀ (i : Nat) (u : Value) (g : Nat), vs[i]? = some u → u.ownBlock = some g → v.ownBlock ≠ some g ∧ ∀ (j : Nat) (u' : Value), vs[j]? = some u' → u'.ownBlock = some g → j = i
theorem OwnM.vlen (h : OwnM E EE w lo hi v L vs) : vs.length = L.length := by have := h.row.1; omega
theorem OwnM.keep (h : OwnM E EE w lo hi v L vs) (t : TurnIn a b w w') (d : hi ≤ a ∨ b ≤ lo) : OwnM E EE w' lo hi v L vs :=
  ⟨owns_turn h.row h.out t d, Nat.le_trans h.top t.size, h.out, fun i u hu => (h.rows i u hu).keep t d, h.apart⟩
theorem OwnM.seen (h : OwnM E EE w lo hi v L vs) : SeenM w v L := ⟨vs, h.vlen, Seen.of_own h.row, fun i u hu => (h.rows i u hu).seen⟩
theorem OwnM.wider {lo' hi' : Nat} (h : OwnM E EE w lo hi v L vs) (h1 : lo' ≤ lo) (h2 : hi ≤ hi') (h3 : hi' ≤ w.heap.size) : OwnM E EE w lo' hi' v L vs :=
  ⟨own_base h.row h1, h3, fun g hg => by have := h.out g hg; omega, fun i u hu => (h.rows i u hu).wider h1 h2 h3, h.apart⟩
theorem OwnM.at (h : OwnM E EE w lo hi v L vs) (i : Nat) (hi' : i < L.length) : ∃ u, vs[i]? = some u ∧ OwnBytes E w lo hi u (L.getD i []) := by
  have hl := h.vlen
  have e : vs[i]? = some (vs[i]'(by omega)) := List.getElem?_eq_getElem (by omega)
  exact ⟨_, e, h.rows i _ e⟩
theorem OwnM.congr {L' : Mat} (h : OwnM E EE w lo hi v L vs) (e : L = L') : OwnM E EE w lo hi v L' vs := e ▸ h
theorem OwnM.nil (E EE : TypeId) (w : World) (lo : Nat) : OwnM E EE w lo w.heap.size (.slice none 0 0) [] [] :=
  ⟨World.ownsRow_nil _ _ _ _, Nat.le_refl _, fun g h => by simp [Value.ownBlock] at h, fun i u h => by simp at h, fun i u g h => by simp at h⟩
theorem getD_set {α : Type} (l : List α) (k i : Nat) (x d : α) (hk : k < l.length) : (l.set k x).getD i d = if i = k then x else l.getD i d := by
  simp only [List.getD, List.getElem?_set]
  by_cases h : k = i
  · subst h; simp [hk]
  · have h' : ¬ i = k := fun e => h e.symm
    simp [h, h']
theorem get_set {α : Type} {l : List α} {k i : Nat} {x u : α} (h : (l.set k x)[i]? = some u) : (i = k ∧ u = x) ∨ (i ≠ k ∧ l[i]? = some u) := by
  rw [List.getElem?_set] at h
  by_cases e : k = i
  · subst e
    simp only [if_true] at h
    split at h
    · exact .inl ⟨rfl, (Option.some.inj h).symm⟩
    · simp at h
  · rw [if_neg e] at h
    exact .inr ⟨fun e' => e e'.symm, h⟩
/-- a new row is stored -/
theorem OwnM.put {g n cap k : Nat} {u : Value} {r : List UInt8} (h : OwnM E EE w lo hi (.slice (some ⟨g, 0, none⟩) n cap) L vs) (hn : n = L.length) (hk : k < L.length)
    (hu : OwnBytes E w a b u r) (h1 : hi ≤ a) (h2 : lo ≤ a) (h3 : a ≤ b) : OwnM E EE (w.setCell ⟨g, k, none⟩ u) lo b (.slice (some ⟨g, 0, none⟩) n cap) (L.set k r) (vs.set k u) := by
  subst hn
  have hst := h.row.stored k u
  have hg := h.out g rfl
  have hug : ∀ g', u.ownBlock = some g' → a ≤ g' ∧ g' < b := fun g' e => ⟨(hu.1.lt g' e).1, hu.2.2 g' e⟩
  have hold : ∀ (i : Nat) (u' : Value) (g' : Nat), vs[i]? = some u' → u'.ownBlock = some g' → g' < hi := fun i u' g' e1 e2 => (h.rows i u' e1).2.2 g' e2
  have hu' : OwnBytes E (w.setCell ⟨g, k, none⟩ u) lo b u r := (hu.other hst.2 (fun g' e => by have := hug g' e; simp; omega)).wider h2 (Nat.le_refl _) (by simpa using hu.2.1)
  refine ⟨by simpa using hst.1, by simpa using hu.2.1, fun g' e => by simp [Value.ownBlock] at e; omega, ?_, ?_⟩
  · intro i u' hi'
    rw [getD_set _ _ _ _ _ hk]
    rcases get_set hi' with ⟨rfl, rfl⟩ | ⟨hne, hi'⟩
    · simpa using hu'
    · rw [if_neg hne]
      exact ((h.rows i u' hi').other hst.2 (fun g' e => fun e2 => (h.apart i u' g' hi' e).1 (by simpa [Value.ownBlock] using e2))).wider (Nat.le_refl _) (by omega) (by simpa using hu.2.1)
  · intro i u' g' hi' hg'
    rcases get_set hi' with ⟨rfl, rfl⟩ | ⟨hne, hi2⟩
    · have := hug g' hg'
      refine ⟨by simp [Value.ownBlock]; omega, fun j u'' hj hg'' => ?_⟩
      rcases get_set hj with ⟨rfl, rfl⟩ | ⟨hne2, hj⟩
      · rfl
      · have := hold j u'' g' hj hg''; omega
    · refine ⟨(h.apart i u' g' hi2 hg').1, fun j u'' hj hg'' => ?_⟩
      rcases get_set hj with ⟨rfl, rfl⟩ | ⟨hne2, hj⟩
      · have := hug g' hg''; have := hold i u' g' hi2 hg'; omega
      · exact (h.apart i u' g' hi2 hg').2 j u'' hj hg''
/-- one row turns into another of the same length, in place -/
theorem OwnM.row_turn {k : Nat} {u : Value} {r : List UInt8} (h : OwnM E EE w lo hi v L vs) (hk : k < L.length) (hu : vs[k]? = some u) (hg : w.grownBy w' u.ownBlock)
    (ho : w'.ownsRow lo E 1 u r.length (bys r)) : OwnM E EE w' lo hi v (L.set k r) vs := by
  refine ⟨?_, Nat.le_trans h.top hg.size, h.out, ?_, h.apart⟩
  · rw [List.length_set]
    refine own_other h.row hg (fun g e1 e2 => (h.apart k u g hu e2).1 e1)
  · intro i u' hi'
    rw [getD_set _ _ _ _ _ hk]
    by_cases e : i = k
    · subst e
      obtain rfl : u = u' := Option.some.inj (hu.symm.trans hi')
      rw [if_pos rfl]
      exact ⟨ho, Nat.le_trans h.top hg.size, (h.rows i u hi').2.2⟩
    · rw [if_neg e]
      exact (h.rows i u' hi').other hg (fun g e1 e2 => e ((h.apart k u g hu e2).2 i u' hi' e1))
/-- one entry is stored -/
theorem OwnM.store {k j bb m cap' : Nat} {x : UInt8} (h : OwnM E EE w lo hi v L vs) (hk : k < L.length) (hu : vs[k]? = some (.slice (some ⟨bb, 0, none⟩) m cap')) :
    OwnM E EE (w.setCell ⟨bb, j, none⟩ (.int .u8 (x.toNat : Int))) lo hi v (L.set k ((L.getD k []).set j x)) vs := by
  have ho := (h.rows k _ hu).1
  have hm : m = (L.getD k []).length := by
    rcases ho.2 with ⟨hh, _⟩ | ⟨g', c', cur, hh, _⟩
    · simp at hh
    · simp at hh; exact hh.2.1
  rw [← hm] at ho
  have hst := ho.stored j (.int .u8 (x.toNat : Int))
  refine h.row_turn hk hu hst.2 ?_
  rw [List.length_set, ← hm]
  have e : bys ((L.getD k []).set j x) = (bys (L.getD k [])).set j (.int .u8 (x.toNat : Int)) := by simp [bys, List.map_set]
  rw [e]
  exact hst.1
/-- the value of a row that is not empty -/
theorem OwnBytes.slice {l : List UInt8} (h : OwnBytes E w lo hi v l) (hl : 0 < l.length) : ∃ g cap, v = .slice (some ⟨g, 0, none⟩) l.length cap ∧ lo ≤ g ∧ g < hi ∧ l.length ≤ cap ∧ cap ≤ maxLen := by
  rcases h.1.2 with ⟨_, hn⟩ | ⟨g, cap, cur, hh, hb, hg, hc1, hc2, _⟩
  · omega
  · exact ⟨g, cap, hh, hb, h.2.2 g (by rw [hh]; rfl), hc1, hc2⟩
theorem OwnM.slice (h : OwnM E EE w lo hi v L vs) (hl : 0 < L.length) : ∃ g cap, v = .slice (some ⟨g, 0, none⟩) L.length cap ∧ lo ≤ g ∧ g < hi ∧ L.length ≤ cap ∧ cap ≤ maxLen := by
  rcases h.row.2 with ⟨_, hn⟩ | ⟨g, cap, cur, hh, hb, hg, hc1, hc2, _⟩
  · omega
  · exact ⟨g, cap, hh, hb, h.out g (by rw [hh]; rfl), hc1, hc2⟩
theorem OwnM.isSlice (h : OwnM E EE w lo hi v L vs) : ∃ A n c, v = .slice A n c := by
  rcases h.row.2 with ⟨hh, _⟩ | ⟨g, cap, cur, hh, _⟩ <;> exact ⟨_, _, _, hh⟩
theorem OwnM.cellAt {g n cap k : Nat} {u : Value} (h : OwnM E EE w lo hi (.slice (some ⟨g, 0, none⟩) n cap) L vs) (hk : vs[k]? = some u) : w.cell? ⟨g, k, none⟩ = some u := by
  have hc := h.row.cells (g := g) rfl k u hk
  rwa [Addr.add_lit, Nat.zero_add] at hc
theorem OwnM.frozenAt {g n cap : Nat} (h : OwnM E EE w lo hi (.slice (some ⟨g, 0, none⟩) n cap) L vs) (k : Nat) : w.frozen? ⟨g, k, none⟩ = false := by
  have hn : n = L.length := by
    rcases h.row.2 with ⟨hh, _⟩ | ⟨g', c', cur, hh, _⟩
    · simp at hh
    · simp at hh; exact hh.2.1
  exact (hn ▸ h.row : w.ownsRow lo EE 1 (.slice (some ⟨g, 0, none⟩) n cap) n vs).frozenAt k
theorem OwnBytes.cellAt {g n cap k : Nat} {l : List UInt8} (h : OwnBytes E w lo hi (.slice (some ⟨g, 0, none⟩) n cap) l) (hk : k < l.length) : w.cell? ⟨g, k, none⟩ = some (.int .u8 ((l.getD k 0).toNat : Int)) := by
  have hc := h.1.cells (g := g) rfl k _ (bys_get l k hk)
  rw [Addr.add_lit, Nat.zero_add] at hc
  rw [hc]; simp [List.getD, hk]
theorem OwnBytes.frozenAt {g n cap : Nat} {l : List UInt8} (h : OwnBytes E w lo hi (.slice (some ⟨g, 0, none⟩) n cap) l) (k : Nat) : w.frozen? ⟨g, k, none⟩ = false := by
  have hn : n = l.length := by
    rcases h.1.2 with ⟨hh, _⟩ | ⟨g', c', cur, hh, _⟩
    · simp at hh
    · simp at hh; exact hh.2.1
  exact (hn ▸ h.1 : w.ownsRow lo E 1 (.slice (some ⟨g, 0, none⟩) n cap) n (bys l)).frozenAt k
theorem bys_zero (c : Nat) (f : Nat → UInt8) (h : ∀ j, j < c → f j = 0) : bys (mkRow c f) = List.replicate c (.int .u8 0) := by
  rw [mkRow_congr (g := fun _ => 0) h]
  simp [bys, mkRow, List.map_const']
theorem OwnM.drewN (h : OwnM E EE w lo hi v L vs) (q : Nat) : OwnM E EE (w.drewN q) lo hi v L vs := h.keep (a := 0) (b := 0) ⟨rfl, rfl, rfl, Nat.le_refl _, fun _ _ _ => rfl⟩ (by omega)
theorem mkM_store (r c : Nat) (F : Ents) (k j : Nat) (x : UInt8) (hk : k < r) : (mkM r c F).set k (((mkM r c F).getD k []).set j x) = mkM r c (fun i jj => if i = k ∧ jj = j then x else F i jj) := by
  rw [mkM_getD _ _ _ _ hk, mkRow_set, mkM_set]
  apply mkM_congr
  intro i jj hi hj
  by_cases h1 : i = k
  · subst h1; simp
  · simp [h1]
theorem OwnM.storeF {r c k j bb m cap' : Nat} {F : Ents} {x : UInt8} (h : OwnM E EE w lo hi v (mkM r c F) vs) (hk : k < r) (hu : vs[k]? = some (.slice (some ⟨bb, 0, none⟩) m cap')) :
    OwnM E EE (w.setCell ⟨bb, j, none⟩ (.int .u8 (x.toNat : Int))) lo hi v (mkM r c fun i jj => if i = k ∧ jj = j then x else F i jj) vs :=
  (h.store (by simpa using hk) hu).congr (mkM_store r c F k j x hk)
/-- row k of rows of the call's own -/
theorem OwnM.rowF {r c : Nat} {F : Ents} (h : OwnM E EE w lo hi v (mkM r c F) vs) (k : Nat) (hk : k < r) (hc : 0 < c) : ∃ bb cp, vs[k]? = some (.slice (some ⟨bb, 0, none⟩) c cp) ∧ lo ≤ bb ∧ bb < hi ∧ v.ownBlock ≠ some bb ∧ c ≤ cp ∧ cp ≤ maxLen ∧
    (∀ j, w.frozen? ⟨bb, j, none⟩ = false) ∧ ∀ j, j < c → w.cell? ⟨bb, j, none⟩ = some (.int .u8 ((F k j).toNat : Int)) := by
  obtain ⟨u, hu, ho⟩ := h.at k (by simpa using hk)
  rw [mkM_getD _ _ _ _ hk] at ho
  obtain ⟨bb, cp, rfl, h1, h2, h3, h4⟩ := ho.slice (by simpa using hc)
  rw [mkRow_length] at ho hu h3
  refine ⟨bb, cp, hu, h1, h2, (h.apart k _ bb hu rfl).1, h3, h4, ho.frozenAt, fun j hj => ?_⟩
  have := ho.cellAt (k := j) (by simpa using hj)
  rwa [mkRow_getD _ _ _ hj] at this
theorem OwnM.sliceF {r c : Nat} {F : Ents} (h : OwnM E EE w lo hi v (mkM r c F) vs) (hr : 0 < r) : ∃ g cp, v = .slice (some ⟨g, 0, none⟩) r cp ∧ lo ≤ g ∧ g < hi ∧ r ≤ cp ∧ cp ≤ maxLen := by
  have := h.slice (by simpa using hr)
  simpa using this

/-- two rows change places -/
theorem OwnM.swap {g n cap p q : Nat} {up uq : Value} {L' : Mat} (h : OwnM E EE w lo hi (.slice (some ⟨g, 0, none⟩) n cap) L vs) (hn : n = L.length) (hp : vs[p]? = some up) (hq : vs[q]? = some uq)
    (hl : L'.length = L.length) (hL : ∀ i, i < L.length → L'.getD i [] = L.getD (sw p q i) []) : OwnM E EE ((w.setCell ⟨g, p, none⟩ uq).setCell ⟨g, q, none⟩ up) lo hi (.slice (some ⟨g, 0, none⟩) n cap) L' ((vs.set p uq).set q up) := by
  subst hn
  have h1 := h.row.stored p uq
  have h2 := h1.1.stored q up
  have hpl : p < vs.length := (List.getElem?_eq_some_iff.1 hp).1
  have hql : q < vs.length := (List.getElem?_eq_some_iff.1 hq).1
  have hvl := h.vlen
  have key : ∀ (i : Nat) (u : Value), ((vs.set p uq).set q up)[i]? = some u → i < L.length ∧ vs[sw p q i]? = some u := by
    intro i u hi'
    have hil : i < L.length := by have := (List.getElem?_eq_some_iff.1 hi').1; simp at this; omega
    refine ⟨hil, ?_⟩
    unfold sw
    rcases get_set hi' with ⟨rfl, rfl⟩ | ⟨hne, hi'⟩
    · by_cases e : i = p
      · subst e; rw [if_pos rfl]; exact hp
      · rw [if_neg e, if_pos rfl]; exact hp
    · rcases get_set hi' with ⟨rfl, rfl⟩ | ⟨hne2, hi'⟩
      · rw [if_pos rfl]; exact hq
      · rw [if_neg hne2, if_neg hne]; exact hi'
  have hsw : ∀ i j, sw p q i = sw p q j → i = j := by
    intro i j; unfold sw
    intro e
    split at e <;> split at e <;> (try split at e) <;> (try split at e) <;> omega
  have hkeep : ∀ (i : Nat) (u : Value) (r : List UInt8), vs[i]? = some u → OwnBytes E w lo hi u r → OwnBytes E ((w.setCell ⟨g, p, none⟩ uq).setCell ⟨g, q, none⟩ up) lo hi u r := by
    intro i u r hi' ho
    have hne : ∀ g', u.ownBlock = some g' → (some g : Option Nat) ≠ some g' := fun g' e e2 => (h.apart i u g' hi' e).1 (by simpa [Value.ownBlock] using e2)
    exact (ho.other h1.2 hne).other h2.2 hne
  refine ⟨by rw [hl]; exact h2.1, by simpa using h.top, h.out, ?_, ?_⟩
  · intro i u hi'
    obtain ⟨a1, a2⟩ := key i u hi'
    rw [hL i a1]
    exact hkeep _ u _ a2 (h.rows _ u a2)
  · intro i u g' hi' hg'
    obtain ⟨a1, a2⟩ := key i u hi'
    refine ⟨(h.apart _ u g' a2 hg').1, fun j u'' hj hg'' => ?_⟩
    obtain ⟨b1, b2⟩ := key j u'' hj
    exact hsw _ _ ((h.apart _ u g' a2 hg').2 _ u'' b2 hg'')

theorem own_isSlice {base n : Nat} {e : TypeId} {xs : List Value} (h : w.ownsRow base e 1 v n xs) : ∃ A n' c, v = .slice A n' c := by
  rcases h.2 with ⟨hh, _⟩ | ⟨g, cap, cur, hh, _⟩ <;> exact ⟨_, _, _, hh⟩
theorem cell_past {W w1 : World} {row : Option Nat} {B : Nat} (k : TurnIn 0 0 w W) (hg : W.grownBy w1 row) (hne : row ≠ some B) (hB : B < w.heap.size) (o : Nat) : w1.cell? ⟨B, o, none⟩ = w.cell? ⟨B, o, none⟩ := by
  have h1 : W.heap[B]? = w.heap[B]? := k.block B hB (by omega)
  have h2 : w1.heap[B]? = W.heap[B]? := hg.block B (by have := k.size; omega) (fun e => hne e.symm)
  exact World.cell?_of_block (h2.trans h1)
theorem frozen_past {W w1 : World} {row : Option Nat} {B : Nat} (k : TurnIn 0 0 w W) (hg : W.grownBy w1 row) (hne : row ≠ some B) (hB : B < w.heap.size) (o : Nat) : w1.frozen? ⟨B, o, none⟩ = w.frozen? ⟨B, o, none⟩ := by
  have h1 : W.heap[B]? = w.heap[B]? := k.block B hB (by omega)
  have h2 : w1.heap[B]? = W.heap[B]? := hg.block B (by have := k.size; omega) (fun e => hne e.symm)
  exact World.frozen?_of_block (h2.trans h1)
/-- a new row is appended -/
theorem OwnM.push {W w1 : World} {v' u : Value} {r : List UInt8} (h : OwnM E EE w lo hi v L vs) (k : TurnIn 0 0 w W) (hu : OwnBytes E W a b u r) (h1 : hi ≤ a) (h2 : lo ≤ a)
    (ho : w1.ownsRow lo EE 1 v' (L.length + 1) (vs ++ [u])) (hg : W.grownBy w1 v.ownBlock) (hv : v'.ownBlock = v.ownBlock ∨ v'.ownBlock = some W.heap.size) : OwnM E EE w1 lo w1.heap.size v' (L ++ [r]) (vs ++ [u]) := by
  have hW := h.keep k (by omega)
  have hvl := h.vlen
  have hs := hg.size
  have hub : ∀ g, u.ownBlock = some g → a ≤ g ∧ g < W.heap.size := fun g e => ⟨(hu.1.lt g e).1, (hu.1.lt g e).2⟩
  have hob : ∀ g, v.ownBlock = some g → g < hi := h.out
  have key : ∀ (i : Nat) (x : Value), (vs ++ [u])[i]? = some x → (i < L.length ∧ vs[i]? = some x) ∨ (i = L.length ∧ x = u) := by
    intro i x hi'
    rcases Nat.lt_or_ge i vs.length with hlt | hge
    · rw [List.getElem?_append_left hlt] at hi'; exact .inl ⟨by omega, hi'⟩
    · rw [List.getElem?_append_right hge] at hi'
      have hx := (List.getElem?_eq_some_iff.1 hi').1
      simp at hx
      have : i - vs.length = 0 := by omega
      rw [this] at hi'
      simp at hi'
      exact .inr ⟨by omega, hi'.symm⟩
  refine ⟨by simpa using ho, Nat.le_refl _, fun g e => (ho.lt g e).2, ?_, ?_⟩
  · intro i x hi'
    rcases key i x hi' with ⟨h3, h4⟩ | ⟨rfl, rfl⟩
    · have e : (L ++ [r]).getD i [] = L.getD i [] := by simp [List.getD, List.getElem?_append_left h3]
      rw [e]
      exact ((hW.rows i x h4).other hg (fun g e1 e2 => (hW.apart i x g h4 e1).1 e2)).wider (Nat.le_refl _) (by have := hW.top; omega) (Nat.le_refl _)
    · have e : (L ++ [r]).getD L.length [] = r := by simp [List.getD]
      rw [e]
      exact (hu.other hg (fun g e1 e2 => by have := hub g e1; have := hob g e2; omega)).wider h2 (by have := hu.2.1; omega) (Nat.le_refl _)
  · intro i x g hi' hgx
    have hlt : g < W.heap.size := by
      rcases key i x hi' with ⟨_, h4⟩ | ⟨_, rfl⟩
      · exact ((hW.rows i x h4).1.lt g hgx).2
      · exact (hub g hgx).2
    have hne : v.ownBlock ≠ some g := by
      rcases key i x hi' with ⟨_, h4⟩ | ⟨_, rfl⟩
      · exact (hW.apart i x g h4 hgx).1
      · intro e; have := hub g hgx; have := hob g e; omega
    refine ⟨?_, ?_⟩
    · rcases hv with e | e <;> rw [e]
      · exact hne
      · simp; omega
    · intro j y hj hgy
      rcases key i x hi' with ⟨a1, a2⟩ | ⟨a1, a2⟩ <;> rcases key j y hj with ⟨b1, b2⟩ | ⟨b1, b2⟩
      · exact (hW.apart i x g a2 hgx).2 j y b2 hgy
      · subst b2; have := hub g hgy; have := (hW.rows i x a2).2.2 g hgx; omega
      · subst a2; have := hub g hgx; have := (hW.rows j y b2).2.2 g hgy; omega
      · omega

/-- read, and lying in blocks from lo to hi -/
structure LieM (w : World) (lo hi : Nat) (v : Value) (L : Mat) : Prop where
  top : hi ≤ w.heap.size
  ex : ∃ vs : List Value, vs.length = L.length ∧ (Seen w v vs ∧ ∀ g, v.ownBlock = some g → lo ≤ g ∧ g < hi) ∧ ∀ i u, vs[i]? = some u → Seen w u (bys (L.getD i [])) ∧ ∀ g, u.ownBlock = some g → lo ≤ g ∧ g < hi
theorem seen_turn {xs : List Value} (h : Seen w v xs) (h2 : ∀ g, v.ownBlock = some g → lo ≤ g ∧ g < hi) (t : TurnIn a b w w') (d : hi ≤ a ∨ b ≤ lo) : Seen w' v xs := by
  obtain ⟨A, c, rfl, h3, h4, h5⟩ := h
  refine ⟨A, c, rfl, h3, h4, fun hn => ?_⟩
  obtain ⟨bb, off, rfl, hb, hc⟩ := h5 hn
  have := h2 bb rfl
  have hs := t.size
  exact ⟨bb, off, rfl, by omega, fun i u hu => (World.cell?_of_block (t.block bb hb (by omega))).trans (hc i u hu)⟩
theorem LieM.keep (h : LieM w lo hi v L) (t : TurnIn a b w w') (d : hi ≤ a ∨ b ≤ lo) : LieM w' lo hi v L := by
  obtain ⟨h1, vs, h2, h3, h4⟩ := h
  exact ⟨Nat.le_trans h1 t.size, vs, h2, ⟨seen_turn h3.1 h3.2 t d, h3.2⟩, fun i u hu => ⟨seen_turn (h4 i u hu).1 (h4 i u hu).2 t d, (h4 i u hu).2⟩⟩
theorem LieM.seen (h : LieM w lo hi v L) : SeenM w v L := by
  obtain ⟨h1, vs, h2, h3, h4⟩ := h
  exact ⟨vs, h2, h3.1, fun i u hu => (h4 i u hu).1⟩
theorem OwnM.lie (h : OwnM E EE w lo hi v L vs) : LieM w lo hi v L :=
  ⟨h.top, vs, h.vlen, ⟨Seen.of_own h.row, fun g e => ⟨(h.row.lt g e).1, h.out g e⟩⟩, fun i u hu => ⟨(h.rows i u hu).seen, fun g e => ⟨((h.rows i u hu).1.lt g e).1, (h.rows i u hu).2.2 g e⟩⟩⟩
end

/-- new rows are returned -/
def RetM (E EE : TypeId) (w : World) (L : Mat) (e : Ending) (w' : World) : Prop := ∃ v vs, e = .returned v ∧ OwnM E EE w' w.heap.size w'.heap.size v L vs ∧ TurnIn 0 0 w w'
/-- a struct with new rows -/
def RetMat (E EE : TypeId) (w : World) (L : Mat) (e : Ending) (w' : World) : Prop := ∃ v vs, e = .returned (.agg #[v]) ∧ OwnM E EE w' w.heap.size w'.heap.size v L vs ∧ TurnIn 0 0 w w'
def RetMatOk (E EE : TypeId) (w : World) (L : Mat) (ok : Bool) (e : Ending) (w' : World) : Prop := ∃ v vs, e = .returned (.tuple #[.agg #[v], .bool ok]) ∧ OwnM E EE w' w.heap.size w'.heap.size v L vs ∧ TurnIn 0 0 w w'
/-- a struct with rows that lie in new blocks -/
def RetLie (w : World) (L : Mat) (e : Ending) (w' : World) : Prop := ∃ v, e = .returned (.agg #[v]) ∧ LieM w' w.heap.size w'.heap.size v L ∧ TurnIn 0 0 w w'
def RetLieOk (w : World) (L : Mat) (ok : Bool) (e : Ending) (w' : World) : Prop := ∃ v, e = .returned (.tuple #[.agg #[v], .bool ok]) ∧ LieM w' w.heap.size w'.heap.size v L ∧ TurnIn 0 0 w w'
def RetIntOk (w : World) (n : Int) (ok : Bool) (e : Ending) (w' : World) : Prop := e = .returned (.tuple #[.int .i64 n, .bool ok]) ∧ TurnIn 0 0 w w'

theorem turn_of_below {w w1 w' : World} (hb : Below w.heap.size w w1) (t : TurnIn 0 0 w1 w') : TurnIn 0 0 w w' := TurnIn.of_below (t.base hb hb.size (by omega))
theorem RetM.base {E EE : TypeId} {w w1 w' : World} {L : Mat} {e : Ending} (h : RetM E EE w1 L e w') (hb : Below w.heap.size w w1) : RetM E EE w L e w' := by
  obtain ⟨v, vs, he, h1, h2⟩ := h
  exact ⟨v, vs, he, h1.wider hb.size (Nat.le_refl _) (Nat.le_refl _), turn_of_below hb h2⟩
/-- entry i, j of a matrix that is given by its entries -/
theorem SeenM.cellF {w : World} {v : Value} {r c : Nat} {F : Ents} (h : SeenM w v (mkM r c F)) (i j : Nat) (hi : i < r) (hj : j < c) : ∃ bb off cp b' off' c', v = .slice (some ⟨bb, off, none⟩) r cp ∧ r ≤ maxLen ∧ bb < w.heap.size ∧ b' < w.heap.size ∧
    w.cell? ⟨bb, off + i, none⟩ = some (.slice (some ⟨b', off', none⟩) c c') ∧ c ≤ maxLen ∧ w.cell? ⟨b', off' + j, none⟩ = some (.int .u8 ((F i j).toNat : Int)) := by
  obtain ⟨bb, off, cp, b', off', c', h1, h2, h3, h4, h5, h6, h7⟩ := h.cell i j (by simpa using hi) (by rw [mkM_getD _ _ _ _ hi]; simpa using hj)
  rw [mkM_length] at h1 h2
  rw [mkM_getD _ _ _ _ hi, mkRow_length] at h5 h6
  rw [ent_mkM _ _ _ _ _ hi hj] at h7
  exact ⟨bb, off, cp, b', off', c', h1, h2, h3, h4, h5, h6, h7⟩
theorem SeenM.rowF {w : World} {v : Value} {r c : Nat} {F : Ents} (h : SeenM w v (mkM r c F)) (i : Nat) (hi : i < r) : ∃ bb off cp A c', v = .slice (some ⟨bb, off, none⟩) r cp ∧ r ≤ maxLen ∧ bb < w.heap.size ∧
    w.cell? ⟨bb, off + i, none⟩ = some (.slice A c c') ∧ c ≤ maxLen ∧ Seen w (.slice A c c') (bys (mkRow c (F i))) := by
  obtain ⟨bb, off, cp, u, h1, h2, h3, h4, h5, h6⟩ := h.row i (by simpa using hi)
  rw [mkM_length] at h1 h2
  rw [mkM_getD _ _ _ _ hi] at h6
  have h6' := h6
  obtain ⟨A, c', h7, h8, h9, _⟩ := h6
  simp only [bys_length, mkRow_length] at h7 h8
  rw [h7] at h5 h6'
  exact ⟨bb, off, cp, A, c', h1, by omega, h4, h5, by omega, h6'⟩

/-- marks of rows -/
def marksM : Nat → Mat → Mat
  | _, [] => []
  | k, r :: L => marks k r.length :: marksM (k + r.length) L
def sizM : Mat → Nat
  | [] => 0
  | r :: L => r.length + sizM L
theorem marksM_length (L : Mat) : ∀ k, (marksM k L).length = L.length := by
  induction L with
  | nil => intro k; rfl
  | cons r L ih => intro k; simp [marksM, ih]
theorem sizM_take_succ (L : Mat) (i : Nat) (hi : i < L.length) : sizM (L.take (i + 1)) = sizM (L.take i) + (L.getD i []).length := by
  induction L generalizing i with
  | nil => simp at hi
  | cons r L ih =>
    cases i with
    | zero => simp [sizM]
    | succ i =>
      have := ih i (by simpa using hi)
      simp only [List.take_succ_cons, sizM, List.getD_cons_succ] at this ⊢
      omega
theorem sizM_take_le (L : Mat) (i : Nat) : sizM (L.take i) ≤ sizM L := by
  induction L generalizing i with
  | nil => simp
  | cons r L ih =>
    cases i with
    | zero => simp [sizM]
    | succ i => have := ih i; simp only [List.take_succ_cons, sizM]; omega
theorem marksM_getD (L : Mat) : ∀ (k i : Nat), i < L.length → (marksM k L).getD i [] = marks (k + sizM (L.take i)) (L.getD i []).length := by
  induction L with
  | nil => intro k i h; simp at h
  | cons r L ih =>
    intro k i h
    cases i with
    | zero => simp [marksM, sizM]
    | succ i =>
      have := ih (k + r.length) i (by simpa using h)
      simp only [marksM, List.getD_cons_succ, List.take_succ_cons, sizM, this]
      rw [Nat.add_assoc]
theorem sizM_le_mul (L : Mat) (c : Nat) (h : ∀ i, i < L.length → (L.getD i []).length ≤ c) : sizM L ≤ L.length * c := by
  induction L with
  | nil => simp [sizM]
  | cons r L ih =>
    have h0 := h 0 (by simp)
    have h1 := ih (fun i hi => by have := h (i + 1) (by simpa using hi); simpa using this)
    simp only [sizM, List.length_cons, Nat.add_mul, Nat.one_mul]
    simp at h0
    omega
end G294

/- Shards in memory: a slice of structs of an int and a string that is seen, or of the call's own; what a mark writes. -/
namespace G294
open Go Go.RowKit
abbrev Sh := Int × List UInt8
/-- shards as the cells of memory -/
def shs : List Sh → List Value
  | [] => []
  | s :: l => .int .i64 s.1 :: .string (str s.2) :: shs l
@[simp] theorem shs_length (l : List Sh) : (shs l).length = l.length * 2 := by
  induction l with
  | nil => rfl
  | cons s l ih => simp [shs, ih]; omega
theorem shs_append (l m : List Sh) : shs (l ++ m) = shs l ++ shs m := by
  induction l with
  | nil => rfl
  | cons s l ih => simp [shs, ih]
theorem shs_no (l : List Sh) (i : Nat) (h : i < l.length) : (shs l)[i * 2]? = some (.int .i64 l[i].1) := by
  induction l generalizing i with
  | nil => simp at h
  | cons s l ih =>
    cases i with
    | zero => rfl
    | succ i => rw [show (i + 1) * 2 = i * 2 + 1 + 1 by omega]; simpa [shs] using ih i (by simpa using h)
theorem shs_data (l : List Sh) (i : Nat) (h : i < l.length) : (shs l)[i * 2 + 1]? = some (.string (str l[i].2)) := by
  induction l generalizing i with
  | nil => simp at h
  | cons s l ih =>
    cases i with
    | zero => rfl
    | succ i => rw [show (i + 1) * 2 + 1 = i * 2 + 1 + 1 + 1 by omega]; simpa [shs] using ih i (by simpa using h)
theorem shs_oneC (l : List Sh) : ∀ y, y ∈ shs l → y.oneCell' = true := by
  induction l with
  | nil => intro y hy; simp [shs] at hy
  | cons s l ih =>
    intro y hy
    simp only [shs, List.mem_cons] at hy
    rcases hy with rfl | rfl | hy
    · rfl
    · rfl
    · exact ih y hy
theorem shs_set (l : List Sh) (i : Nat) (x : Sh) (h : i < l.length) : ((shs l).set (i * 2) (.int .i64 x.1)).set (i * 2 + 1) (.string (str x.2)) = shs (l.set i x) := by
  induction l generalizing i with
  | nil => simp at h
  | cons s l ih =>
    cases i with
    | zero => rfl
    | succ i =>
      rw [show (i + 1) * 2 = i * 2 + 1 + 1 by omega]
      simp only [shs, List.set_cons_succ, ih i (by simpa using h)]
/-- the value v is seen in w as the shards l -/
def SeenH (w : World) (v : Value) (l : List Sh) : Prop :=
  ∃ A c, v = .slice A l.length c ∧ l.length ≤ c ∧ c ≤ maxLen ∧ (0 < l.length → ∃ b off, A = some ⟨b, off, none⟩ ∧ b < w.heap.size ∧ ∀ i s, l[i]? = some s → w.cell? ⟨b, off + i * 2, none⟩ = some (.int .i64 s.1) ∧ w.cell? ⟨b, off + i * 2 + 1, none⟩ = some (.string (str s.2)))
theorem at_lt {α : Type} {l : List α} {n k : Nat} (hn : l.length = n) (h : k < n) : ∃ s, l[k]? = some s := ⟨_, List.getElem?_eq_getElem (by omega)⟩
/-- a row of shards of the call's own, its block from lo to hi -/
def OwnSh (E : TypeId) (w : World) (lo hi : Nat) (v : Value) (l : List Sh) : Prop := w.ownsRow lo E 2 v l.length (shs l) ∧ hi ≤ w.heap.size ∧ ∀ g, v.ownBlock = some g → g < hi
section
variable {w w' : World} {lo hi a b : Nat} {v : Value} {l : List Sh} {E : TypeId}
theorem SeenH.below (h : SeenH w v l) (hb : Below w.heap.size w w') : SeenH w' v l := by
  obtain ⟨A, c, rfl, h1, h2, h3⟩ := h
  refine ⟨A, c, rfl, h1, h2, fun hn => ?_⟩
  obtain ⟨b, off, rfl, hb', hc⟩ := h3 hn
  exact ⟨b, off, rfl, Nat.lt_of_lt_of_le hb' hb.size, fun i s hi => ⟨(hb.cell (p := ⟨b, off + i * 2, none⟩) hb').trans (hc i s hi).1, (hb.cell (p := ⟨b, off + i * 2 + 1, none⟩) hb').trans (hc i s hi).2⟩⟩
theorem SeenH.len (h : SeenH w v l) : ∃ A c, v = .slice A l.length c := by
  obtain ⟨A, c, h, _⟩ := h
  exact ⟨A, c, h⟩
theorem SeenH.nil (w : World) : SeenH w (.slice none 0 0) [] := ⟨none, 0, rfl, Nat.le_refl _, Nat.zero_le _, fun h => by simp at h⟩
theorem owns_turn2 {size n : Nat} {xs : List Value} (h : w.ownsRow lo E size v n xs) (h2 : ∀ g, v.ownBlock = some g → g < hi) (t : TurnIn a b w w') (d : hi ≤ a ∨ b ≤ lo) : w'.ownsRow lo E size v n xs := by
  refine ⟨h.1, ?_⟩
  rcases h.2 with hn | ⟨g, cap, cur, rfl, hbg, hg, rest⟩
  · exact .inl hn
  · refine .inr ⟨g, cap, cur, rfl, hbg, ?_, rest⟩
    have := h2 g rfl
    rw [t.block g (Array.getElem?_eq_some_iff.1 hg).1 (by omega)]
    exact hg
theorem OwnSh.keep (h : OwnSh E w lo hi v l) (t : TurnIn a b w w') (d : hi ≤ a ∨ b ≤ lo) : OwnSh E w' lo hi v l :=
  ⟨owns_turn2 h.1 h.2.2 t d, Nat.le_trans h.2.1 t.size, h.2.2⟩
theorem OwnSh.seen (h : OwnSh E w lo hi v l) : SeenH w v l := by
  obtain ⟨h1, h2, h3⟩ := h
  rcases h1.2 with ⟨rfl, hn⟩ | ⟨g, cap, cur, rfl, hb, hg, hnc, hcm, hcs, ht⟩
  · have : l = [] := List.eq_nil_of_length_eq_zero hn
    subst this
    exact SeenH.nil w
  · refine ⟨_, cap, rfl, hnc, hcm, fun hn => ⟨g, 0, rfl, (Array.getElem?_eq_some_iff.1 hg).1, fun i s hs => ?_⟩⟩
    obtain ⟨hi, rfl⟩ := List.getElem?_eq_some_iff.1 hs
    have e1 := h1.cells (g := g) rfl (i * 2) _ (shs_no l i hi)
    have e2 := h1.cells (g := g) rfl (i * 2 + 1) _ (shs_data l i hi)
    rw [Addr.add_lit, Nat.zero_add] at e1 e2
    exact ⟨by rw [Nat.zero_add]; exact e1, by rw [Nat.zero_add]; exact e2⟩
theorem OwnSh.nil (E : TypeId) (w : World) (lo : Nat) : OwnSh E w lo w.heap.size (.slice none 0 0) [] := ⟨World.ownsRow_nil _ _ _ _, Nat.le_refl _, fun g h => by simp [Value.ownBlock] at h⟩
theorem OwnSh.of_made (h : w'.ownsRow w.heap.size E 2 v l.length (shs l)) : OwnSh E w' w.heap.size w'.heap.size v l := ⟨h, Nat.le_refl _, fun g hg => (h.lt g hg).2⟩
end
def RetShs (E : TypeId) (w : World) (l : List Sh) (e : Ending) (w' : World) : Prop := ∃ v, e = .returned v ∧ OwnSh E w' w.heap.size w'.heap.size v l ∧ TurnIn 0 0 w w'
def RetShsOk (E : TypeId) (w : World) (l : List Sh) (ok : Bool) (e : Ending) (w' : World) : Prop := ∃ v, e = .returned (.tuple #[v, .bool ok]) ∧ OwnSh E w' w.heap.size w'.heap.size v l ∧ TurnIn 0 0 w w'
/-- the shards that marks write -/
def marksH (k n : Nat) : List Sh := (List.range n).map fun i => (((k + i * 2 : Nat) : Int), mtext (k + i * 2 + 1))
@[simp] theorem marksH_length (k n : Nat) : (marksH k n).length = n := by simp [marksH]
theorem marksH_get (k n i : Nat) (h : i < (marksH k n).length) : (marksH k n)[i] = (((k + i * 2 : Nat) : Int), mtext (k + i * 2 + 1)) := by simp [marksH]
def RetMarkH (E : TypeId) (w : World) (lo hi : Nat) (v : Value) (k n : Nat) (e : Ending) (w' : World) : Prop :=
  e = .returned (.int .i64 ((k + n * 2 : Nat) : Int)) ∧ OwnSh E w' lo hi v (marksH k n) ∧ TurnIn lo hi w w'
end G294

/- Contracts of the laws' helpers on []byte: a copy, equality, marks, marks held. -/
namespace Go.Proofs.YtjklngheehhggaaDoor
open Go.RowKit G294

/-- a new row of the call's own is returned; old memory is as it was -/
def Made (w : World) (E : TypeId) (xs : List Value) (e : Ending) (w' : World) : Prop := ∃ v, e = .returned v ∧ w'.ownsRow w.heap.size E 1 v xs.length xs ∧ Below w.heap.size w w'

/-- a new row of the call's own and a bool are returned; old memory is as it was -/
def MadeOk (w : World) (E : TypeId) (xs : List Value) (ok : Bool) (e : Ending) (w' : World) : Prop := ∃ v, e = .returned (.tuple #[v, .bool ok]) ∧ w'.ownsRow w.heap.size E 1 v xs.length xs ∧ Below w.heap.size w w'

theorem infoByte : (Tryd.prog.info? 5).map (fun i => (i.zero, i.size, i.bytes)) = some (some (.int .u8 0), 1, 1) := by kernel_rfl

theorem bne_byte {x y : UInt8} (b : Bool) (h : (x != y) = b) : ((x.toNat : Int) != (y.toNat : Int)) = b := by
  subst h
  by_cases e : x = y
  · subst e; simp
  · have : x.toNat ≠ y.toNat := fun h => e (UInt8.toNat_inj.1 h)
    rw [(bne_iff_ne (a := x) (b := y)).2 e, bne_iff_ne]; omega

/-- a bool is returned; old memory is as it was -/
def Tells (w : World) (b : Bool) (e : Ending) (w' : World) : Prop := e = .returned (.bool b) ∧ Below w.heap.size w w'

theorem eq_at {l m : List UInt8} {k : Nat} (hl : k < l.length) (hm : k < m.length) (h : l[k] ≠ m[k]) : (l == m) = false := by
  rw [beq_eq_false_iff_ne]
  intro e; subst e; exact h rfl
theorem eq_all {l m : List UInt8} (hl : l.length = m.length) (h : ∀ i (h1 : i < l.length) (h2 : i < m.length), l[i] = m[i]) : (l == m) = true := by
  rw [beq_iff_eq]; exact List.ext_getElem hl h

/-- a number is returned, the row that was handed in holds the cells xs, nothing else that was there has turned -/
def Marked (w : World) (E : TypeId) (base : Nat) (v : Value) (xs : List Value) (m : Int) (e : Ending) (w' : World) : Prop :=
  e = .returned (.int .i64 m) ∧ w'.ownsRow base E 1 v xs.length xs ∧ w.grownBy w' v.ownBlock

/-- a number is returned; old memory is as it was -/
def TellsInt (w : World) (m : Int) (e : Ending) (w' : World) : Prop := e = .returned (.int .i64 m) ∧ Below w.heap.size w w'
end Go.Proofs.YtjklngheehhggaaDoor

/- markText. -/
namespace Go.Proofs.YtjklngheehhggaaDoor
open Go.RowKit G294

set_option maxRecDepth 100000 in
set_option maxHeartbeats 1000000 in
theorem markText_ret (k : Nat) (w : World) (hk0 : 0 < k) (hk1 : k ≤ 1000000000000) : Calls Tryd.prog 94 #[.int .i64 k] w (RetStr w (mtext k)) := by
  have h0 : ¬ (k : Int) ≤ 0 := by omega
  go_enter Tryd.func94, Tryd.ntmps94
  go_wp2_with fail
  go_loopw [0, 3] (fun q o wr => ∃ (j : Nat) (acc : List UInt8), q = .int .i64 j ∧ o = .string (str acc) ∧ Hid (mdig j acc = mdig k []) ∧ acc.length + j ≤ k ∧ Below w.heap.size w wr)
    (fun q _ _ => (intOf q).toNat)
  case atStart => exact ⟨k, [], rfl, rfl, Eq.refl (mdig k []), by simp, Below.refl _ _⟩
  case round =>
    obtain ⟨j, acc, rfl, rfl, HE, hl, hb⟩ := hrel
    by_cases hj : 0 < j
    · have hji : (0 : Int) < (j : Int) := by omega
      have hsz : (str acc).size ≤ 1000000000000 := by rw [str_size]; omega
      obtain ⟨d, hd⟩ : ∃ d : UInt8, d = UInt8.ofNat (48 + j % 10) := ⟨_, rfl⟩
      have hdi : (48 + (j : Int) % 10) = (d.toNat : Int) := by
        rw [hd, UInt8.toNat_ofNat']; omega
      have hseen : Seen (wr.alloc (.cells #[.int .u8 (48 + (j : Int) % 10)] 5)) (.slice (some ⟨wr.heap.size, 0, none⟩) 1 1) (bys [d]) := by
        refine ⟨_, 1, rfl, by simp, by unfold maxLen; omega, fun _ => ⟨wr.heap.size, 0, rfl, by simp, fun i u hu => ?_⟩⟩
        match i, hu with
        | 0, hu =>
          simp only [bys, List.map_cons, List.getElem?_cons_zero, Option.some.injEq] at hu
          rw [← hu, hdi]; simp
      have hconv := run_string_seen (P := Tryd.prog) 22 5 9 Tryd.underlying22 Tryd.underlying5 Tryd.underlying9 hseen
      have hs2 : ¬ 9223372036854775807 < (str [d]).size + (str acc).size := by rw [str_size]; simp; omega
      have HD := Lib.hid hd
      have hb2 := hb.alloc (by have := hb.size; omega) (.cells #[.int .u8 (48 + (j : Int) % 10)] 5)
      clear hd hdi hseen
      go_wp2_with fail
      go_roundw
      case rel => exact ⟨j / 10, d :: acc, by go_num, by rw [str_append]; rfl, by rw [HD.out, ← mdig_pos hj]; exact HE.out, by simp; omega, hb2⟩
      case measure => simp [intOf]; omega
    · obtain rfl : j = 0 := by omega
      rw [mdig_zero] at HE
      have hsz : (str acc).size ≤ 1000000000000 := by rw [str_size]; omega
      have hs2 : ¬ 9223372036854775807 < 1 + (str acc).size := by omega
      go_wp2_with fail
      go_ret
      exact ⟨by rw [mtext, ← HE.out]; exact congrArg (fun z => Ending.returned (.string z)) (str_append [109] acc), TurnIn.of_below hb⟩

end Go.Proofs.YtjklngheehhggaaDoor

/- Contracts of the laws' helpers on []string: a copy, equality, marks, marks held, sizes. -/
namespace Go.Proofs.YtjklngheehhggaaDoor
open Go.RowKit G294

theorem infoStr : (Tryd.prog.info? 9).map (fun i => (i.zero, i.size, i.bytes)) = some (some (.string ⟨#[]⟩), 1, 16) := by kernel_rfl

set_option maxRecDepth 100000 in
set_option maxHeartbeats 1000000 in
theorem toStringS_own (v : Value) (l : List (List UInt8)) (w : World) (hv : Seen w v (strs l)) (hn : l.length ≤ 1048576) :
    Calls Tryd.prog 25 #[v] w (RetStrs 9 w l) := by
  obtain ⟨i0, hi0, hz0, hz1, hz2⟩ := info_parts infoStr
  obtain ⟨A, c, rfl, hlc, hcm, hx⟩ := hv
  rw [strs_length] at hlc hx
  simp only [strs_length]
  unfold maxLen at hcm
  generalize hnn : l.length = n at *
  have HN := Lib.hid hnn
  clear hnn
  go_enter Tryd.func25, Tryd.ntmps25
  go_wp2_with (at_make; refine wpList_make_full _ rfl _ _ _ rfl w.heap.size _ i0 _ 1 Tryd.underlying23 hi0 hz0 hz1 _ _ _ _ n rfl rfl rfl rfl ?b2 ?b3 ?b4 ?_)
  case b2 => rw [hz2]; omega
  case b3 => unfold maxLen; omega
  case b4 => exact Nat.le_refl _
  intro w1 hown1 hg1
  have hb1 : Below w.heap.size w w1 := below_of_grown hg1 (Nat.le_refl _) (by simp)
  rw [toList_madeCells_one] at hown1
  clear hg1
  go_wp2_with fail
  go_loopw [4] (fun i wr => ∃ k : Nat, k ≤ n ∧ i = .int .i64 k ∧ wr.ownsRow w.heap.size 9 1 (.slice (some ⟨w.heap.size, 0, none⟩) n n) n ((strs l).take k ++ List.replicate (n - k) (.string ⟨#[]⟩)) ∧ Below w.heap.size w wr)
    (fun i _ => n - (intOf i).toNat)
  case atStart => exact ⟨0, Nat.zero_le _, rfl, by simpa using hown1, hb1⟩
  case round =>
    obtain ⟨k, hk, rfl, hown, hb⟩ := hrel
    clear hown1 hb1
    by_cases hlt : k < n
    · obtain ⟨b, off, rfl, hbl, hcell⟩ := hx (by omega)
      have hkl : k < l.length := by rw [HN.out]; exact hlt
      have hcx : wr.cell? ⟨b, off + k, none⟩ = some (.string (str l[k])) := (hb.cell (p := ⟨b, off + k, none⟩) hbl).trans (hcell k _ (strs_get l k hkl))
      have hco : wr.cell? ⟨w.heap.size, k, none⟩ = some (.string ⟨#[]⟩) := by
        have ht : ((strs l).take k).length = k := by simp; omega
        rw [hown.cellAt k (by omega), List.getElem?_append_right (by omega), ht, Nat.sub_self, List.getElem?_replicate, if_pos (by omega)]
      have hfr := hown.frozenAt k
      have hst := hown.stored k (.string (str l[k]))
      rw [take_set_next (strs l) _ k _ (strs_get l k hkl) (by simp [HN.out]; omega)] at hst
      clear hcell hx
      go_wp2_with fail
      go_roundw
      case rel => exact ⟨k + 1, by omega, by go_num, by simpa [Nat.sub_sub] using hst.1, hb.setCell (Nat.le_refl _) _⟩
      case measure => simp [intOf]; omega
    · obtain rfl : k = n := by omega
      go_wp2_with fail
      go_ret
      refine ⟨_, rfl, OwnStrs.of_made ?_, TurnIn.of_below hb⟩
      rw [List.take_of_length_le (by simp [HN.out]), Nat.sub_self] at hown
      simpa [HN.out] using hown

set_option maxRecDepth 100000 in
set_option maxHeartbeats 1000000 in
theorem eqStringS_same (v u : Value) (l : List (List UInt8)) (w : World) (hv : Seen w v (strs l)) (hu : Seen w u (strs l)) :
    Calls Tryd.prog 27 #[v, u] w (RetBool w true) := by
  obtain ⟨A, c, rfl, hlc, hcm, hx⟩ := hv
  obtain ⟨A', c', rfl, hlc', hcm', hx'⟩ := hu
  rw [strs_length] at hlc hx hlc' hx'
  simp only [strs_length]
  unfold maxLen at hcm hcm'
  generalize hnn : l.length = n at *
  have HN := Lib.hid hnn
  clear hnn
  have hbn : ((n : Int) != (n : Int)) = false := by simp
  go_enter Tryd.func27, Tryd.ntmps27
  go_wp2_with fail
  go_loopw [5] (fun i wr => ∃ k : Nat, k ≤ n ∧ i = .int .i64 k ∧ Below w.heap.size w wr)
    (fun i _ => n - (intOf i).toNat)
  case atStart => exact ⟨0, Nat.zero_le _, rfl, Below.refl _ _⟩
  case round =>
    obtain ⟨k, hk, rfl, hb⟩ := hrel
    by_cases hlt : k < n
    · obtain ⟨b, off, rfl, hbl, hcell⟩ := hx (by omega)
      obtain ⟨b', off', rfl, hbl', hcell'⟩ := hx' (by omega)
      have hkl : k < l.length := by rw [HN.out]; exact hlt
      have hcx : wr.cell? ⟨b, off + k, none⟩ = some (.string (str l[k])) := (hb.cell (p := ⟨b, off + k, none⟩) hbl).trans (hcell k _ (strs_get l k hkl))
      have hcy : wr.cell? ⟨b', off' + k, none⟩ = some (.string (str l[k])) := (hb.cell (p := ⟨b', off' + k, none⟩) hbl').trans (hcell' k _ (strs_get l k hkl))
      clear hcell hcell' hx hx'
      have hki : (k : Int) < (n : Int) := by omega
      have hbb := str_same l[k]
      go_wp2_with fail
      go_quiet (fail)
      go_wp2_with fail
      go_roundw
      case rel => exact ⟨k + 1, by omega, by go_num, below_drewN hb _⟩
      case measure => simp [intOf]; omega
    · obtain rfl : k = n := by omega
      go_wp2_with fail
      go_ret
      exact ⟨rfl, TurnIn.of_below hb⟩

set_option maxRecDepth 100000 in
set_option maxHeartbeats 1000000 in
theorem markStringS_own (v : Value) (l : List (List UInt8)) (k0 lo hi : Nat) (w : World) (hv : OwnStrs 9 w lo hi v l) (h1 : 0 < k0) (hk0 : k0 + l.length ≤ 1000000000000) :
    Calls Tryd.prog 33 #[v, .int .i64 k0] w (RetMarkS 9 w lo hi v k0 l.length) := by
  have hown0 := hv
  rcases hv.1.2 with ⟨rfl, hn⟩ | ⟨g, cap, cur, rfl, hbg, hg, hnc, hcm, hcs, ht⟩
  · have : l = [] := List.eq_nil_of_length_eq_zero hn
    subst this
    have HE := Lib.hid hown0
    clear hown0 hv hn
    go_enter Tryd.func33, Tryd.ntmps33
    go_wp2_with fail
    refine wp_loop_once ?_
    go_wp2_with fail
    go_ret
    exact ⟨rfl, HE.out, ⟨rfl, rfl, rfl, Nat.le_refl _, fun _ _ _ => rfl⟩⟩
  · have hgh : g < hi := hv.2.2 g rfl
    have htop : hi ≤ w.heap.size := hv.2.1
    replace hown0 := hv.1
    clear hv hg ht hcs
    unfold maxLen at hcm
    generalize hnn : l.length = n at *
    have HN := Lib.hid hnn
    have hbl : (strs l).length = n := by simp [hnn]
    have HB := Lib.hid hbl
    clear hnn hbl
    go_enter Tryd.func33, Tryd.ntmps33
    go_wp2_with fail
    go_loopw [1, 5] (fun q i wr => ∃ k : Nat, k ≤ n ∧ i = .int .i64 k ∧ q = .int .i64 ((k0 : Int) + (k : Int)) ∧ wr.ownsRow lo 9 1 (.slice (some ⟨g, 0, none⟩) n cap) n ((strs (marksS k0 n)).take k ++ (strs l).drop k) ∧ TurnIn lo hi w wr)
      (fun _ i _ => n - (intOf i).toNat)
    case atStart => exact ⟨0, Nat.zero_le _, rfl, by simp, by simpa using hown0, ⟨rfl, rfl, rfl, Nat.le_refl _, fun _ _ _ => rfl⟩⟩
    case round =>
      obtain ⟨k, hk, rfl, rfl, hown, hgr⟩ := hrel
      clear hown0
      by_cases hlt : k < n
      · have HC : Hid (((k0 + k : Nat) : Int) = (k0 : Int) + (k : Int)) := Int.natCast_add k0 k
        have hki : (k : Int) < (n : Int) := by omega
        rw [← HC.out]
        go_wp2_with fail
        refine (markText_ret (k0 + k) _ (by omega) (by omega)).mono ?_
        rintro e w' ⟨rfl, ht⟩
        have hown' := owns_turn0 hown ht
        have hsz := ht.size
        have hgs := hgr.size
        have hco : w'.cell? ⟨g, k, none⟩ = some (.string (str (l[k]'(by rw [HN.out]; exact hlt)))) := by
          have htk : ((strs (marksS k0 n)).take k).length = k := by simp; omega
          rw [hown'.cellAt k (by omega), List.getElem?_append_right (by omega), htk, Nat.sub_self, List.getElem?_drop, Nat.add_zero, strs_get]
        have hfr := hown'.frozenAt k
        have hst := hown'.stored k (.string (str (mtext (k0 + k))))
        rw [take_set_over _ _ k _ (marksS_get k0 n k hlt) (by simp [HN.out])] at hst
        have hst1 := hst.1
        have hst2 : TurnIn lo hi w _ := turn_trans (turn_trans hgr ht (by omega)) (TurnIn.of_grown (lo := lo) (hi := hi) hst.2 (fun g' e => by simp [Value.ownBlock] at e; omega)) (by omega)
        clear hst
        go_wp2_with fail
        go_roundw
        case rel => exact ⟨k + 1, by omega, by go_num, by go_num, hst1, hst2⟩
        case measure => simp [intOf]; omega
      · obtain rfl : k = n := by omega
        go_wp2_with fail
        go_ret
        refine ⟨?_, ?_, hgr⟩
        · exact congrArg (fun z => Ending.returned (.int .i64 z)) (by simp)
        · rw [List.take_of_length_le (by simp), List.drop_of_length_le (by rw [HB.out]; exact Nat.le_refl _), List.append_nil] at hown
          exact ⟨by simpa using hown, Nat.le_trans htop hgr.size, fun g' e => by simp [Value.ownBlock] at e; omega⟩

set_option maxRecDepth 100000 in
set_option maxHeartbeats 1000000 in
theorem heldStringS_own (v : Value) (k0 n : Nat) (w : World) (hv : Seen w v (strs (marksS k0 n))) (h1 : 0 < k0) (hk0 : k0 + n ≤ 1000000000000) :
    Calls Tryd.prog 34 #[v, .int .i64 k0] w (RetInt w ((k0 + n : Nat) : Int)) := by
  obtain ⟨A, c, rfl, hlc, hcm, hx⟩ := hv
  simp only [strs_length, marksS_length] at hlc hx ⊢
  unfold maxLen at hcm
  go_enter Tryd.func34, Tryd.ntmps34
  go_wp2_with fail
  go_loopw [1, 5] (fun q i wr => ∃ k : Nat, k ≤ n ∧ i = .int .i64 k ∧ q = .int .i64 ((k0 + k : Nat) : Int) ∧ Below w.heap.size w wr)
    (fun _ i _ => n - (intOf i).toNat)
  case atStart => exact ⟨0, Nat.zero_le _, rfl, by simp, Below.refl _ _⟩
  case round =>
    obtain ⟨k, hk, rfl, rfl, hb⟩ := hrel
    by_cases hlt : k < n
    · obtain ⟨b, off, rfl, hbl, hcell⟩ := hx (by omega)
      have hbs := hb.size
      have hcx : wr.cell? ⟨b, off + k, none⟩ = some (.string (str (mtext (k0 + k)))) := (hb.cell (p := ⟨b, off + k, none⟩) hbl).trans (hcell k _ (marksS_get k0 n k hlt))
      clear hcell hx
      have hki : (k : Int) < (n : Int) := by omega
      have hbb := str_same (mtext (k0 + k))
      have HC := fun W => markText_ret (k0 + k) W (by omega) (by omega)
      go_wp2_with fail
      go_region_held3 (fun w' => w'.cell? ⟨b, off + k, none⟩ = some (.string (str (mtext (k0 + k)))))
        (first | exact hcx | exact (ht.to_below.cell (p := ⟨b, off + k, none⟩) (by simp; omega)).trans hcx)
        ((go_at_call 94; refine (HC _).mono ?_; rintro e w' ⟨rfl, ht⟩))
      all_goals
        have hb2 : Below w.heap.size w w' := ht.base (below_drewN hb 1) (by simp; omega) (by omega)
        go_wp2_with fail
        go_roundw
        case rel => exact ⟨k + 1, by omega, by go_num, by go_num, hb2⟩
        case measure => simp [intOf]; omega
    · obtain rfl : k = n := by omega
      go_wp2_with fail
      go_ret
      exact ⟨rfl, TurnIn.of_below hb⟩

set_option maxRecDepth 100000 in
set_option maxHeartbeats 2000000 in
theorem szStringS_any (v : Value) (L : List (List UInt8)) (left : Nat) (w : World) (hv : Seen w v (strs L)) (hmx : ∀ s ∈ L, s.length ≤ maxLen) (hl : left ≤ 1048576) :
    Calls Tryd.prog 24 #[v, .int .i64 left] w fun e w' => e = .returned (.int .i64 (szV left (L.length + sizM L))) ∧ w = w' := by
  obtain ⟨A, c, rfl, hlc, hcm, hx⟩ := hv
  rw [strs_length] at hlc hx
  simp only [strs_length]
  unfold maxLen at hcm
  generalize hnn : L.length = n at *
  have HN := Lib.hid hnn
  clear hnn
  by_cases h0 : n ≤ left
  · go_enter Tryd.func24, Tryd.ntmps24
    go_wp2_with fail
    go_loop [1, 5] (fun q i => ∃ k m : Nat, k ≤ n ∧ i = .int .i64 k ∧ q = .int .i64 m ∧ m ≤ left ∧ Hid (m + sizM (L.take k) + n = left)) (fun _ i => n - (intOf i).toNat)
    case atStart => exact ⟨0, left - n, Nat.zero_le _, rfl, by go_num, by omega, by show left - n + sizM (L.take 0) + n = left; simp [sizM]; omega⟩
    case round =>
      obtain ⟨k, m, hk, rfl, rfl, hmd, HM⟩ := hrel
      by_cases hlt : k < n
      · have hki : (k : Int) < (n : Int) := by omega
        have hkl : k < L.length := by rw [HN.out]; exact hlt
        obtain ⟨b, off, rfl, hbl, hcell⟩ := hx (by omega)
        have hcx := hcell k _ (strs_get L k hkl)
        have hsz := str_size L[k]
        have hmk := hmx L[k] (List.getElem_mem hkl)
        unfold maxLen at hmk
        have HT := Lib.hid (sizM_take_succ L k hkl)
        have HTL := Lib.hid (sizM_take_le L (k + 1))
        have HG : Hid (L.getD k [] = L[k]) := by show L.getD k [] = L[k]; simp [List.getD, hkl]
        clear hcell hx
        by_cases hle : L[k].length ≤ m
        · have HM2 : Hid (m - L[k].length + sizM (L.take (k + 1)) + n = left) := by
            show _ = left
            have := HT.out; have := HM.out; rw [HG.out] at *; omega
          generalize hnk : L[k].length = nk at *
          have hneg : ¬ ((m : Int) - (nk : Int)) < 0 := by omega
          go_wp2_with fail
          go_round
          case rel => exact ⟨k + 1, m - nk, by omega, by go_num, by go_num, by omega, HM2⟩
          case measure => simp [intOf]; omega
        · have HF : Hid (szV left (n + sizM L) = -1) := by
            show _ = _
            apply szV_no
            have := HT.out; have := HTL.out; have := HM.out; rw [HG.out] at *; omega
          generalize hnk : L[k].length = nk at *
          have hneg : ((m : Int) - (nk : Int)) < 0 := by omega
          go_wp2_with fail
          go_ret
          exact ⟨by rw [HF.out]; rfl, rfl⟩
      · obtain rfl : k = n := by omega
        have hki : ¬ (k : Int) < (k : Int) := by omega
        have HF : Hid (szV left (k + sizM L) = (m : Int)) := by
          have e := HM.out
          rw [List.take_of_length_le (by rw [HN.out]; exact Nat.le_refl _)] at e
          show _ = _
          rw [szV_yes (by omega)]; omega
        go_wp2_with fail
        go_ret
        exact ⟨by rw [HF.out]; rfl, rfl⟩
  · have HF : Hid (szV left (n + sizM L) = -1) := by show _ = _; exact szV_no (by omega)
    go_enter Tryd.func24, Tryd.ntmps24
    go_wp2_with fail
    go_ret
    exact ⟨by rw [HF.out]; rfl, rfl⟩

theorem szStringS_yes (v : Value) (L : List (List UInt8)) (left : Nat) (w : World) (hv : Seen w v (strs L)) (hmx : ∀ s ∈ L, s.length ≤ maxLen) (h : L.length + sizM L ≤ left) (hl : left ≤ 1048576) :
    Calls Tryd.prog 24 #[v, .int .i64 left] w (RetInt w ((left - (L.length + sizM L) : Nat) : Int)) :=
  (szStringS_any v L left w hv hmx hl).mono fun e w' he => ⟨by rw [he.1, szV_yes h], he.2 ▸ TurnIn.refl w⟩

theorem szStringS_no (v : Value) (L : List (List UInt8)) (left : Nat) (w : World) (hv : Seen w v (strs L)) (hmx : ∀ s ∈ L, s.length ≤ maxLen) (h : left < L.length + sizM L) (hl : left ≤ 1048576) :
    Calls Tryd.prog 24 #[v, .int .i64 left] w (RetInt w (-1)) :=
  (szStringS_any v L left w hv hmx hl).mono fun e w' he => ⟨by rw [he.1, szV_no h], he.2 ▸ TurnIn.refl w⟩

end Go.Proofs.YtjklngheehhggaaDoor

/- newGrid: rows of a new grid, entry by entry, by whatever function value. -/
namespace G294
open Go Go.RowKit
/-- the function value g with what it captured hands back F i j at i, j; it may draw; it turns and lays nothing -/
def GivesAt (P : Program) (g : Nat) (lb : Array Value) (r c : Nat) (F : Ents) (w : World) : Prop :=
  ∀ (W : World) (i j : Nat), Below w.heap.size w W → i < r → j < c → Calls P g (#[.int .i64 i, .int .i64 j] ++ lb) W fun e w' => e = .returned (.int .u8 ((F i j).toNat : Int)) ∧ ∃ q, w' = W.drewN q
theorem GivesAt.later {P : Program} {g : Nat} {lb : Array Value} {r c : Nat} {F : Ents} {w W : World} (h : GivesAt P g lb r c F w) (hb : Below w.heap.size w W) : GivesAt P g lb r c F W :=
  fun W' i j hb' hi hj => h W' i j (hb.trans (hb'.mono hb.size)) hi hj
theorem getD_rep (n i : Nat) : (List.replicate n ([] : List UInt8)).getD i [] = [] := by
  simp only [List.getD, List.getElem?_replicate]; split <;> rfl
theorem own_blank {E EE : TypeId} {w w1 : World} {r c : Nat} {F : Ents} {v : Value} (h : w1.ownsRow w.heap.size EE 1 v r (List.replicate r (.slice none 0 0))) :
    OwnM E EE w1 w.heap.size w1.heap.size v (mkM 0 c F ++ List.replicate (r - 0) []) (List.replicate r (.slice none 0 0)) := by
  refine ⟨by simpa using h, Nat.le_refl _, fun g e => (h.lt g e).2, ?_, ?_⟩
  · intro i u hu
    have : u = .slice none 0 0 := by
      rw [List.getElem?_replicate] at hu; split at hu <;> simp_all
    subst this
    have e : (mkM 0 c F ++ List.replicate (r - 0) []).getD i [] = [] := by
      have e0 : mkM 0 c F = [] := rfl
      rw [e0, List.nil_append]; exact getD_rep _ _
    rw [e]
    exact OwnBytes.nil _ _ _
  · intro i u g hu hg
    have : u = .slice none 0 0 := by
      rw [List.getElem?_replicate] at hu; split at hu <;> simp_all
    subst this
    simp [Value.ownBlock] at hg
theorem mkM_succ (k c : Nat) (F : Ents) : mkM (k + 1) c F = mkM k c F ++ [mkRow c (F k)] := by simp [mkM, List.range_succ]
theorem set_mid {α : Type} (l m : List α) (x y : α) (k : Nat) (hk : l.length = k) : (l ++ x :: m).set k y = l ++ y :: m := by
  subst hk; simp
theorem getD_mid {α : Type} (l m : List α) (x d : α) (k : Nat) (hk : l.length = k) : (l ++ x :: m).getD k d = x := by
  subst hk; simp [List.getD]
end G294
namespace Go.Proofs.YtjklngheehhggaaDoor
open Go.RowKit G294

theorem infoRowB : (Tryd.prog.info? 22).map (fun i => (i.zero, i.size, i.bytes)) = some (some (.slice none 0 0), 1, 24) := by kernel_rfl

theorem infoElemB : (Tryd.prog.info? 5).map (fun i => (i.zero, i.size, i.bytes)) = some (some (.int .u8 0), 1, 1) := by kernel_rfl

set_option maxRecDepth 100000 in
set_option maxHeartbeats 2000000 in
theorem newGridB (r c g : Nat) (lb : Array Value) (F : Ents) (w : World) (eg : ∀ args w, (callFunc g args).run Tryd.prog w = .ok (.enter g args) w)
    (hat : GivesAt Tryd.prog g lb r c F w) (hr : r ≤ 1000) (hc : c ≤ 1000) :
    Calls Tryd.prog 115 #[.int .i64 r, .int .i64 c, .func (.func g) #[] lb] w (RetM 5 22 w (mkM r c F)) := by
  obtain ⟨i0, hi0, hz0, hz1, hz2⟩ := info_parts infoRowB
  obtain ⟨i1, hi1, hy0, hy1, hy2⟩ := info_parts infoElemB
  have HAT := Lib.hid hat
  clear hat
  go_enter Tryd.func115, Tryd.ntmps115
  go_wp2_with (at_make; refine wpList_make_full _ rfl _ _ _ rfl w.heap.size _ i0 _ 1 Tryd.underlying148 hi0 hz0 hz1 _ _ _ _ r rfl rfl rfl rfl ?b2 ?b3 ?b4 ?_)
  case b2 => rw [hz2]; omega
  case b3 => unfold maxLen; omega
  case b4 => exact Nat.le_refl _
  intro w1 hown1 hg1
  rw [toList_madeCells_one] at hown1
  have hb1 : Below w.heap.size w w1 := below_of_grown hg1 (Nat.le_refl _) (by simp)
  have hM1 : OwnM 5 22 w1 w.heap.size w1.heap.size (.slice (some ⟨w.heap.size, 0, none⟩) r r) (mkM 0 c F ++ List.replicate (r - 0) []) (List.replicate r (.slice none 0 0)) := own_blank hown1
  clear hg1 hown1
  go_wp2_with fail
  go_loopw [14] (fun i wr => ∃ (k : Nat) (vs : List Value), k ≤ r ∧ i = .int .i64 k ∧ OwnM 5 22 wr w.heap.size wr.heap.size (.slice (some ⟨w.heap.size, 0, none⟩) r r) (mkM k c F ++ List.replicate (r - k) []) vs ∧ Below w.heap.size w wr)
    (fun i _ => r - (intOf i).toNat)
  case atStart => exact ⟨0, _, Nat.zero_le _, rfl, hM1, hb1⟩
  case round =>
    obtain ⟨k, vs, hk, rfl, hM, hb⟩ := hrel
    clear hM1 hb1
    by_cases hlt : k < r
    · have hki : (k : Int) < (r : Int) := by omega
      go_wp2_with (at_make; refine wpList_make_full _ rfl _ _ _ rfl wr.heap.size _ i1 _ 1 Tryd.underlying22 hi1 hy0 hy1 _ _ _ _ c rfl rfl rfl rfl ?d2 ?d3 ?d4 ?_)
      case d2 => rw [hy2]; omega
      case d3 => unfold maxLen; omega
      case d4 => exact Nat.le_refl _
      intro w2 hown2 hg2
      rw [toList_madeCells_one] at hown2
      have hs2 := hg2.size
      have k2 : TurnIn 0 0 wr w2 := TurnIn.of_grown hg2 (by simp)
      have hM2 := hM.keep k2 (by omega)
      have hb2 : Below w.heap.size w w2 := k2.base hb (by have := hb.size; omega) (by omega)
      obtain ⟨u0, hu0, _⟩ := hM2.at k (by simp; omega)
      have hco := hM2.cellAt hu0
      have hfr := hM2.frozenAt k
      have hrow : OwnBytes 5 w2 wr.heap.size w2.heap.size (.slice (some ⟨wr.heap.size, 0, none⟩) c c) (mkRow c fun j => if j < 0 then F k j else 0) := by
        refine OwnBytes.of_made ?_
        rw [bys_zero c _ (fun j _ => if_neg (by omega))]
        simpa using hown2
      have hM3 := (hM2.put (k := k) (by simp [mkM]; omega) (by simp; omega) hrow (by omega) (by have := hb.size; omega) hs2).congr (L' := mkM k c F ++ (mkRow c fun j => if j < 0 then F k j else 0) :: List.replicate (r - k - 1) []) (by
        have e : List.replicate (r - k) ([] : List UInt8) = [] :: List.replicate (r - k - 1) [] := by
          rw [← List.replicate_succ]; congr 1; omega
        rw [e, set_mid _ _ _ _ _ (mkM_length k c F)])
      have hvs : (vs.set k (.slice (some ⟨wr.heap.size, 0, none⟩) c c))[k]? = some (.slice (some ⟨wr.heap.size, 0, none⟩) c c) := by
        have := (List.getElem?_eq_some_iff.1 hu0).1
        simp [this]
      have HVS := Lib.hid hvs
      have hb3 : Below w.heap.size w (w2.setCell ⟨w.heap.size, k, none⟩ (.slice (some ⟨wr.heap.size, 0, none⟩) c c)) := hb2.setCell (Nat.le_refl _) _
      have hc3 := hM3.cellAt hvs
      have hwr : w.heap.size ≤ wr.heap.size := hb.size
      clear hrow hM2 hown2 hg2 hb2 hM hb hvs k2
      generalize wr.heap.size = B at *
      generalize vs.set k (.slice (some ⟨B, 0, none⟩) c c) = vs1 at *
      go_wp2_with fail
      go_loopw [27] (fun i wq => ∃ m : Nat, m ≤ c ∧ i = .int .i64 m ∧ OwnM 5 22 wq w.heap.size wq.heap.size (.slice (some ⟨w.heap.size, 0, none⟩) r r) (mkM k c F ++ (mkRow c fun j => if j < m then F k j else 0) :: List.replicate (r - k - 1) []) vs1 ∧ Below w.heap.size w wq)
        (fun i _ => c - (intOf i).toNat)
      case atStart => exact ⟨0, Nat.zero_le _, rfl, by simpa using hM3, hb3⟩
      case round =>
        obtain ⟨m, hm, rfl, hM, hb⟩ := hrel
        clear hM3 hb3 hc3 hfr hco
        by_cases hlm : m < c
        · have hmi : (m : Int) < (c : Int) := by omega
          have hco := hM.cellAt HVS.out
          have hrow := hM.rows k _ HVS.out
          rw [getD_mid _ _ _ _ _ (mkM_length k c F)] at hrow
          have hcx := hrow.cellAt (k := m) (by rw [mkRow_length]; exact hlm)
          have hfr := hrow.frozenAt m
          have hst := fun q => ((hM.drewN q).store (j := m) (x := F k m) (k := k) (by rw [List.length_append, mkM_length, List.length_cons]; omega) HVS.out).congr (L' := mkM k c F ++ (mkRow c fun j => if j < m + 1 then F k j else 0) :: List.replicate (r - k - 1) []) (by
            rw [getD_mid _ _ _ _ _ (mkM_length k c F), set_mid _ _ _ _ _ (mkM_length k c F), mkRow_set]
            congr 2
            apply mkRow_congr
            intro j hj
            by_cases e : j = m
            · subst e; simp
            · rw [if_neg e]
              by_cases h2 : j < m
              · rw [if_pos h2, if_pos (by omega)]
              · rw [if_neg h2, if_neg (by omega)])
          have hcall := fun W (hW : Below w.heap.size w W) => HAT.out W k m hW hlt hlm
          have HST := Lib.hid hst
          have HCALL := Lib.hid hcall
          have hne : w.heap.size ≠ B := fun e => (hM.apart k _ B HVS.out rfl).1 (by rw [e]; rfl)
          have hne' : B ≠ w.heap.size := fun e => hne e.symm
          clear hcall hst
          go_wp2_with fail
          go_region_held3 (fun w' => w'.cell? ⟨w.heap.size, k, none⟩ = some (.slice (some ⟨B, 0, none⟩) c c))
            (first | go_keep)
            ((go_at_fn g; refine (HCALL.out _ (by first | assumption | exact below_drewN hb _)).mono ?_; rintro e w' ⟨rfl, q, rfl⟩))
          go_wp2_with fail
          go_roundw
          case rel => exact ⟨m + 1, by omega, by go_num, by simpa using HST.out (1 + q), (below_drewN hb _).setCell hwr _⟩
          case measure => simp [intOf]; omega
        · obtain rfl : m = c := by omega
          have hmi : ¬ (m : Int) < (m : Int) := by omega
          go_wp2_with fail
          go_roundw
          case rel => exact ⟨k + 1, vs1, by omega, by go_num, hM.congr (by
            rw [mkM_succ, List.append_assoc, show r - (k + 1) = r - k - 1 by omega]
            congr 2
            exact mkRow_congr fun j hj => if_pos hj), hb⟩
          case measure => simp [intOf]; omega
    · obtain rfl : k = r := by omega
      have hki : ¬ (k : Int) < (k : Int) := by omega
      go_wp2_with fail
      go_ret
      refine ⟨_, vs, rfl, ?_, TurnIn.of_below hb⟩
      rw [Nat.sub_self] at hM
      simpa using hM

theorem infoRowF : (Tryd.prog.info? 235).map (fun i => (i.zero, i.size, i.bytes)) = some (some (.slice none 0 0), 1, 24) := by kernel_rfl

theorem infoElemF : (Tryd.prog.info? 212).map (fun i => (i.zero, i.size, i.bytes)) = some (some (.int .u8 0), 1, 1) := by kernel_rfl

set_option maxRecDepth 100000 in
set_option maxHeartbeats 2000000 in
theorem newGridF (r c g : Nat) (lb : Array Value) (F : Ents) (w : World) (eg : ∀ args w, (callFunc g args).run Tryd.prog w = .ok (.enter g args) w)
    (hat : GivesAt Tryd.prog g lb r c F w) (hr : r ≤ 1000) (hc : c ≤ 1000) :
    Calls Tryd.prog 210 #[.int .i64 r, .int .i64 c, .func (.func g) #[] lb] w (RetM 212 235 w (mkM r c F)) := by
  obtain ⟨i0, hi0, hz0, hz1, hz2⟩ := info_parts infoRowF
  obtain ⟨i1, hi1, hy0, hy1, hy2⟩ := info_parts infoElemF
  have HAT := Lib.hid hat
  clear hat
  go_enter Tryd.func210, Tryd.ntmps210
  go_wp2_with (at_make; refine wpList_make_full _ rfl _ _ _ rfl w.heap.size _ i0 _ 1 Tryd.underlying209 hi0 hz0 hz1 _ _ _ _ r rfl rfl rfl rfl ?b2 ?b3 ?b4 ?_)
  case b2 => rw [hz2]; omega
  case b3 => unfold maxLen; omega
  case b4 => exact Nat.le_refl _
  intro w1 hown1 hg1
  rw [toList_madeCells_one] at hown1
  have hb1 : Below w.heap.size w w1 := below_of_grown hg1 (Nat.le_refl _) (by simp)
  have hM1 : OwnM 212 235 w1 w.heap.size w1.heap.size (.slice (some ⟨w.heap.size, 0, none⟩) r r) (mkM 0 c F ++ List.replicate (r - 0) []) (List.replicate r (.slice none 0 0)) := own_blank hown1
  clear hg1 hown1
  go_wp2_with fail
  go_loopw [14] (fun i wr => ∃ (k : Nat) (vs : List Value), k ≤ r ∧ i = .int .i64 k ∧ OwnM 212 235 wr w.heap.size wr.heap.size (.slice (some ⟨w.heap.size, 0, none⟩) r r) (mkM k c F ++ List.replicate (r - k) []) vs ∧ Below w.heap.size w wr)
    (fun i _ => r - (intOf i).toNat)
  case atStart => exact ⟨0, _, Nat.zero_le _, rfl, hM1, hb1⟩
  case round =>
    obtain ⟨k, vs, hk, rfl, hM, hb⟩ := hrel
    clear hM1 hb1
    by_cases hlt : k < r
    · have hki : (k : Int) < (r : Int) := by omega
      go_wp2_with (at_make; refine wpList_make_full _ rfl _ _ _ rfl wr.heap.size _ i1 _ 1 Tryd.underlying235 hi1 hy0 hy1 _ _ _ _ c rfl rfl rfl rfl ?d2 ?d3 ?d4 ?_)
      case d2 => rw [hy2]; omega
      case d3 => unfold maxLen; omega
      case d4 => exact Nat.le_refl _
      intro w2 hown2 hg2
      rw [toList_madeCells_one] at hown2
      have hs2 := hg2.size
      have k2 : TurnIn 0 0 wr w2 := TurnIn.of_grown hg2 (by simp)
      have hM2 := hM.keep k2 (by omega)
      have hb2 : Below w.heap.size w w2 := k2.base hb (by have := hb.size; omega) (by omega)
      obtain ⟨u0, hu0, _⟩ := hM2.at k (by simp; omega)
      have hco := hM2.cellAt hu0
      have hfr := hM2.frozenAt k
      have hrow : OwnBytes 212 w2 wr.heap.size w2.heap.size (.slice (some ⟨wr.heap.size, 0, none⟩) c c) (mkRow c fun j => if j < 0 then F k j else 0) := by
        refine OwnBytes.of_made ?_
        rw [bys_zero c _ (fun j _ => if_neg (by omega))]
        simpa using hown2
      have hM3 := (hM2.put (k := k) (by simp [mkM]; omega) (by simp; omega) hrow (by omega) (by have := hb.size; omega) hs2).congr (L' := mkM k c F ++ (mkRow c fun j => if j < 0 then F k j else 0) :: List.replicate (r - k - 1) []) (by
        have e : List.replicate (r - k) ([] : List UInt8) = [] :: List.replicate (r - k - 1) [] := by
          rw [← List.replicate_succ]; congr 1; omega
        rw [e, set_mid _ _ _ _ _ (mkM_length k c F)])
      have hvs : (vs.set k (.slice (some ⟨wr.heap.size, 0, none⟩) c c))[k]? = some (.slice (some ⟨wr.heap.size, 0, none⟩) c c) := by
        have := (List.getElem?_eq_some_iff.1 hu0).1
        simp [this]
      have HVS := Lib.hid hvs
      have hb3 : Below w.heap.size w (w2.setCell ⟨w.heap.size, k, none⟩ (.slice (some ⟨wr.heap.size, 0, none⟩) c c)) := hb2.setCell (Nat.le_refl _) _
      have hc3 := hM3.cellAt hvs
      have hwr : w.heap.size ≤ wr.heap.size := hb.size
      clear hrow hM2 hown2 hg2 hb2 hM hb hvs k2
      generalize wr.heap.size = B at *
      generalize vs.set k (.slice (some ⟨B, 0, none⟩) c c) = vs1 at *
      go_wp2_with fail
      go_loopw [27] (fun i wq => ∃ m : Nat, m ≤ c ∧ i = .int .i64 m ∧ OwnM 212 235 wq w.heap.size wq.heap.size (.slice (some ⟨w.heap.size, 0, none⟩) r r) (mkM k c F ++ (mkRow c fun j => if j < m then F k j else 0) :: List.replicate (r - k - 1) []) vs1 ∧ Below w.heap.size w wq)
        (fun i _ => c - (intOf i).toNat)
      case atStart => exact ⟨0, Nat.zero_le _, rfl, by simpa using hM3, hb3⟩
      case round =>
        obtain ⟨m, hm, rfl, hM, hb⟩ := hrel
        clear hM3 hb3 hc3 hfr hco
        by_cases hlm : m < c
        · have hmi : (m : Int) < (c : Int) := by omega
          have hco := hM.cellAt HVS.out
          have hrow := hM.rows k _ HVS.out
          rw [getD_mid _ _ _ _ _ (mkM_length k c F)] at hrow
          have hcx := hrow.cellAt (k := m) (by rw [mkRow_length]; exact hlm)
          have hfr := hrow.frozenAt m
          have hst := fun q => ((hM.drewN q).store (j := m) (x := F k m) (k := k) (by rw [List.length_append, mkM_length, List.length_cons]; omega) HVS.out).congr (L' := mkM k c F ++ (mkRow c fun j => if j < m + 1 then F k j else 0) :: List.replicate (r - k - 1) []) (by
            rw [getD_mid _ _ _ _ _ (mkM_length k c F), set_mid _ _ _ _ _ (mkM_length k c F), mkRow_set]
            congr 2
            apply mkRow_congr
            intro j hj
            by_cases e : j = m
            · subst e; simp
            · rw [if_neg e]
              by_cases h2 : j < m
              · rw [if_pos h2, if_pos (by omega)]
              · rw [if_neg h2, if_neg (by omega)])
          have hcall := fun W (hW : Below w.heap.size w W) => HAT.out W k m hW hlt hlm
          have HST := Lib.hid hst
          have HCALL := Lib.hid hcall
          have hne : w.heap.size ≠ B := fun e => (hM.apart k _ B HVS.out rfl).1 (by rw [e]; rfl)
          have hne' : B ≠ w.heap.size := fun e => hne e.symm
          clear hcall hst
          go_wp2_with fail
          go_region_held3 (fun w' => w'.cell? ⟨w.heap.size, k, none⟩ = some (.slice (some ⟨B, 0, none⟩) c c))
            (first | go_keep)
            ((go_at_fn g; refine (HCALL.out _ (by first | assumption | exact below_drewN hb _)).mono ?_; rintro e w' ⟨rfl, q, rfl⟩))
          go_wp2_with fail
          go_roundw
          case rel => exact ⟨m + 1, by omega, by go_num, by simpa using HST.out (1 + q), (below_drewN hb _).setCell hwr _⟩
          case measure => simp [intOf]; omega
        · obtain rfl : m = c := by omega
          have hmi : ¬ (m : Int) < (m : Int) := by omega
          go_wp2_with fail
          go_roundw
          case rel => exact ⟨k + 1, vs1, by omega, by go_num, hM.congr (by
            rw [mkM_succ, List.append_assoc, show r - (k + 1) = r - k - 1 by omega]
            congr 2
            exact mkRow_congr fun j hj => if_pos hj), hb⟩
          case measure => simp [intOf]; omega
    · obtain rfl : k = r := by omega
      have hki : ¬ (k : Int) < (k : Int) := by omega
      go_wp2_with fail
      go_ret
      refine ⟨_, vs, rfl, ?_, TurnIn.of_below hb⟩
      rw [Nat.sub_self] at hM
      simpa using hM

end Go.Proofs.YtjklngheehhggaaDoor
