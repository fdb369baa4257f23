/- Joined texts: MatI3, Two, VecAdd. -/
import Derived.Test.YtbfchebnooanjaaDoorBd12
import Derived.Test.YtbfchebnooanjaaDoorBd07
import Derived.Test.YtbfchebnooanjaaDoorBd04
import Derived.Deep.RegionHeld3
set_option linter.unusedSimpArgs false
set_option linter.unusedVariables false
/- The program's InverseOf and Product. -/
namespace G294
open Go Go.RowKit
theorem inv_sol {L : Mat} (h : squareM L = true) : invOk L = solB (ent L) L.length := by
  unfold invOk solB rankN
  simp only [squareM, Bool.and_eq_true, decide_eq_true_eq] at h
  rw [show squareM L = true by simp [squareM, h.1, h.2.symm], ← h.2]; rfl
theorem TurnIn.undrew' {w w1 w' : World} (h : TurnIn 0 0 w w1) (t : TurnIn 0 0 w1.drew w') : TurnIn 0 0 w w' := TurnIn.of_below (TurnIn.base (⟨t.os, t.tape, t.output, t.size, t.block⟩ : TurnIn 0 0 w1 w') h.to_below h.size (by omega))
end G294
namespace Go.Proofs.YtbfchebnooanjaaDoor
open Go.RowKit G294

set_option maxRecDepth 100000 in
set_option maxHeartbeats 4000000 in
theorem inverseOf_own (v : Value) (L : Mat) (w : World) (hs : SeenM w v L) (htab : Tab w) (h0 : 0 < w.heap.size) : Calls Tryd.prog 73 #[.agg #[v]] w (RetMatOk 5 22 w (invR L) (invOk L)) := by
  have kB : TurnIn 0 0 w ((w.alloc (.cells #[v] 67)).alloc (.cells #[.slice none 0 0] 67)) := turn_trans (turn_alloc _ _) (turn_alloc _ _) (by omega)
  have zB : ((w.alloc (.cells #[v] 67)).alloc (.cells #[.slice none 0 0] 67)).heap.size = w.heap.size + 2 := by simp
  have q0 : ((w.alloc (.cells #[v] 67)).alloc (.cells #[.slice none 0 0] 67)).cell? ⟨w.heap.size, 0, none⟩ = some v := by simp
  have q1 : ((w.alloc (.cells #[v] 67)).alloc (.cells #[.slice none 0 0] 67)).cell? ⟨w.heap.size + 1, 0, none⟩ = some (.slice none 0 0) := by simp
  have q1f : ((w.alloc (.cells #[v] 67)).alloc (.cells #[.slice none 0 0] 67)).frozen? ⟨w.heap.size + 1, 0, none⟩ = false := by simp
  have HS := Lib.hid (hs.touch kB)
  have HTAB := Lib.hid htab
  obtain ⟨A, cp, rfl, hlc, hcm⟩ := hs.len
  unfold maxLen at hcm
  have KB := Lib.hid kB
  clear hs htab kB
  go_enter Tryd.func73, Tryd.ntmps73
  go_wp2_with fail
  generalize ((w.alloc (.cells #[.slice A L.length cp] 67)).alloc (.cells #[.slice none 0 0] 67)) = w2 at *
  refine (squareMatrix_any _ L _ HS.out).mono ?_
  rintro e w3 ⟨rfl, k3⟩
  have cB := cell_turn k3 q0 (by omega)
  have cR := cell_turn k3 q1 (by omega)
  have cRf := frozen_turn k3 q1f (by omega)
  have hsz : w.heap.size + 2 ≤ w3.heap.size := by have := k3.size; omega
  have HS3 := Lib.hid (HS.out.touch k3)
  have KK3 := Lib.hid (turn_trans KB.out k3 (by omega))
  have HFAIL : Hid (invOk L = false → invR L = []) := fun h => if_neg (by rw [h]; simp)
  clear k3 q0 q1 q1f zB
  by_cases hg : squareM L = true
  · have HIS := Lib.hid (inv_sol hg)
    have hgg : goodM L = true ∧ L.length = wid L := by simpa [squareM] using hg
    obtain ⟨g1, g2, g3, g4, _⟩ := (goodM_iff L).1 hgg.1
    have HLE : Hid (L = mkM L.length L.length (ent L)) := by
      show L = mkM L.length L.length (ent L)
      have e := good_eq hgg.1
      rw [← hgg.2] at e
      exact e
    have HS4 : Hid (SeenM w3 (.slice A L.length cp) (mkM L.length L.length (ent L))) := by
      show SeenM w3 (.slice A L.length cp) (mkM L.length L.length (ent L))
      have e := HS3.out
      generalize hn : L.length = n at *
      have hL := HLE.out
      rw [hL] at e
      exact e
    rw [hg]
    clear hg hgg
    have HINV : Hid (invOk L = true → invR L = mkM L.length L.length (bst (ent L) idF L.length L.length)) := fun h => if_pos h
    generalize L.length = n at *
    go_wp2_with fail
    go_region_held3 (fun w' => w'.cell? ⟨w.heap.size, 0, none⟩ = some (.slice A n cp))
      (first | exact cB)
      (first
        | (go_at_call 95; refine (fieldGrid_own n n (ent L) _ w3.drew HS4.out g1 (by omega) (by omega)).mono ?_; rintro e wF ⟨vF, vsF, rfl, oF, kF⟩; have kk := KK3.out.undrew' kF; replace cB := cell_turn kF (show w3.drew.cell? _ = _ from cB) (show _ < w3.heap.size by omega); replace cR := cell_turn kF (show w3.drew.cell? _ = _ from cR) (show _ < w3.heap.size by omega); replace cRf := frozen_turn kF (show w3.drew.frozen? _ = _ from cRf) (show _ < w3.heap.size by omega); replace hsz : w.heap.size + 2 ≤ wF.heap.size := Nat.le_trans hsz kF.size)
        | (go_at_call 96; refine (identityGridF n wF (by omega)).mono ?_; rintro e wI ⟨vI, vsI, rfl, oI, kI⟩; replace oF := oF.keep kI (by omega); replace kk := turn_trans kk kI (by omega); replace cB := cell_turn kI cB (by omega); replace cR := cell_turn kI cR (by omega); replace cRf := frozen_turn kI cRf (by omega); replace hsz : w.heap.size + 2 ≤ wI.heap.size := Nat.le_trans hsz kI.size)
        | (go_at_call 96; refine (identityGridF n w3.drew (by omega)).mono ?_; rintro e wI ⟨vI, vsI, rfl, oI, kI⟩; have kk := KK3.out.undrew' kI; have HSI := Lib.hid ((show SeenM w3.drew (.slice A n cp) (mkM n n (ent L)) from HS4.out).touch kI); replace cB := cell_turn kI (show w3.drew.cell? _ = _ from cB) (show _ < w3.heap.size by omega); replace cR := cell_turn kI (show w3.drew.cell? _ = _ from cR) (show _ < w3.heap.size by omega); replace cRf := frozen_turn kI (show w3.drew.frozen? _ = _ from cRf) (show _ < w3.heap.size by omega); replace hsz : w.heap.size + 2 ≤ wI.heap.size := Nat.le_trans hsz kI.size)
        | (go_at_call 95; refine (fieldGrid_own n n (ent L) _ wI HSI.out g1 (by omega) (by omega)).mono ?_; rintro e wF ⟨vF, vsF, rfl, oF, kF⟩; replace oI := oI.keep kF (by omega); replace kk := turn_trans kk kF (by omega); replace cB := cell_turn kF cB (by omega); replace cR := cell_turn kF cR (by omega); replace cRf := frozen_turn kF cRf (by omega); replace hsz : w.heap.size + 2 ≤ wF.heap.size := Nat.le_trans hsz kF.size)
        | (go_at_call 94; refine (solved_own n n (ent L) idF _ _ _ oF.seen oI.seen g1 (by omega) (by omega) (HTAB.out.below kk.to_below h0) (by have := kk.size; omega)).mono ?_; rintro e w5 ⟨v5, vs5, rfl, o5, k5⟩; replace kk := turn_trans kk k5 (by omega); replace cB := cell_turn k5 cB (by omega); replace cR := cell_turn k5 cR (by omega); replace cRf := frozen_turn k5 cRf (by omega); replace hsz : w.heap.size + 2 ≤ w5.heap.size := Nat.le_trans hsz k5.size))
    all_goals
      have KK := Lib.hid kk
      have HO5 := Lib.hid o5
      clear kk o5 oF oI k5 kF kI
      by_cases hok : solB (ent L) n = true
      · have HOK := Lib.hid hok
        have HIV : Hid (invOk L = true) := by show invOk L = true; rw [HIS.out]; exact hok
        have e5 : solL (ent L) idF n n = mkM n n (bst (ent L) idF n n) := if_pos hok
        have HS5 : Hid (SeenM w5 v5 (mkM n n (bst (ent L) idF n n))) := by
          show SeenM w5 v5 _
          rw [← e5]; exact HO5.out.seen
        rw [show solOk (ent L) n = true from hok]
        clear hok e5
        go_wp2_with fail
        refine (matrixOf_own n n (bst (ent L) idF n n) _ _ HS5.out g1 (by omega) (by omega)).mono ?_
        rintro e w6 ⟨v6, vs6, rfl, hM6, ht6⟩
        obtain ⟨A', n', c', rfl⟩ := hM6.isSlice
        have hq := cell_turn ht6 cR (by omega)
        have hqf := frozen_turn ht6 cRf (by omega)
        have HF := Lib.hid (ret_store KK.out.to_below hM6 ht6 (w.heap.size + 1) 0 (by omega) (by omega) (.slice A' n' c'))
        clear hM6 ht6
        go_wp2_with fail
        refine bodyPost_ret (v := .tuple #[.agg #[.slice A' n' c'], .bool true]) (by simp [results, Tryd.results73, go_sem, hq]) rfl ?_
        exact ⟨.slice A' n' c', vs6, by rw [HIV.out], by rw [HINV.out HIV.out]; exact HF.out.1, HF.out.2⟩
      · have hok' : solB (ent L) n = false := by simpa using hok
        have HIV : Hid (invOk L = false) := by show invOk L = false; rw [HIS.out]; exact hok'
        rw [show solOk (ent L) n = false from hok']
        clear hok hok'
        go_wp2_with fail
        refine bodyPost_ret (v := .tuple #[.agg #[.slice none 0 0], .bool false]) (by simp [results, Tryd.results73, go_sem, cR]) rfl ?_
        exact ⟨_, [], by rw [HIV.out], by rw [HFAIL.out HIV.out]; exact OwnM.nil _ _ _ _, TurnIn.of_below (KK.out.to_below.setCell (Nat.le_succ _) _)⟩
  · have hg' : squareM L = false := by simpa using hg
    have HIV : Hid (invOk L = false) := by show invOk L = false; unfold invOk; rw [hg']; rfl
    rw [hg']
    clear hg hg'
    go_wp2_with fail
    refine bodyPost_ret (v := .tuple #[.agg #[.slice none 0 0], .bool false]) (by simp [results, Tryd.results73, go_sem, cR]) rfl ?_
    exact ⟨_, [], by rw [HIV.out], by rw [HFAIL.out HIV.out]; exact OwnM.nil _ _ _ _, TurnIn.of_below (KK3.out.to_below.setCell (Nat.le_succ _) _)⟩
end Go.Proofs.YtbfchebnooanjaaDoor

/- Two matrices beside each other, whose rows are replaced by new ones. -/
namespace G294
open Go Go.RowKit
structure Two (E EE : TypeId) (w : World) (lo g1 g2 n p1 p2 : Nat) (A B : Mat) (vs us : List Value) : Prop where
  o1 : w.ownsRow lo EE 1 (.slice (some ⟨g1, 0, none⟩) n p1) n vs
  o2 : w.ownsRow lo EE 1 (.slice (some ⟨g2, 0, none⟩) n p2) n us
  ne : g1 ≠ g2
  r1 : ∀ (i : Nat) (u : Value), vs[i]? = some u → OwnBytes E w lo w.heap.size u (A.getD i []) ∧ u.ownBlock ≠ some g1 ∧ u.ownBlock ≠ some g2
  r2 : ∀ (i : Nat) (u : Value), us[i]? = some u → OwnBytes E w lo w.heap.size u (B.getD i []) ∧ u.ownBlock ≠ some g1 ∧ u.ownBlock ≠ some g2
def ApartL (vs : List Value) : Prop := ∀ (i j : Nat) (u u' : Value) (g : Nat), vs[i]? = some u → vs[j]? = some u' → u.ownBlock = some g → u'.ownBlock = some g → i = j
section
variable {E EE : TypeId} {w w' : World} {lo g1 g2 n p1 p2 : Nat} {A B : Mat} {vs us : List Value}
theorem Two.flip (h : Two E EE w lo g1 g2 n p1 p2 A B vs us) : Two E EE w lo g2 g1 n p2 p1 B A us vs :=
  ⟨h.o2, h.o1, h.ne.symm, fun i u hu => ⟨(h.r2 i u hu).1, (h.r2 i u hu).2.2, (h.r2 i u hu).2.1⟩, fun i u hu => ⟨(h.r1 i u hu).1, (h.r1 i u hu).2.2, (h.r1 i u hu).2.1⟩⟩
theorem Two.keep (h : Two E EE w lo g1 g2 n p1 p2 A B vs us) (t : TurnIn 0 0 w w') : Two E EE w' lo g1 g2 n p1 p2 A B vs us :=
  ⟨owns_turn h.o1 (fun g e => (h.o1.lt g e).2) t (by omega), owns_turn h.o2 (fun g e => (h.o2.lt g e).2) t (by omega), h.ne,
    fun i u hu => ⟨((h.r1 i u hu).1.keep t (by omega)).wider (Nat.le_refl _) t.size (Nat.le_refl _), (h.r1 i u hu).2⟩,
    fun i u hu => ⟨((h.r2 i u hu).1.keep t (by omega)).wider (Nat.le_refl _) t.size (Nat.le_refl _), (h.r2 i u hu).2⟩⟩
theorem Two.put (h : Two E EE w lo g1 g2 n p1 p2 A B vs us) (k : Nat) (hk : k < A.length) {u : Value} {r : List UInt8} (hu : OwnBytes E w lo w.heap.size u r) (n1 : u.ownBlock ≠ some g1) (n2 : u.ownBlock ≠ some g2) :
    Two E EE (w.setCell ⟨g1, k, none⟩ u) lo g1 g2 n p1 p2 (A.set k r) B (vs.set k u) us := by
  have hst := h.o1.stored k u
  have hold : ∀ (x : Value) (l : List UInt8), OwnBytes E w lo w.heap.size x l → x.ownBlock ≠ some g1 → OwnBytes E (w.setCell ⟨g1, k, none⟩ u) lo (w.setCell ⟨g1, k, none⟩ u).heap.size x l :=
    fun x l hx hn => (hx.other hst.2 (fun g' e e2 => hn (e.trans e2.symm))).wider (Nat.le_refl _) (by simp) (by simp)
  refine ⟨hst.1, own_other h.o2 hst.2 (fun g e e2 => h.ne (Option.some.inj (e2.trans e.symm))), h.ne, ?_, fun i x hx => ⟨hold x _ (h.r2 i x hx).1 (h.r2 i x hx).2.1, (h.r2 i x hx).2⟩⟩
  intro i x hx
  rw [getD_set _ _ _ _ _ hk]
  rcases get_set hx with ⟨rfl, rfl⟩ | ⟨hne, hx⟩
  · rw [if_pos rfl]; exact ⟨hold _ _ hu n1, n1, n2⟩
  · rw [if_neg hne]; exact ⟨hold x _ (h.r1 i x hx).1 (h.r1 i x hx).2.1, (h.r1 i x hx).2⟩
theorem Two.congr {A' B' : Mat} (h : Two E EE w lo g1 g2 n p1 p2 A B vs us) (e1 : A = A') (e2 : B = B') : Two E EE w lo g1 g2 n p1 p2 A' B' vs us := e1 ▸ e2 ▸ h
theorem Two.of {lo1 hi1 lo2 hi2 : Nat} (h1 : OwnM E EE w lo1 hi1 (.slice (some ⟨g1, 0, none⟩) n p1) A vs) (h2 : OwnM E EE w lo2 hi2 (.slice (some ⟨g2, 0, none⟩) n p2) B us) (hd : hi1 ≤ lo2) (hl : lo ≤ lo1) (hA : A.length = n) (hB : B.length = n) (hl2 : lo ≤ lo2) :
    Two E EE w lo g1 g2 n p1 p2 A B vs us ∧ ApartL us := by
  have a1 := h1.out g1 rfl
  have a2 := (h2.row.lt g2 rfl).1
  refine ⟨⟨own_base (hA ▸ h1.row) hl, own_base (hB ▸ h2.row) hl2, by omega, fun i u hu => ?_, fun i u hu => ?_⟩, fun i j u u' g hi hj e e' => ((h2.apart i u g hi e).2 j u' hj e').symm⟩
  · exact ⟨(h1.rows i u hu).wider hl h1.top (Nat.le_refl _), fun e => (h1.apart i u g1 hu e).1 rfl, fun e => by have := (h1.rows i u hu).2.2 g2 e; omega⟩
  · exact ⟨(h2.rows i u hu).wider hl2 h2.top (Nat.le_refl _), fun e => by have := ((h2.rows i u hu).1.lt g1 e).1; omega, fun e => (h2.apart i u g2 hu e).1 rfl⟩
theorem Two.own2 (h : Two E EE w lo g1 g2 n p1 p2 A B vs us) (ha : ApartL us) (hB : B.length = n) : OwnM E EE w lo w.heap.size (.slice (some ⟨g2, 0, none⟩) n p2) B us :=
  ⟨hB.symm ▸ h.o2, Nat.le_refl _, fun g e => (h.o2.lt g e).2, fun i u hu => (h.r2 i u hu).1, fun i u g hu e => ⟨fun e2 => (h.r2 i u hu).2.2 (e.trans e2.symm), fun j u' hj e' => (ha i j u u' g hu hj e e').symm⟩⟩
/-- row i of the first -/
theorem Two.rowF {c : Nat} {F : Ents} (h : Two E EE w lo g1 g2 n p1 p2 (mkM n c F) B vs us) (i : Nat) (hi : i < n) (hc : 0 < c) : ∃ b cc, vs[i]? = some (.slice (some ⟨b, 0, none⟩) c cc) ∧ b < w.heap.size ∧ c ≤ cc ∧ cc ≤ maxLen ∧
    w.cell? ⟨g1, i, none⟩ = some (.slice (some ⟨b, 0, none⟩) c cc) ∧ OwnBytes E w lo w.heap.size (.slice (some ⟨b, 0, none⟩) c cc) (mkRow c (F i)) ∧ ∀ j, j < c → w.cell? ⟨b, j, none⟩ = some (.int .u8 ((F i j).toNat : Int)) := by
  have hl := h.o1.1
  have e : vs[i]? = some (vs[i]'(by omega)) := List.getElem?_eq_getElem (by omega)
  generalize vs[i]'(by omega) = u at e
  have ho := (h.r1 i u e).1
  rw [mkM_getD _ _ _ _ hi] at ho
  obtain ⟨b, cc, rfl, h1, h2, h3, h4⟩ := ho.slice (by simpa using hc)
  rw [mkRow_length] at ho e h3
  have hcell := h.o1.cells (g := g1) rfl i _ e
  rw [Addr.add_lit, Nat.zero_add] at hcell
  refine ⟨b, cc, e, h2, h3, h4, hcell, ho, fun j hj => ?_⟩
  have := ho.cellAt (k := j) (by simpa using hj)
  rwa [mkRow_getD _ _ _ hj] at this
theorem Two.at1 (h : Two E EE w lo g1 g2 n p1 p2 A B vs us) {i : Nat} {u : Value} (hu : vs[i]? = some u) : w.cell? ⟨g1, i, none⟩ = some u := by
  have hcell := h.o1.cells (g := g1) rfl i _ hu
  rwa [Addr.add_lit, Nat.zero_add] at hcell
theorem Two.some1 (h : Two E EE w lo g1 g2 n p1 p2 A B vs us) {i : Nat} (hi : i < n) : ∃ u, w.cell? ⟨g1, i, none⟩ = some u := by
  have hl := h.o1.1
  exact ⟨_, h.at1 (List.getElem?_eq_getElem (by omega))⟩
/-- what is beside stays when a row is put -/
theorem Two.side (h : Two E EE w lo g1 g2 n p1 p2 A B vs us) (k : Nat) (u : Value) {x : Value} {l : List UInt8} (hx : OwnBytes E w lo w.heap.size x l) (hn : x.ownBlock ≠ some g1) : OwnBytes E (w.setCell ⟨g1, k, none⟩ u) lo (w.setCell ⟨g1, k, none⟩ u).heap.size x l :=
  (hx.other (h.o1.stored k u).2 (fun g' e e2 => hn (e.trans e2.symm))).wider (Nat.le_refl _) (by simp) (by simp)
/-- a new row is put -/
theorem Two.new (h : Two E EE w lo g1 g2 n p1 p2 A B vs us) (t : TurnIn 0 0 w w') {g c cc : Nat} {r : List UInt8} (ho : OwnBytes E w' w.heap.size w'.heap.size (.slice (some ⟨g, 0, none⟩) c cc) r) (hg : w.heap.size ≤ g) (hlo : lo ≤ w.heap.size) (k : Nat) (hk : k < A.length) :
    Two E EE (w'.setCell ⟨g1, k, none⟩ (.slice (some ⟨g, 0, none⟩) c cc)) lo g1 g2 n p1 p2 (A.set k r) B (vs.set k (.slice (some ⟨g, 0, none⟩) c cc)) us := by
  have a1 := (h.o1.lt g1 rfl).2
  have a2 := (h.o2.lt g2 rfl).2
  exact (h.keep t).put k hk (ho.wider hlo (Nat.le_refl _) (Nat.le_refl _)) (by simp [Value.ownBlock]; omega) (by simp [Value.ownBlock]; omega)
theorem Two.fresh (h : Two E EE w lo g1 g2 n p1 p2 A B vs us) {g c cc : Nat} (hg : w.heap.size ≤ g) : ∀ (i : Nat) (x : Value) (g' : Nat), us[i]? = some x → x.ownBlock = some g' → (Value.slice (some ⟨g, 0, none⟩) c cc).ownBlock ≠ some g' := by
  intro i x g' hx e e2
  have := (h.r2 i x hx).1.2.2 g' e
  simp [Value.ownBlock] at e2
  omega
theorem row_own {w w' : World} {c : Nat} {v : Value} {f : Nat → UInt8} (ho : OwnBytes E w' w.heap.size w'.heap.size v (mkRow c f)) (hc : 0 < c) : ∃ g cc, v = .slice (some ⟨g, 0, none⟩) c cc ∧ w.heap.size ≤ g ∧ g < w'.heap.size := by
  obtain ⟨g, cc, e, h1, h2, _⟩ := ho.slice (by simpa using hc)
  exact ⟨g, cc, by simpa using e, h1, h2⟩
theorem Two.frz (h : Two E EE w lo g1 g2 n p1 p2 A B vs us) (k : Nat) : w.frozen? ⟨g1, k, none⟩ = false := h.o1.frozenAt k
theorem ApartL.set (h : ApartL vs) (k : Nat) (u : Value) (hf : ∀ (i : Nat) (x : Value) (g : Nat), vs[i]? = some x → x.ownBlock = some g → u.ownBlock ≠ some g) : ApartL (vs.set k u) := by
  intro i j x x' g hi hj e e'
  rcases get_set hi with ⟨i1, i2⟩ | ⟨n1, hi2⟩ <;> rcases get_set hj with ⟨j1, j2⟩ | ⟨n2, hj2⟩
  · rw [i1, j1]
  · exact absurd (i2 ▸ e) (hf j x' g hj2 e')
  · exact absurd (j2 ▸ e') (hf i x g hi2 e)
  · exact h i j x x' g hi2 hj2 e e'
theorem ApartL.move (h : ApartL vs) (a k : Nat) {y : Value} (hy : vs[a]? = some y) (u : Value) (hf : ∀ (i : Nat) (x : Value) (g : Nat), vs[i]? = some x → x.ownBlock = some g → u.ownBlock ≠ some g) : ApartL ((vs.set k y).set a u) := by
  intro i j x x' g hi hj e e'
  rcases get_set hi with ⟨i1, i2⟩ | ⟨n1, hi2⟩ <;> rcases get_set hj with ⟨j1, j2⟩ | ⟨n2, hj2⟩
  · rw [i1, j1]
  · rcases get_set hj2 with ⟨j3, j4⟩ | ⟨n3, hj3⟩
    · exact absurd (i2 ▸ e) (hf a y g hy (j4 ▸ e'))
    · exact absurd (i2 ▸ e) (hf j x' g hj3 e')
  · rcases get_set hi2 with ⟨i3, i4⟩ | ⟨n3, hi3⟩
    · exact absurd (j2 ▸ e') (hf a y g hy (i4 ▸ e))
    · exact absurd (j2 ▸ e') (hf i x g hi3 e)
  · rcases get_set hi2 with ⟨i3, i4⟩ | ⟨n3, hi3⟩ <;> rcases get_set hj2 with ⟨j3, j4⟩ | ⟨n4, hj3⟩
    · rw [i3, j3]
    · exact absurd (h a j y x' g hy hj3 (i4 ▸ e) e').symm n2
    · exact absurd (h i a x y g hi3 hy e (j4 ▸ e')) n1
    · exact h i j x x' g hi3 hj3 e e'
end
/-- only the blocks g1 and g2 of those that were there may have turned -/
structure Off (g1 g2 : Nat) (w w' : World) : Prop where
  os : w'.os = w.os
  tape : w'.tape = w.tape
  output : w'.output = w.output
  size : w.heap.size ≤ w'.heap.size
  block : ∀ k, k < w.heap.size → k ≠ g1 → k ≠ g2 → w'.heap[k]? = w.heap[k]?
section
variable {w w1 w2 W : World} {g1 g2 N : Nat}
theorem Off.refl (w : World) : Off g1 g2 w w := ⟨rfl, rfl, rfl, Nat.le_refl _, fun _ _ _ _ => rfl⟩
theorem Off.turn (h : Off g1 g2 w w1) (t : TurnIn 0 0 w1 w2) : Off g1 g2 w w2 :=
  ⟨t.os.trans h.os, t.tape.trans h.tape, t.output.trans h.output, Nat.le_trans h.size t.size, fun k hk a b => (t.block k (by have := h.size; omega) (by omega)).trans (h.block k hk a b)⟩
theorem Off.set1 (h : Off g1 g2 w w1) (o : Nat) (x : Value) : Off g1 g2 w (w1.setCell ⟨g1, o, none⟩ x) :=
  ⟨h.os, h.tape, h.output, by simpa using h.size, fun k hk a b => (heap_setCell_other w1 ⟨g1, o, none⟩ k x (by intro e; simp at e; omega)).trans (h.block k hk a b)⟩
theorem Off.flip (h : Off g1 g2 w w1) : Off g2 g1 w w1 := ⟨h.os, h.tape, h.output, h.size, fun k hk a b => h.block k hk b a⟩
theorem Off.set2 (h : Off g1 g2 w w1) (o : Nat) (x : Value) : Off g1 g2 w (w1.setCell ⟨g2, o, none⟩ x) := (h.flip.set1 o x).flip
theorem Off.cell (h : Off g1 g2 w w1) {B o : Nat} {x : Value} (hc : w.cell? ⟨B, o, none⟩ = some x) (hB : B < w.heap.size) (n1 : B ≠ g1) (n2 : B ≠ g2) : w1.cell? ⟨B, o, none⟩ = some x := (World.cell?_of_block (h.block B hB n1 n2)).trans hc
theorem Off.frozen (h : Off g1 g2 w w1) {B o : Nat} {x : Bool} (hc : w.frozen? ⟨B, o, none⟩ = x) (hB : B < w.heap.size) (n1 : B ≠ g1) (n2 : B ≠ g2) : w1.frozen? ⟨B, o, none⟩ = x := (World.frozen?_of_block (h.block B hB n1 n2)).trans hc
theorem Off.below (h : Off g1 g2 w w1) (hb : Below N W w) (hN : N ≤ w.heap.size) (h1 : N ≤ g1) (h2 : N ≤ g2) : Below N W w1 :=
  ⟨h.os.trans hb.os, h.tape.trans hb.tape, h.output.trans hb.output, Nat.le_trans hb.size h.size, fun k hk => (h.block k (by omega) (by omega) (by omega)).trans (hb.block k hk)⟩
end
theorem scaleL_mk (s : UInt8) (c : Nat) (f : Nat → UInt8) : scaleL s (mkRow c f) = mkRow c (fun j => gmul s (f j)) := by
  simp [scaleL, mkRow]
theorem addL_mk (c : Nat) (f g : Nat → UInt8) : addL (mkRow c f) (mkRow c g) = mkRow c (fun j => f j ^^^ g j) := by
  apply List.ext_getElem (by simp [addL])
  intro n h1 h2
  simp [addL, mkRow]
/-- rows below k cleared -/
def ckF (a k : Nat) (fs : Nat → UInt8) (X : Ents) : Ents := fun i j => if i < k then clF a fs X i j else X i j
theorem ckF_a (a k : Nat) (fs : Nat → UInt8) (X : Ents) (j : Nat) : ckF a k fs X a j = X a j := by unfold ckF clF; split <;> simp
theorem ckF_k (a k : Nat) (fs : Nat → UInt8) (X : Ents) (j : Nat) : ckF a k fs X k j = X k j := by simp [ckF]
theorem ckF_zero (a : Nat) (fs : Nat → UInt8) (X : Ents) (n c : Nat) : mkM n c (ckF a 0 fs X) = mkM n c X := mkM_congr fun i j _ _ => by simp [ckF]
theorem ckF_all (a : Nat) (fs : Nat → UInt8) (X : Ents) (n c : Nat) : mkM n c (ckF a n fs X) = mkM n c (clF a fs X) := mkM_congr fun i j hi _ => by simp [ckF, hi]
theorem ckF_stay (a k : Nat) (fs : Nat → UInt8) (X : Ents) (n c : Nat) (h : k = a ∨ fs k = 0) : mkM n c (ckF a k fs X) = mkM n c (ckF a (k + 1) fs X) := mkM_congr fun i j _ _ => by
  unfold ckF
  by_cases h1 : i = k
  · subst h1
    simp only [Nat.lt_irrefl, if_false, Nat.lt_succ_self, if_true, clF]
    by_cases h2 : i = a
    · subst h2; simp
    · rcases h with h | h
      · exact absurd h h2
      · rw [if_neg h2, h, zero_gmul]; simp
  · by_cases h2 : i < k
    · simp [h2, show i < k + 1 by omega]
    · simp [h2, show ¬ i < k + 1 by omega]
theorem ckF_put (a k : Nat) (fs : Nat → UInt8) (X : Ents) (n c : Nat) (h : k ≠ a) : (mkM n c (ckF a k fs X)).set k (mkRow c fun j => X k j ^^^ gmul (fs k) (X a j)) = mkM n c (ckF a (k + 1) fs X) := by
  rw [mkM_set]
  refine mkM_congr fun i j _ _ => ?_
  unfold ckF
  by_cases h1 : i = k
  · subst h1
    simp [clF, h]
  · by_cases h2 : i < k
    · simp [h1, h2, show i < k + 1 by omega]
    · simp [h1, h2, show ¬ i < k + 1 by omega]
theorem ckF_put' (a k : Nat) (fs : Nat → UInt8) (X : Ents) (n c : Nat) (f : UInt8) (hf : f = fs k) (h : k ≠ a) : (mkM n c (ckF a k fs X)).set k (mkRow c fun j => ckF a k fs X k j ^^^ gmul f (ckF a k fs X a j)) = mkM n c (ckF a (k + 1) fs X) := by
  rw [← ckF_put a k fs X n c h]
  congr 1
  exact mkRow_congr fun j _ => by rw [ckF_k, ckF_a, hf]
theorem swap_put (n c a p : Nat) (s : UInt8) (F : Ents) : ((mkM n c F).set p (mkRow c (F a))).set a (mkRow c fun j => gmul s (F p j)) = mkM n c (scF a s (swF a p F)) := by
  rw [mkM_set, mkM_set]
  refine mkM_congr fun i j _ _ => ?_
  unfold scF swF sw
  by_cases h1 : i = a
  · subst h1; simp
  · by_cases h2 : i = p
    · subst h2; simp [h1]
    · simp [h1, h2]
end G294

/- Contracts of AddVectors, the program's and the model's. -/
namespace G294
theorem addL_len (l m : List UInt8) (h : l.length = m.length) : (addL l m).length = l.length := by simp [addL, h]
theorem addL_get (l m : List UInt8) (k : Nat) (h1 : k < l.length) (h2 : k < m.length) (h3 : k < (addL l m).length) : (addL l m)[k] = l[k] ^^^ m[k] := by simp [addL]
theorem addR_len (l m : List UInt8) : (addR l m).length ≤ 80 := by
  unfold addR; split
  · rename_i h; rw [addL_len l m h.2]; exact h.1
  · simp
end G294
namespace Go.Proofs.YtbfchebnooanjaaDoor
open Go.RowKit G294

set_option maxHeartbeats 1000000 in
theorem l1Add_own (v u : Value) (l m : List UInt8) (w : World) (hv : Seen w v (bys l)) (hu : Seen w u (bys m)) (hlen : l.length = m.length) (hn : l.length ≤ 1048576) :
    Calls Tryd.prog 92 #[v, u] w (RetBytes 5 w (addL l m)) := by
  obtain ⟨A, c, rfl, hlc, hcm, hx⟩ := hv
  obtain ⟨A', c', rfl, hlc', hcm', hx'⟩ := hu
  rw [bys_length] at hlc hx hlc' hx'
  simp only [bys_length]
  unfold maxLen at hcm hcm'
  have HAL := Lib.hid (addL_len l m hlen)
  generalize hnn : l.length = n at *
  generalize hmm : m.length = n' at *
  obtain rfl : n = n' := by omega
  have HN := Lib.hid hnn
  have HM := Lib.hid hmm
  clear hnn hmm
  go_enter Tryd.func92, Tryd.ntmps92
  go_wp2_with fail
  go_loopw [5, 9] (fun o i wr => ∃ k : Nat, k ≤ n ∧ i = .int .i64 k ∧ wr.ownsRow w.heap.size 5 1 o k (bys ((addL l m).take k)) ∧ Below w.heap.size w wr)
    (fun _ i _ => n - (intOf i).toNat)
  case atStart => exact ⟨0, Nat.zero_le _, rfl, World.ownsRow_nil _ _ _ _, Below.refl _ _⟩
  case round =>
    obtain ⟨k, hk, rfl, hown, hb⟩ := hrel
    by_cases hlt : k < n
    · obtain ⟨b, off, rfl, hbl, hcell⟩ := hx (by omega)
      obtain ⟨b', off', rfl, hbl', hcell'⟩ := hx' (by omega)
      have hkl : k < l.length := by rw [HN.out]; exact hlt
      have hkm : k < m.length := by rw [HM.out]; exact hlt
      have hka : k < (addL l m).length := by rw [HAL.out]; exact hlt
      have hcx : wr.cell? ⟨b, off + k, none⟩ = some (.int .u8 ((l[k]).toNat : Int)) := (hb.cell (p := ⟨b, off + k, none⟩) hbl).trans (hcell k _ (bys_get l k hkl))
      have hcy : wr.cell? ⟨b', off' + k, none⟩ = some (.int .u8 ((m[k]).toNat : Int)) := (hb.cell (p := ⟨b', off' + k, none⟩) hbl').trans (hcell' k _ (bys_get m k hkm))
      have HX := Lib.hid (xor_u8 l[k] m[k])
      have HG := Lib.hid (addL_get l m k hkl hkm hka)
      have hbs := hb.size
      have hob : u5.ownBlock ≠ some b := fun e => by have := (hown.lt b e).1; omega
      have hob' : u5.ownBlock ≠ some b' := fun e => by have := (hown.lt b' e).1; omega
      have hk0 : (0 : Int) ≤ (k : Int) := Int.natCast_nonneg _
      clear hcell hcell' hx hx'
      have hki : (k : Int) < (n : Int) := by omega
      go_wp2_with fail
      go_region_held3 (fun w' => w'.cell? ⟨b, off + k, none⟩ = some (.int .u8 ((l[k]).toNat : Int)) ∧ w'.cell? ⟨b', off' + k, none⟩ = some (.int .u8 ((m[k]).toNat : Int)))
        (first
          | go_keep
          | (go_split_ands
             refine ⟨?_, ?_⟩
             · (rw [hg'.cell_far _ (by simp; omega) (Ne.symm hob)]; assumption)
             · (rw [hg'.cell_far _ (by simp; omega) (Ne.symm hob')]; assumption)))
        ((refine step_append1 (by rfl) _ _ _ (by rfl) w.heap.size 5 _ _ Tryd.underlying22 infoByte rfl _ k _ (by rfl) ((hown.alloc _).drew) wr.heap.size (.int .u8 (bits BinOp.xor IntKind.u8 ((l[k]).toNat : Int) ((m[k]).toNat : Int))) (by rfl) (by simp) (by rfl) (by omega) (by omega) (by have := hb.size; simp; omega) ?_; intro v' w1 hown1 hg' _))
      have hb' : Below w.heap.size w w1 := below_append ((hb.alloc hb.size _).drew) ((hown.alloc _).drew) hg' (Nat.le_refl _) (by simp; omega)
      have hown2 : w1.ownsRow w.heap.size 5 1 v' (k + 1) (bys ((addL l m).take (k + 1))) := by
        have e : (addL l m).take (k + 1) = (addL l m).take k ++ [l[k] ^^^ m[k]] := by
          rw [List.take_succ_eq_append_getElem hka, HG.out]
        rw [HX.out] at hown1
        rw [e, bys_append]; exact hown1
      clear hown1 hg' hown
      go_wp2_with fail
      go_roundw
      case rel => exact ⟨k + 1, by omega, by go_num, hown2, hb'⟩
      case measure => simp [intOf]; omega
    · obtain rfl : k = n := by omega
      have hki : ¬ (k : Int) < (k : Int) := by omega
      go_wp2_with fail
      go_ret
      refine ⟨_, rfl, OwnBytes.of_made ?_, TurnIn.of_below hb⟩
      rw [List.take_of_length_le (by rw [HAL.out]; exact Nat.le_refl _)] at hown
      simpa [HAL.out] using hown

end Go.Proofs.YtbfchebnooanjaaDoor
