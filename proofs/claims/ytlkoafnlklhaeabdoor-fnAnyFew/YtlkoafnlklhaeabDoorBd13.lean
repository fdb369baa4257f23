/- Joined texts: MatI3, DecBy, Decode, Remade, RebMath, ChkMath, AnyFew. -/
import Derived.Test.YtlkoafnlklhaeabDoorBd12
import Derived.Test.YtlkoafnlklhaeabDoorBd10
import Derived.Deep.CutRange
import Derived.Maps.AppendAt
import Derived.Test.YtlkoafnlklhaeabDoorBd06
import Derived.Test.YtlkoafnlklhaeabDoorBd05
import Derived.Test.YtlkoafnlklhaeabDoorBd11
set_option linter.unusedSimpArgs false
set_option linter.unusedVariables false
/- The program's InverseOf and Product. -/
namespace G294
open Go Go.RowKit
theorem inv_sol {L : Mat} (h : squareM L = true) : invOk L = solB (ent L) L.length := by
  unfold invOk solB rankN
  simp only [squareM, Bool.and_eq_true, decide_eq_true_eq] at h
  rw [show squareM L = true by simp [squareM, h.1, h.2.symm], ← h.2]; rfl
theorem TurnIn.undrew' {w w1 w' : World} (h : TurnIn 0 0 w w1) (t : TurnIn 0 0 w1.drew w') : TurnIn 0 0 w w' := TurnIn.of_below (TurnIn.base (⟨t.os, t.tape, t.output, t.size, t.block⟩ : TurnIn 0 0 w1 w') h.to_below h.size (by omega))
end G294
namespace Go.Proofs.YtlkoafnlklhaeabDoor
open Go.RowKit G294

set_option maxRecDepth 100000 in
set_option maxHeartbeats 4000000 in
theorem inverseOf_own (v : Value) (L : Mat) (w : World) (hs : SeenM w v L) (htab : Tab w) (h0 : 0 < w.heap.size) : Calls Tryd.prog 61 #[.agg #[v]] w (RetMatOk 5 22 w (invR L) (invOk L)) := by
  have kB : TurnIn 0 0 w ((w.alloc (.cells #[v] 52)).alloc (.cells #[.slice none 0 0] 52)) := turn_trans (turn_alloc _ _) (turn_alloc _ _) (by omega)
  have zB : ((w.alloc (.cells #[v] 52)).alloc (.cells #[.slice none 0 0] 52)).heap.size = w.heap.size + 2 := by simp
  have q0 : ((w.alloc (.cells #[v] 52)).alloc (.cells #[.slice none 0 0] 52)).cell? ⟨w.heap.size, 0, none⟩ = some v := by simp
  have q1 : ((w.alloc (.cells #[v] 52)).alloc (.cells #[.slice none 0 0] 52)).cell? ⟨w.heap.size + 1, 0, none⟩ = some (.slice none 0 0) := by simp
  have q1f : ((w.alloc (.cells #[v] 52)).alloc (.cells #[.slice none 0 0] 52)).frozen? ⟨w.heap.size + 1, 0, none⟩ = false := by simp
  have HS := Lib.hid (hs.touch kB)
  have HTAB := Lib.hid htab
  obtain ⟨A, cp, rfl, hlc, hcm⟩ := hs.len
  unfold maxLen at hcm
  have KB := Lib.hid kB
  clear hs htab kB
  go_enter Tryd.func61, Tryd.ntmps61
  go_wp2_with fail
  generalize ((w.alloc (.cells #[.slice A L.length cp] 52)).alloc (.cells #[.slice none 0 0] 52)) = w2 at *
  refine (squareMatrix_any _ L _ HS.out).mono ?_
  rintro e w3 ⟨rfl, k3⟩
  have cB := cell_turn k3 q0 (by omega)
  have cR := cell_turn k3 q1 (by omega)
  have cRf := frozen_turn k3 q1f (by omega)
  have hsz : w.heap.size + 2 ≤ w3.heap.size := by have := k3.size; omega
  have HS3 := Lib.hid (HS.out.touch k3)
  have KK3 := Lib.hid (turn_trans KB.out k3 (by omega))
  have HFAIL : Hid (invOk L = false → invR L = []) := fun h => if_neg (by rw [h]; simp)
  clear k3 q0 q1 q1f zB
  by_cases hg : squareM L = true
  · have HIS := Lib.hid (inv_sol hg)
    have hgg : goodM L = true ∧ L.length = wid L := by simpa [squareM] using hg
    obtain ⟨g1, g2, g3, g4, _⟩ := (goodM_iff L).1 hgg.1
    have HLE : Hid (L = mkM L.length L.length (ent L)) := by
      show L = mkM L.length L.length (ent L)
      have e := good_eq hgg.1
      rw [← hgg.2] at e
      exact e
    have HS4 : Hid (SeenM w3 (.slice A L.length cp) (mkM L.length L.length (ent L))) := by
      show SeenM w3 (.slice A L.length cp) (mkM L.length L.length (ent L))
      have e := HS3.out
      generalize hn : L.length = n at *
      have hL := HLE.out
      rw [hL] at e
      exact e
    rw [hg]
    clear hg hgg
    have HINV : Hid (invOk L = true → invR L = mkM L.length L.length (bst (ent L) idF L.length L.length)) := fun h => if_pos h
    generalize L.length = n at *
    go_wp2_with fail
    go_region_held3 (fun w' => w'.cell? ⟨w.heap.size, 0, none⟩ = some (.slice A n cp))
      (first | exact cB)
      (first
        | (go_at_call 78; refine (fieldGrid_own n n (ent L) _ w3.drew HS4.out g1 (by omega) (by omega)).mono ?_; rintro e wF ⟨vF, vsF, rfl, oF, kF⟩; have kk := KK3.out.undrew' kF; replace cB := cell_turn kF (show w3.drew.cell? _ = _ from cB) (show _ < w3.heap.size by omega); replace cR := cell_turn kF (show w3.drew.cell? _ = _ from cR) (show _ < w3.heap.size by omega); replace cRf := frozen_turn kF (show w3.drew.frozen? _ = _ from cRf) (show _ < w3.heap.size by omega); replace hsz : w.heap.size + 2 ≤ wF.heap.size := Nat.le_trans hsz kF.size)
        | (go_at_call 79; refine (identityGridF n wF (by omega)).mono ?_; rintro e wI ⟨vI, vsI, rfl, oI, kI⟩; replace oF := oF.keep kI (by omega); replace kk := turn_trans kk kI (by omega); replace cB := cell_turn kI cB (by omega); replace cR := cell_turn kI cR (by omega); replace cRf := frozen_turn kI cRf (by omega); replace hsz : w.heap.size + 2 ≤ wI.heap.size := Nat.le_trans hsz kI.size)
        | (go_at_call 79; refine (identityGridF n w3.drew (by omega)).mono ?_; rintro e wI ⟨vI, vsI, rfl, oI, kI⟩; have kk := KK3.out.undrew' kI; have HSI := Lib.hid ((show SeenM w3.drew (.slice A n cp) (mkM n n (ent L)) from HS4.out).touch kI); replace cB := cell_turn kI (show w3.drew.cell? _ = _ from cB) (show _ < w3.heap.size by omega); replace cR := cell_turn kI (show w3.drew.cell? _ = _ from cR) (show _ < w3.heap.size by omega); replace cRf := frozen_turn kI (show w3.drew.frozen? _ = _ from cRf) (show _ < w3.heap.size by omega); replace hsz : w.heap.size + 2 ≤ wI.heap.size := Nat.le_trans hsz kI.size)
        | (go_at_call 78; refine (fieldGrid_own n n (ent L) _ wI HSI.out g1 (by omega) (by omega)).mono ?_; rintro e wF ⟨vF, vsF, rfl, oF, kF⟩; replace oI := oI.keep kF (by omega); replace kk := turn_trans kk kF (by omega); replace cB := cell_turn kF cB (by omega); replace cR := cell_turn kF cR (by omega); replace cRf := frozen_turn kF cRf (by omega); replace hsz : w.heap.size + 2 ≤ wF.heap.size := Nat.le_trans hsz kF.size)
        | (go_at_call 77; refine (solved_own n n (ent L) idF _ _ _ oF.seen oI.seen g1 (by omega) (by omega) (HTAB.out.below kk.to_below h0) (by have := kk.size; omega)).mono ?_; rintro e w5 ⟨v5, vs5, rfl, o5, k5⟩; replace kk := turn_trans kk k5 (by omega); replace cB := cell_turn k5 cB (by omega); replace cR := cell_turn k5 cR (by omega); replace cRf := frozen_turn k5 cRf (by omega); replace hsz : w.heap.size + 2 ≤ w5.heap.size := Nat.le_trans hsz k5.size))
    all_goals
      have KK := Lib.hid kk
      have HO5 := Lib.hid o5
      clear kk o5 oF oI k5 kF kI
      by_cases hok : solB (ent L) n = true
      · have HOK := Lib.hid hok
        have HIV : Hid (invOk L = true) := by show invOk L = true; rw [HIS.out]; exact hok
        have e5 : solL (ent L) idF n n = mkM n n (bst (ent L) idF n n) := if_pos hok
        have HS5 : Hid (SeenM w5 v5 (mkM n n (bst (ent L) idF n n))) := by
          show SeenM w5 v5 _
          rw [← e5]; exact HO5.out.seen
        rw [show solOk (ent L) n = true from hok]
        clear hok e5
        go_wp2_with fail
        refine (matrixOf_own n n (bst (ent L) idF n n) _ _ HS5.out g1 (by omega) (by omega)).mono ?_
        rintro e w6 ⟨v6, vs6, rfl, hM6, ht6⟩
        obtain ⟨A', n', c', rfl⟩ := hM6.isSlice
        have hq := cell_turn ht6 cR (by omega)
        have hqf := frozen_turn ht6 cRf (by omega)
        have HF := Lib.hid (ret_store KK.out.to_below hM6 ht6 (w.heap.size + 1) 0 (by omega) (by omega) (.slice A' n' c'))
        clear hM6 ht6
        go_wp2_with fail
        refine bodyPost_ret (v := .tuple #[.agg #[.slice A' n' c'], .bool true]) (by simp [results, Tryd.results61, go_sem, hq]) rfl ?_
        exact ⟨.slice A' n' c', vs6, by rw [HIV.out], by rw [HINV.out HIV.out]; exact HF.out.1, HF.out.2⟩
      · have hok' : solB (ent L) n = false := by simpa using hok
        have HIV : Hid (invOk L = false) := by show invOk L = false; rw [HIS.out]; exact hok'
        rw [show solOk (ent L) n = false from hok']
        clear hok hok'
        go_wp2_with fail
        refine bodyPost_ret (v := .tuple #[.agg #[.slice none 0 0], .bool false]) (by simp [results, Tryd.results61, go_sem, cR]) rfl ?_
        exact ⟨_, [], by rw [HIV.out], by rw [HFAIL.out HIV.out]; exact OwnM.nil _ _ _ _, TurnIn.of_below (KK.out.to_below.setCell (Nat.le_succ _) _)⟩
  · have hg' : squareM L = false := by simpa using hg
    have HIV : Hid (invOk L = false) := by show invOk L = false; unfold invOk; rw [hg']; rfl
    rw [hg']
    clear hg hg'
    go_wp2_with fail
    refine bodyPost_ret (v := .tuple #[.agg #[.slice none 0 0], .bool false]) (by simp [results, Tryd.results61, go_sem, cR]) rfl ?_
    exact ⟨_, [], by rw [HIV.out], by rw [HFAIL.out HIV.out]; exact OwnM.nil _ _ _ _, TurnIn.of_below (KK3.out.to_below.setCell (Nat.le_succ _) _)⟩
end Go.Proofs.YtlkoafnlklhaeabDoor

/- decodedBy, the program's. -/
namespace G294
open Go Go.RowKit
/-- the rows that shards name -/
def usedM (L : Mat) (l : List Sh) : Mat := pickM L (l.map (·.1))
def dbOk (L : Mat) (l : List Sh) : Bool := invOk (usedM L l)
def dbR (L : Mat) (l : List Sh) (n : Nat) : List (List UInt8) := if dbOk L l = true then rowsT l.length l.length n (invF (usedM L l)) (l.map (·.2)) else []
theorem dbR_no {L : Mat} {l : List Sh} {n : Nat} (h : dbOk L l = false) : dbR L l n = [] := if_neg (by rw [h]; simp)
theorem dbR_yes {L : Mat} {l : List Sh} {n : Nat} (h : dbOk L l = true) : dbR L l n = rowsT l.length l.length n (invF (usedM L l)) (l.map (·.2)) := if_pos h
@[simp] theorem usedM_length (L : Mat) (l : List Sh) : (usedM L l).length = l.length := by simp [usedM]
theorem shardsF_texts (r c n : Nat) (F : Ents) (T : List (List UInt8)) : (shardsF r c n F T).map (·.2) = rowsT r c n F T := by
  simp [shardsF, rowsT, mkM, comb]
theorem OwnInts.isSlice {E : TypeId} {w : World} {lo hi : Nat} {v : Value} {l : List Int} (h : OwnInts E w lo hi v l) : ∃ A n c, v = .slice A n c := by
  rcases h.1.2 with ⟨hh, _⟩ | ⟨g, cap, cur, hh, _⟩ <;> exact ⟨_, _, _, hh⟩
/-- behind 'x, ok := f(..)': the result's rows lie in a box -/
def MidBox (T E EE : TypeId) (w2 : World) (L : Mat) (s : Value) (wx : World) : Prop := ∃ B A n c vs, s = .pointer (some ⟨B, 0, none⟩) ∧ w2.heap.size ≤ B ∧ Boxed wx B T (.slice A n c) ∧ OwnM E EE wx w2.heap.size wx.heap.size (.slice A n c) L vs ∧ Below w2.heap.size w2 wx
theorem mid_new {T E EE : TypeId} {w2 w5 : World} {L : Mat} {lo : Nat} {A : Option Addr} {n c : Nat} {vs : List Value} (h : OwnM E EE w5 lo w5.heap.size (.slice A n c) L vs) (hb : Below w2.heap.size w2 w5) (hl : w2.heap.size ≤ lo) : MidBox T E EE w2 L (.pointer (some ⟨w5.heap.size, 0, none⟩)) (w5.alloc (.cells #[.slice A n c] T)) :=
  ⟨w5.heap.size, A, n, c, vs, rfl, hb.size, Boxed.new _ _ _, (h.keep (turn_alloc _ _) (by omega)).wider hl (by simp) (Nat.le_refl _), hb.alloc hb.size _⟩
theorem mid_set {T E EE : TypeId} {w2 w5 : World} {L : Mat} {lo B : Nat} {A : Option Addr} {n c : Nat} {vs : List Value} {u : Value} (h : OwnM E EE w5 lo w5.heap.size (.slice A n c) L vs) (hb : Below w2.heap.size w2 w5) (hl : w2.heap.size ≤ lo) (hB : Boxed w5 B T u) (h1 : w2.heap.size ≤ B) (h2 : B < lo) : MidBox T E EE w2 L (.pointer (some ⟨B, 0, none⟩)) (w5.setCell ⟨B, 0, none⟩ (.slice A n c)) :=
  ⟨B, A, n, c, vs, rfl, h1, hB.set _, (h.keep (turn_setCell w5 B 0 _) (by omega)).wider hl (by simp) (by simp), hb.setCell (p := ⟨B, 0, none⟩) h1 _⟩
end G294
namespace Go.Proofs.YtlkoafnlklhaeabDoor
open Go.RowKit Go.Shelf G294

attribute [local go_sem] Oper.semAt_some

set_option maxRecDepth 100000 in
set_option maxHeartbeats 4000000 in
theorem decodedBy_own (v : Value) (L : Mat) (u : Value) (l : List Sh) (n : Nat) (w : World) (hm : SeenM w v L) (hu : SeenH w u l) (hln : l.length ≤ 1000)
    (hno : ∀ i, i < (l.map (·.1)).length → 0 ≤ (l.map (·.1)).getD i 0 ∧ (l.map (·.1)).getD i 0 < (L.length : Int)) (hn : ∀ j, j < l.length → ((l.map (·.2)).getD j []).length = n) (hn2 : n ≤ 1000) (ht : Tab w) (h0 : 0 < w.heap.size) :
    Calls Tryd.prog 46 #[.agg #[v], u] w (RetStrsOk 9 w (dbR L l n) (dbOk L l)) := by
  have HM0 := Lib.hid hm
  have HU0 := Lib.hid hu
  obtain ⟨A, cp, rfl, hlc, hcm⟩ := hm.len
  obtain ⟨Au, cu, rfl⟩ := hu.len
  unfold maxLen at hcm
  have HNO := Lib.hid hno
  have HTX := Lib.hid hn
  have HT0 := Lib.hid ht
  have HML : Hid ((l.map (·.1)).length ≤ 1048576) := by show _ ≤ _; simp; omega
  have HTL : Hid ((l.map (·.2)).length = l.length) := by show _ = _; simp
  clear hm hu hno hn ht
  have k1 := turn_alloc w (.cells #[.slice A L.length cp] 52)
  have z1 := World.size_alloc w (.cells #[.slice A L.length cp] 52)
  have c1 := alloc_cell w (.slice A L.length cp) 52
  refine (callsIn_wide (n := 5)).1 ?_
  refine callsIn_of_wp_marks Tryd.func46 rfl trivial ?_ rfl
  simp only [Tryd.ntmps46, List.size_toArray, List.length_cons, List.length_nil, Nat.reduceAdd, Nat.reduceSub, Array.replicate_succ, Array.replicate_zero, List.push_toArray, List.append_toArray, List.nil_append, List.cons_append]
  refine wpIn_wide.2 ?_
  go_upto_region 1 with fail
  generalize (w.alloc (.cells #[.slice A L.length cp] 52)) = w2 at *
  have hB2 : Below w2.heap.size w2 w2 := Below.refl _ _
  have l0 : (⟨w.heap.size, 0, none⟩ : Addr).block < w2.heap.size := by show w.heap.size < w2.heap.size; omega
  have HM : Hid (∀ W, Below w2.heap.size w2 W → SeenM W (.slice A L.length cp) L) := fun W h => (HM0.out.touch k1).below h
  have HU : Hid (∀ W, Below w2.heap.size w2 W → SeenH W (.slice Au l.length cu) l) := fun W h => (HU0.out.below k1.to_below).below h
  have HT : Hid (∀ W, Below w2.heap.size w2 W → Tab W ∧ 0 < W.heap.size) := fun W h => ⟨(HT0.out.below k1.to_below h0).below h (by omega), by have := h.size; omega⟩
  have KW := Lib.hid k1
  have HZ1 := Lib.hid z1
  have hz1 : w.heap.size < w2.heap.size := by omega
  clear k1 z1
  go_cut [6, 7] from 10 to 17 (fun s6 s7 wx => s7 = .bool (dbOk L l) ∧ MidBox 52 5 22 w2 (invR (usedM L l)) s6 wx)
  case first =>
    go_region_held3 (fun w' => Below w2.heap.size w2 w' ∧ w'.cell? ⟨w.heap.size, 0, none⟩ = some (.slice A L.length cp))
      (first | exact ⟨hB2.drew, c1⟩ | exact hS5 | exact hS4 | exact hS3 | exact sAlloc (by assumption) l0 _ | exact sSet (by assumption) l0 (by omega) _ | exact sSet (by assumption) l0 (by simp; omega) _)
      (first
        | (go_at_call 63; refine (numbersOf_own _ l _ (HU.out _ (And.left (by assumption))) (by omega)).mono ?_; rintro e w3 ⟨v3, rfl, o3, k3⟩; obtain ⟨A3, n3, c3, rfl⟩ := o3.isSlice; have hS3 := sTurn (by assumption) l0 k3; have hz3 := hS3.1.size; (first | (have bx := boxes1 (undrew k3)) | (have bx := boxes1 k3) | skip))
        | (go_at_call 62; refine (rowsAt_seen _ L _ (l.map (·.1)) _ (HM.out _ (And.left (by assumption))) (by first | exact o3.seen | exact (o3.keep (turn_alloc _ _) (by omega)).seen) HML.out HNO.out).mono ?_; rintro e w4 ⟨A4, n4, c4, rfl, s4, k4⟩; have hS4 := sTurn (by assumption) l0 k4; have hz4 := hS4.1.size; have hk4 := k4.size; (first | (replace bx := Boxed.turn bx k4) | (have bx := boxes1 k4) | skip); (try have bl := Boxed.lt bx))
        | (go_at_call 61; refine (inverseOf_own _ (usedM L l) _ (by first | exact s4 | exact s4.touch (turn_alloc _ _)) (HT.out _ (And.left (by assumption))).1 (HT.out _ (And.left (by assumption))).2).mono ?_; rintro e w5 ⟨v5, vs5, rfl, o5, k5⟩; obtain ⟨A5, n5, c5, rfl⟩ := o5.isSlice; have hS5 := sTurn (by assumption) l0 k5; have hz5 := hS5.1.size; have hk5 := k5.size; (first | (replace bx := Boxed.turn bx k5) | (have bx := boxes1 k5) | skip); (try have bxc := Boxed.cell bx); (try have bxf := Boxed.frozen bx)))
    all_goals (go_wp2_with fail; go_meet; exact ⟨rfl, by first | exact mid_new o5 hS5.1 (by omega) | exact mid_set o5 hS5.1 (by first | omega | (simp <;> omega)) bx (by first | omega | (simp <;> omega)) (by first | omega | (simp <;> omega))⟩)
  case rest =>
    obtain ⟨rfl, B6, A5, n5, c5, vs5, rfl, hB6, bx6, o5, hBx⟩ := hcut
    have HBX := Lib.hid hBx
    have hsx := hBx.size
    have hlx := bx6.lt
    have HBW : Hid (Below w.heap.size w wc) := KW.out.to_below.trans (hBx.mono (by omega))
    clear hBx c1
    by_cases hok : dbOk L l = true
    · have HOK := Lib.hid hok
      have HR := Lib.hid (dbR_yes (n := n) hok)
      have hiv : invOk (usedM L l) = true := hok
      have HIR : Hid (invR (usedM L l) = mkM l.length l.length (invF (usedM L l))) := by
        show invR (usedM L l) = _
        unfold invR
        rw [if_pos hiv, usedM_length]
      have hN : 1 ≤ l.length ∧ l.length ≤ 16 := by
        have h2 : squareM (usedM L l) = true := by simp only [invOk, Bool.and_eq_true] at hiv; exact hiv.1
        have h3 : goodM (usedM L l) = true := by simp only [squareM, Bool.and_eq_true] at h2; exact h2.1
        have h4 := (goodM_iff _).1 h3
        rw [usedM_length] at h4
        exact ⟨h4.1, h4.2.1⟩
      rw [HIR.out] at o5
      rw [hok]
      clear hok hiv
      generalize hNN : l.length = N at *
      have HN := Lib.hid hNN
      clear hNN
      obtain ⟨g5, c5', he5, hg5, hg5', hcp5, hcp5'⟩ := o5.sliceF (by omega)
      simp only [Value.slice.injEq] at he5
      obtain ⟨rfl, hn5, rfl⟩ := he5
      obtain rfl : N = n5 := hn5.symm
      have b8 := Boxed.new wc 35 (.slice none 0 0)
      have k8 := turn_alloc wc (.cells #[.slice none 0 0] 35)
      have z8 := World.size_alloc wc (.cells #[.slice none 0 0] 35)
      have bI := bx6.alloc (.cells #[.slice none 0 0] 35)
      have o8 := o5.keep k8 (by omega)
      go_wp2_with fail
      generalize (wc.alloc (.cells #[.slice none 0 0] 35)) = W8 at *
      have cI := bI.cell
      have HB8 := Lib.hid (k8.base HBW.out (by have := HBW.out.size; omega) (by omega))
      have hS8 : SeenH W8.drew (.slice Au N cu) l := by
        have := HU0.out.below HB8.out
        exact this
      go_region_held3 (fun w' => w'.cell? ⟨B6, 0, none⟩ = some (.slice (some ⟨g5, 0, none⟩) N c5))
        (first | exact cI)
        (first
          | (go_at_call 60; refine (textsOf_own _ l _ hS8 (by rw [HN.out]; omega)).mono ?_; rintro e w9 ⟨v9, rfl, o9, k9⟩; obtain ⟨A9, n9, c9, rfl⟩ := o9.isSlice; replace k9 := undrew k9; replace cI := cell_turn k9 cI (by omega))
          | (go_at_call 42; refine (shardsBy_any _ _ _ _ _).mono ?_; rintro e w' ⟨rfl, rfl⟩; have cI := cell_turn (turn_trans (turn_alloc w9 (.cells #[.slice (some ⟨g5, 0, none⟩) N c5] 52)) (turn_alloc _ (.cells #[.slice A9 n9 c9] 35)) (by omega)) cI (by have := k9.size; omega)))
      have k9s := k9.size
      generalize hn0 : w9.heap.size = h9 at *
      obtain ⟨W0, hW0⟩ : ∃ W0, W0 = ((w9.alloc (.cells #[.slice (some ⟨g5, 0, none⟩) N c5] 52)).alloc (.cells #[.slice A9 n9 c9] 35)) := ⟨_, rfl⟩
      have bM : Boxed W0 h9 52 (.slice (some ⟨g5, 0, none⟩) N c5) := by
        rw [hW0, ← hn0]; exact (Boxed.new w9 _ _).alloc _
      have bT : Boxed W0 (h9 + 1) 35 (.slice A9 n9 c9) := by
        have := Boxed.new (w9.alloc (.cells #[.slice (some ⟨g5, 0, none⟩) N c5] 52)) 35 (.slice A9 n9 c9)
        rw [World.size_alloc, hn0] at this; rw [hW0]; exact this
      have hsz : W0.heap.size = h9 + 2 := by rw [hW0]; simp [hn0]
      have k0 : TurnIn 0 0 w9 W0 := by
        rw [hW0]; exact turn_trans (turn_alloc _ _) (turn_alloc _ _) (by omega)
      have k90 : TurnIn 0 0 W8 W0 := turn_trans k9 k0 (by omega)
      have bS : Boxed W0 wc.heap.size 35 (.slice none 0 0) := Boxed.turn b8 k90
      have hB0 : Below w.heap.size w W0 := k90.base HB8.out (by have := HB8.out.size; omega) (by omega)
      have hM0 := o8.keep k90 (by omega)
      have hT0 := o9.keep k0 (by omega)
      rw [← hW0]
      have HINV : Hid (∀ W W', KeepBut (h9 + 2) wc.heap.size W0 W → (KeepBut (h9 + 2) wc.heap.size W W' ∨ Below W.heap.size W W') → KeepBut (h9 + 2) wc.heap.size W0 W') := fun W W' h h' => by
        rcases h' with h' | h'
        · exact h.trans h'
        · exact h.trans (KeepBut.of_below (h'.mono (by have := h.size; omega)))
      obtain ⟨i0, hi, hz0, hz1', hz2⟩ := info_parts infoStr
      have HM9 := Lib.hid hM0
      have HT9 := Lib.hid hT0
      have HB0 := Lib.hid hB0
      have hbd : wc.heap.size < h9 := by omega
      have hw8 : W8.drew.heap.size = W8.heap.size := rfl
      clear hW0 k0 k90 k9 hM0 hT0 cI o8 o9 b8 bI hn0 hS8
      go_wp2_with fail
      refine (wpIn_wide (n := 5)).1 ?_
      refine wpIn_rangeFunc_ownH rfl (by omega) (gf := 58) (lb := #[.pointer (some ⟨h9, 0, none⟩), .pointer (some ⟨h9 + 1, 0, none⟩)]) rfl trivial (enters_of Tryd.func58 (by kernel_rfl) rfl)
        (shardsBy_stops _ N N n h9 (h9 + 1) (invF (usedM L l)) (l.map (·.2)) (.slice (some ⟨g5, 0, none⟩) N c5) (.slice A9 n9 c9) W0 (KeepBut (h9 + 2) wc.heap.size) (KeepBut (h9 + 2) wc.heap.size W0) HTL.out (by omega) (by omega) (by omega) HTX.out (by omega)
          (fun W hW => ⟨⟨(hW.cell (by omega) (by omega)).trans bM.cell, (hW.cell (by omega) (by omega)).trans bT.cell⟩, ⟨(HM9.out.agree hW.size (fun j h1 h2 => hW.block j (by omega) (by omega))).seen, (HT9.out.agree hW.size (fun j h1 h2 => hW.block j (by omega) (by have : W8.drew.heap.size ≤ j := h1; omega))).seen⟩, HT0.out.below (hW.below HB0.out (by have := HB8.out.size; omega) (by have := HB8.out.size; omega)) h0, by have := hW.size; omega⟩)
          (fun W W' h h' => HINV.out W W' h (.inl h')) (fun W W' h h' => HINV.out W W' h (.inr h')) (fun W h => KeepBut.of_below (h.mono (by omega))) (by omega))
        (fun h h' => h.trans h') (KeepBut.putObj (by omega)) (Below.refl _ _) (fun _ => rfl)
        (fun pre W => (∃ v, Boxed W wc.heap.size 35 v ∧ W.ownsRow (h9 + 2) 9 1 v pre.length (strs (pre.map (·.2))) ∧ True) ∧ Below w.heap.size w W ∧ h9 + 2 ≤ W.heap.size)
        (fun _ _ _ => False)
        (OwnFrom.and (Own.from (holdsRow_own (h9 + 2) wc.heap.size 35 9 1 (fun pre : List Sh => pre.length) (fun pre => strs (pre.map (·.2))) (fun _ _ => True)) _) (OwnFrom.and (ownFrom_below (Nat.le_refl _) (by have := HB0.out.size; omega)) (fun s X Y row hs hg hr => Nat.le_trans hs hg.size)))
        (fun _ _ _ _ _ hs _ _ => hs)
        ⟨⟨_, bS, World.ownsRow_nil _ _ _ _, trivial⟩, HB0.out, by omega⟩
        (fun x a' W => ∃ Bx, h9 + 2 ≤ Bx ∧ W.heap[Bx]? = some (.cells #[.int .i64 x.1, .string (str x.2)] 27 (0, 0)) ∧ a' = { tmps := #[.agg #[.slice A L.length cp], .slice Au N cu, .pointer (some ⟨w.heap.size, 0, none⟩), undef, .slice none 0 0, .bool false,
          .pointer (some ⟨B6, 0, none⟩), .bool true, .pointer (some ⟨wc.heap.size, 0, none⟩), .pointer (some ⟨Bx, 0, none⟩), u10, u11, u12, u13, u14, u15, u16, u17, .bool true, .bool false,
          .agg #[.slice (some ⟨g5, 0, none⟩) N c5], .slice Au N cu, .slice A9 n9 c9, .func (.func 58) #[] #[.pointer (some ⟨h9, 0, none⟩), .pointer (some ⟨h9 + 1, 0, none⟩)], shV x, undef, undef, undef, undef, undef, undef], defers := [] })
        (fun x a' _ X Y row hs hg hr => by
          obtain ⟨Bx, e1, e2, e3⟩ := hs
          refine ⟨Bx, e1, ?_, e3⟩
          rw [hg.block Bx (Array.getElem?_eq_some_iff.1 e2).1 (fun e => by
            obtain ⟨o, ho, hoc⟩ := (hr Bx e.symm).2
            rw [e2] at ho
            cases ho
            simp [Obj.isCells] at hoc)]
          exact e2)
        ?assign ?body ?done ?stop
      case assign =>
        rintro ll pre x W K ⟨⟨v, hv, hrow, _⟩, hBw, hn0⟩ hK
        simp only [shV]
        gi_wp2_with fail
        exact hK _ _ ((KeepsOthers.alloc _ _).from _) (KeepBut.of_below ((Below.refl _ W).alloc hn0 _)) ⟨⟨v, hv.alloc _, hrow.alloc _, trivial⟩, hBw.alloc hBw.size _, by simp; omega⟩ ⟨W.heap.size, hn0, World.alloc_heap_new W _, rfl⟩
      case body =>
        rintro ll pre x a' W hl ⟨rr, hr⟩ ⟨⟨v, hv, hrow, _⟩, hBw, hn0⟩ ⟨Bx, hBx, hX, rfl⟩ hlt
        obtain ⟨no, sx⟩ := x
        have hc := hv.cell
        have cX1 : W.cell? ⟨Bx, 1, none⟩ = some (.string (str sx)) := by simp [World.cell?, hX]
        have HROW := Lib.hid hrow
        clear hrow
        simp only [shV]
        gi_wp2_with (gi_at_builtin; refine wpListIn_append_own _ rfl _ _ 35 rfl (h9 + 2) 9 i0 _ 1 16 Tryd.underlying35 hi hz0 hz1' hz2 rfl (by decide) _ pre.length _ rfl (HROW.out.alloc _) ⟨W.heap.size, 0, none⟩ 1 1 [.string (str sx)] rfl rfl (cell_one_new _ _ _) (by simp [Value.oneCell']) ?b1 ?b2 ?b3 ?_)
        case b1 => unfold maxLen; omega
        case b2 => omega
        case b3 => first | omega | (simp; omega)
        intro v' w3 hown' hgrow _
        obtain ⟨g', cap', rfl⟩ := ownsRow_succ hown'
        obtain ⟨hv1, hv2, hr2, hk2, hb2, hn2'⟩ := collect_step (e0 := w.heap.size) hv (by decide) HROW.out hown' hgrow (by have := HB8.out.size; omega) (by omega) hn0
        have hc1 := hv1.cell
        have hf1 := hv1.frozen
        have hr3 : (w3.setCell ⟨wc.heap.size, 0, none⟩ (.slice (some ⟨g', 0, none⟩) (pre.length + 1) cap')).ownsRow (h9 + 2) 9 1 (.slice (some ⟨g', 0, none⟩) (pre.length + 1) cap') (pre ++ [(no, sx)]).length (strs ((pre ++ [(no, sx)]).map (·.2))) := by
          rw [List.map_append, strs_append]; simpa [strs] using hr2
        clear hr2 hown' hgrow
        gi_wp2_with fail
        exact ⟨hk2.from _, hb2, ⟨⟨_, hv2, hr3, trivial⟩, hb2.below hBw (by have := HB8.out.size; omega) (by have := HB8.out.size; omega), hn2'⟩⟩
      case done =>
        rintro D ys W hD rfl ⟨⟨v, hv, hrow, _⟩, hBw, hn0⟩ hK
        have hc := hv.cell
        go_wp2_with fail
        refine ⟨by simp, .inl ⟨_, _, rfl, run_takeDeferred hK, ?_⟩⟩
        have hown := ownsRow_putObj hrow (.deferred none) hK rfl
        have hBe := hBw.trans (belowK_b (w := w) (Nat.le_refl _) W D _ (.deferred none) (by have := HB0.out.size; omega) hK rfl rfl)
        refine ⟨_, results_tmp2 rfl _ _ _, v, by rw [HOK.out]; rfl, ?_, TurnIn.of_below hBe⟩
        rw [HR.out]
        rw [shardsF_texts] at hown
        refine OwnStrs.of_made (w := w) (own_base ?_ (show w.heap.size ≤ h9 + 2 by have := HB8.out.size; omega))
        rw [rowsT_length]
        simpa using hown
      case stop =>
        rintro D c pre W _ _ h _
        exact h.elim
    · have hok' : dbOk L l = false := by simpa using hok
      have HOK := Lib.hid hok'
      have HR := Lib.hid (dbR_no (n := n) hok')
      rw [hok']
      clear hok hok' o5
      go_wp2_with fail
      refine ⟨_, results_tmp2 rfl _ _ _, .slice none 0 0, by rw [HOK.out]; rfl, ?_, TurnIn.of_below HBW.out⟩
      rw [HR.out]
      exact ⟨World.ownsRow_nil _ _ _ _, Nat.le_refl _, fun g e => by simp [Value.ownBlock] at e⟩

end Go.Proofs.YtlkoafnlklhaeabDoor

/- DecodeShards, the program's. -/
namespace G294
open Go Go.RowKit
theorem used_inv {k : Nat} (l : List Sh) (h1 : 1 ≤ k) (h2 : k ≤ 16) : invOk (mkM k k (usedF k l)) = usedOk k l := by
  have e : ent (mkM k k (usedF k l)) = usedF k l := by rw [used_mk]; rfl
  have g : goodM (mkM k k (usedF k l)) = true := good_mkM _ _ _ h1 h2 h1 h2
  unfold invOk squareM rankN usedOk
  rw [g, wid_mkM _ _ _ (by omega), mkM_length, e]
  simp
theorem used_cod {k q : Nat} {l : List Sh} (hk : k ≤ l.length) (hno : ∀ (i : Nat) (s : Sh), l[i]? = some s → 0 ≤ s.1 ∧ s.1 < ((k + q : Nat) : Int)) : usedM (codM k q) (l.take k) = mkM k k (usedF k l) := by
  have h1 : usedM (codM k q) (l.take k) = pickM (mkM (k + q) k (codF k)) (nosK k l) := rfl
  have hl := nosK_length hk
  rw [h1, pickM_mk (fun i hi => by
    rw [hl] at hi
    rw [nosK_get hk hi]
    exact hno i _ (by simp [List.getD, show i < l.length by omega])), hl, used_mk]
  exact mkM_congr fun i j hi hj => by rw [nosK_get hk hi]; rfl
theorem cod_ok {k q : Nat} {l : List Sh} (hk : k ≤ l.length) (h1 : 1 ≤ k) (h2 : k ≤ 16) (hno : ∀ (i : Nat) (s : Sh), l[i]? = some s → 0 ≤ s.1 ∧ s.1 < ((k + q : Nat) : Int)) : dbOk (codM k q) (l.take k) = usedOk k l := by
  unfold dbOk
  rw [used_cod hk hno, used_inv l h1 h2]
theorem cod_R {k q n : Nat} {l : List Sh} (hk : k ≤ l.length) (h1 : 1 ≤ k) (h2 : k ≤ 16) (hno : ∀ (i : Nat) (s : Sh), l[i]? = some s → 0 ≤ s.1 ∧ s.1 < ((k + q : Nat) : Int)) : dbR (codM k q) (l.take k) n = decY k n l := by
  have e : ent (mkM k k (usedF k l)) = usedF k l := by rw [used_mk]; rfl
  have ht : (l.take k).length = k := by simp; omega
  unfold dbR decY
  rw [cod_ok hk h1 h2 hno, ht, used_cod hk hno]
  unfold invF decX
  rw [e, mkM_length]
  rfl
theorem SeenH.take {w : World} {A : Option Addr} {c : Nat} {l : List Sh} (h : SeenH w (.slice A l.length c) l) (k : Nat) (hk : k ≤ l.length) : SeenH w (.slice A k c) (l.take k) := by
  obtain ⟨A', c', e, h1, h2, h3⟩ := h
  simp only [Value.slice.injEq, true_and] at e
  obtain ⟨rfl, rfl⟩ := e
  have ht : (l.take k).length = k := by simp; omega
  refine ⟨A, c, by rw [ht], by omega, h2, fun h0 => ?_⟩
  rw [ht] at h0
  obtain ⟨b, off, e, hb, hc⟩ := h3 (by omega)
  refine ⟨b, off, e, hb, fun i s hs => hc i s ?_⟩
  rw [List.getElem?_take] at hs
  split at hs
  · exact hs
  · cases hs
end G294
namespace Go.Proofs.YtlkoafnlklhaeabDoor
open Go.RowKit Go.Shelf G294

set_option maxRecDepth 100000 in
set_option maxHeartbeats 4000000 in
theorem decodeShards_own (v : Value) (l : List Sh) (k m : Int) (w : World) (hv : SeenH w v l) (hln : l.length ≤ 1048576) (ht : Tab w) (h0 : 0 < w.heap.size) :
    Calls Tryd.prog 21 #[v, .int .i64 k, .int .i64 m] w (RetStrsOk 9 w (decR l k m) (decOk l k m)) := by
  have HV := Lib.hid hv
  have HTB := Lib.hid ht
  obtain ⟨A, cp, rfl, hlc, hcm, hx⟩ := hv
  unfold maxLen at hcm
  clear ht
  by_cases hs : shapeOk k m = true
  · have HS := Lib.hid hs
    have hbs := shapeOk_b hs
    obtain ⟨p, rfl⟩ := Int.eq_ofNat_of_zero_le (show 0 ≤ k by omega)
    obtain ⟨q, rfl⟩ := Int.eq_ofNat_of_zero_le (show 0 ≤ m by omega)
    have HR1 := Lib.hid (codR_yes hs)
    have hp8 : 1 ≤ p ∧ p ≤ 8 := by omega
    have hq6 : 1 ≤ q ∧ q ≤ 6 := by omega
    clear hs
    have HPRE : Hid (preOk l p q = (shardsOk l ((p + q : Nat) : Int) && decide (p ≤ l.length))) := by
      show preOk l p q = _
      unfold preOk
      rw [HS.out, show (p : Int) + (q : Int) = ((p + q : Nat) : Int) by omega]
      simp
    have HNO : Hid (shardsOk l ((p + q : Nat) : Int) = true → ∀ (i : Nat) (s : Sh), l[i]? = some s → 0 ≤ s.1 ∧ s.1 < ((p + q : Nat) : Int)) := fun h => shards_no (by rw [show (p : Int) + (q : Int) = ((p + q : Nat) : Int) by omega]; exact h)
    by_cases hlen : p ≤ l.length
    · have hlb : decide (l.length < p) = false := by simpa using hlen
      obtain ⟨b, off, rfl, hbl, hcell⟩ := hx (by omega)
      clear hx hcell
      generalize hL : l.length = Ln at *
      have HL := Lib.hid hL
      clear hL
      go_enter Tryd.func21, Tryd.ntmps21
      go_wp2_with fail
      refine (codeMatrix_own p q _ HTB.out h0).mono ?_
      rintro e w1 ⟨v1, vs1, rfl, hM1, k1⟩
      rw [HR1.out] at hM1
      rw [HS.out]
      have hpr : 0 < (codM p q).length := by simp [codM]; omega
      obtain ⟨g1, cp1, rfl, hg1, hg1', hcp1, hcp1'⟩ := hM1.slice hpr
      have hlr : (codM p q).length = p + q := by simp [codM]
      rw [hlr] at hM1 hcp1 ⊢
      clear hpr hlr
      generalize hr : p + q = r at *
      have HRR := Lib.hid hr
      clear hr
      have hs1 := k1.size
      have a1 := turn_alloc w1 (.cells #[.slice (some ⟨g1, 0, none⟩) r cp1] 52)
      have z1 := World.size_alloc w1 (.cells #[.slice (some ⟨g1, 0, none⟩) r cp1] 52)
      have c1 := alloc_cell w1 (.slice (some ⟨g1, 0, none⟩) r cp1) 52
      have hB1 : Below w.heap.size w (w1.alloc (.cells #[.slice (some ⟨g1, 0, none⟩) r cp1] 52)) := a1.base k1.to_below (by omega) (by omega)
      replace hM1 := hM1.keep a1 (by omega)
      go_wp2_with fail
      refine (goodShards_any _ l _ _ (HV.out.below hB1) (by rw [HL.out]; omega)).mono ?_
      rintro e w3 ⟨rfl, k3⟩
      have hs3 := k3.size
      have HB3 := Lib.hid (k3.base hB1 (by omega) (by omega))
      have HM3 := Lib.hid (hM1.keep k3 (by omega))
      have c3 := cell_turn k3 c1 (by omega)
      clear hM1 c1 a1 hB1 k3
      by_cases hsh : shardsOk l (r : Int) = true
      · have hpre : preOk l p q = true := by rw [HPRE.out, hsh]; simpa using hlen
        have HO := Lib.hid (decOk_yes hpre)
        have HR := Lib.hid (decR_yes hpre)
        have hno := HNO.out hsh
        have hno' : ∀ (i : Nat) (s : Sh), l[i]? = some s → 0 ≤ s.1 ∧ s.1 < ((p + q : Nat) : Int) := by rw [HRR.out]; exact hno
        have hl1 : p ≤ l.length := by rw [HL.out]; exact hlen
        have HDO := Lib.hid (cod_ok hl1 hp8.1 (by omega) hno')
        have HDR := Lib.hid (cod_R (n := lenH l) hl1 hp8.1 (by omega) hno')
        have HTX : Hid (∀ j, j < (l.take p).length → (((l.take p).map (·.2)).getD j []).length = lenH l) := fun j hj => by
          have hj' : j < p := by simp at hj; omega
          have : j < l.length := by omega
          have e := shards_len hsh j l[j] (List.getElem?_eq_getElem this)
          have e2 : ((l.take p).map (·.2)).getD j [] = l[j].2 := by simp [List.getD, this, hj']
          rw [e2]; exact e
        have h40 := shards_40 hsh
        have HNN : Hid (∀ i, i < ((l.take p).map (·.1)).length → 0 ≤ ((l.take p).map (·.1)).getD i 0 ∧ ((l.take p).map (·.1)).getD i 0 < ((codM p q).length : Int)) := fun i hi => by
          have hi' : i < p := by simp at hi; omega
          have hil : i < l.length := by omega
          have e2 : ((l.take p).map (·.1)).getD i 0 = l[i].1 := by simp [List.getD, hil, hi']
          rw [e2, show (codM p q).length = p + q by simp [codM]]
          exact hno' i l[i] (List.getElem?_eq_getElem hil)
        have HSV : Hid (∀ W, Below w.heap.size w W → SeenH W (.slice (some ⟨b, off, none⟩) p cp) (l.take p)) := fun W hb => SeenH.take (by rw [HL.out]; exact HV.out.below hb) p hl1
        have hpc : (p : Int) ≤ (cp : Int) := by omega
        have hp0 : (0 : Int) ≤ (p : Int) := by omega
        rw [hsh]
        clear hsh hno hno' hl1 hpre
        have hlt3 : w1.heap.size < w3.heap.size := by omega
        go_wp2_with fail
        go_region_held3 (fun w' => w'.cell? ⟨w1.heap.size, 0, none⟩ = some (.slice (some ⟨g1, 0, none⟩) r cp1))
          (first | exact c3)
          (first | (go_at_call 46; refine (decodedBy_own _ (codM p q) _ (l.take p) (lenH l) (World.drew w3) (show SeenM w3.drew _ _ from HM3.out.seen) (HSV.out _ HB3.out.drew) (by simp; omega) HNN.out HTX.out (by omega) (HTB.out.below HB3.out.drew h0) (show _ < w3.heap.size by have := HB3.out.size; omega)).mono ?_; rintro e w5 ⟨v5, rfl, o5, k5⟩; replace k5 := undrew k5; replace c3 := cell_turn k5 c3 hlt3))
        all_goals
          rw [HDO.out] at *
          rw [HDR.out] at *
          go_wp2_with fail
          go_ret2
          refine ⟨v5, by rw [HO.out]; rfl, ?_, TurnIn.of_below (k5.base HB3.out (by have := HB3.out.size; omega) (by omega))⟩
          rw [HR.out]
          exact ⟨own_base o5.1 (by show w.heap.size ≤ w3.heap.size; have := HB3.out.size; omega), o5.2⟩
      · have hsh' : shardsOk l (r : Int) = false := by simpa using hsh
        have hpre : preOk l p q = false := by rw [HPRE.out, hsh']; rfl
        have HO := Lib.hid (decOk_no hpre)
        have HR := Lib.hid (decR_no hpre)
        rw [hsh']
        clear hsh hsh' hpre
        go_wp2_with fail
        go_ret2
        exact ⟨.slice none 0 0, by rw [HO.out]; rfl, by rw [HR.out]; exact ⟨World.ownsRow_nil _ _ _ _, Nat.le_refl _, fun g e => by simp [Value.ownBlock] at e⟩, TurnIn.of_below HB3.out⟩
    · have hlb : decide (l.length < p) = true := by simpa using hlen
      clear hx
      have hpre : preOk l p q = false := by rw [HPRE.out]; simp; omega
      have HO := Lib.hid (decOk_no hpre)
      have HR := Lib.hid (decR_no hpre)
      clear hpre
      generalize hL : l.length = Ln at *
      clear hL
      go_enter Tryd.func21, Tryd.ntmps21
      go_wp2_with fail
      refine (codeMatrix_own p q _ HTB.out h0).mono ?_
      rintro e w1 ⟨v1, vs1, rfl, hM1, k1⟩
      obtain ⟨A1, n1, c1, rfl⟩ := hM1.isSlice
      rw [HS.out]
      have hs1 := k1.size
      have a1 := turn_alloc w1 (.cells #[.slice A1 n1 c1] 52)
      have hB1 : Below w.heap.size w (w1.alloc (.cells #[.slice A1 n1 c1] 52)) := a1.base k1.to_below (by omega) (by omega)
      clear hM1
      go_wp2_with fail
      go_ret2
      exact ⟨.slice none 0 0, by rw [HO.out]; rfl, by rw [HR.out]; exact ⟨World.ownsRow_nil _ _ _ _, Nat.le_refl _, fun g e => by simp [Value.ownBlock] at e⟩, TurnIn.of_below hB1⟩
  · have hs1 : shapeOk k m = false := by simpa using hs
    have HS := Lib.hid hs1
    have hpre : preOk l k m = false := by rw [preOk, hs1]; simp
    have HO := Lib.hid (decOk_no hpre)
    have HR := Lib.hid (decR_no hpre)
    clear hpre hs hs1 hx
    go_enter Tryd.func21, Tryd.ntmps21
    go_wp2_with fail
    refine (codeMatrix_own k m _ HTB.out h0).mono ?_
    rintro e w1 ⟨v1, vs1, rfl, hM1, k1⟩
    obtain ⟨A1, n1, c1, rfl⟩ := hM1.isSlice
    rw [HS.out]
    have hs1 := k1.size
    have a1 := turn_alloc w1 (.cells #[.slice A1 n1 c1] 52)
    have hB1 : Below w.heap.size w (w1.alloc (.cells #[.slice A1 n1 c1] 52)) := a1.base k1.to_below (by omega) (by omega)
    clear hM1
    go_wp2_with fail
    go_ret2
    exact ⟨.slice none 0 0, by rw [HO.out]; rfl, by rw [HR.out]; exact ⟨World.ownsRow_nil _ _ _ _, Nat.le_refl _, fun g e => by simp [Value.ownBlock] at e⟩, TurnIn.of_below hB1⟩

end Go.Proofs.YtlkoafnlklhaeabDoor

/- remade: the iterator over the shards that EncodeShards makes of DecodeShards. -/
namespace G294
open Go Go.RowKit
/-- the iterator's closure, and what it holds -/
def MadeIt (TM TS E EE ES : TypeId) (g : Nat) (w : World) (l : List Sh) (k m : Nat) (s : Value) (w' : World) : Prop := ∃ Bm Bt A n c At nt ct vs, s = .func (.func g) #[] #[.pointer (some ⟨Bm, 0, none⟩), .pointer (some ⟨Bt, 0, none⟩)] ∧ Boxed w' Bm TM (.slice A n c) ∧ Boxed w' Bt TS (.slice At nt ct) ∧ w.heap.size ≤ Bm ∧ w.heap.size ≤ Bt ∧
  OwnM E EE w' w.heap.size w'.heap.size (.slice A n c) (codM k m) vs ∧ OwnStrs ES w' w.heap.size w'.heap.size (.slice At nt ct) (decR l k m) ∧ TurnIn 0 0 w w'
theorem decR_row {l : List Sh} {k m : Nat} (h : decOk l k m = true) : ∀ j, j < k → ((decR l k m).getD j []).length = lenH l := fun j hj => by
  have hp : preOk l k m = true := by
    unfold decOk at h; simp only [Bool.and_eq_true] at h; exact h.1
  have hu : usedOk k l = true := by rw [decOk_yes hp] at h; exact h
  rw [decR_yes hp, decY_yes hu]
  unfold decX rowsT
  rw [mkM_getD _ _ _ _ hj, mkRow_length]
theorem decR_length {l : List Sh} {k m : Nat} (h : decOk l k m = true) : (decR l k m).length = k := by
  have hp : preOk l k m = true := by
    unfold decOk at h; simp only [Bool.and_eq_true] at h; exact h.1
  have hu : usedOk k l = true := by rw [decOk_yes hp] at h; exact h
  rw [decR_yes hp, decY_yes hu]
  unfold decX
  rw [rowsT_length]
theorem decOk_shape {l : List Sh} {k m : Int} (h : decOk l k m = true) : shapeOk k m = true := by
  unfold decOk preOk at h
  simp only [Bool.and_eq_true] at h
  exact h.1.1.1
theorem decOk_shards {l : List Sh} {k m : Int} (h : decOk l k m = true) : shardsOk l (k + m) = true := by
  unfold decOk preOk at h
  simp only [Bool.and_eq_true] at h
  exact h.1.1.2
end G294
namespace Go.Proofs.YtlkoafnlklhaeabDoor
open Go.RowKit Go.Shelf G294

set_option maxRecDepth 100000 in
set_option maxHeartbeats 2000000 in
theorem remade_no (v : Value) (l : List Sh) (k m : Int) (w : World) (hv : SeenH w v l) (hln : l.length ≤ 1048576) (ht : Tab w) (h0 : 0 < w.heap.size) (hd : decOk l k m = false) :
    Calls Tryd.prog 28 #[v, .int .i64 k, .int .i64 m] w fun e w' => e = .returned (.tuple #[.nilFunc, .bool false]) ∧ TurnIn 0 0 w w' := by
  have HV := Lib.hid hv
  have HTB := Lib.hid ht
  have HD := Lib.hid hd
  obtain ⟨A, cp, rfl⟩ := hv.len
  clear hv ht hd
  go_enter Tryd.func28, Tryd.ntmps28
  go_wp2_with fail
  refine (decodeShards_own _ l k m _ HV.out hln HTB.out h0).mono ?_
  rintro e w1 ⟨v1, rfl, o1, k1⟩
  obtain ⟨A1, n1, c1, rfl⟩ := o1.isSlice
  rw [HD.out]
  clear o1
  go_wp2_with fail
  go_ret2
  exact ⟨rfl, k1⟩

set_option maxRecDepth 100000 in
set_option maxHeartbeats 2000000 in
theorem remade_yes (v : Value) (l : List Sh) (p q : Nat) (w : World) (hv : SeenH w v l) (hln : l.length ≤ 1048576) (ht : Tab w) (h0 : 0 < w.heap.size) (hd : decOk l p q = true) :
    Calls Tryd.prog 28 #[v, .int .i64 p, .int .i64 q] w fun e w' => ∃ s, e = .returned (.tuple #[s, .bool true]) ∧ MadeIt 52 35 5 22 9 58 w l p q s w' := by
  have HV := Lib.hid hv
  have HTB := Lib.hid ht
  have HD := Lib.hid hd
  have HSH := Lib.hid (decOk_shape hd)
  have HR1 := Lib.hid (codR_yes (decOk_shape hd))
  obtain ⟨A, cp, rfl⟩ := hv.len
  clear hv ht hd
  go_enter Tryd.func28, Tryd.ntmps28
  go_wp2_with fail
  refine (decodeShards_own _ l p q _ HV.out hln HTB.out h0).mono ?_
  rintro e w1 ⟨v1, rfl, o1, k1⟩
  obtain ⟨A1, n1, c1, rfl⟩ := o1.isSlice
  rw [HD.out]
  have hs1 := k1.size
  have HO1 := Lib.hid o1
  clear o1
  go_wp2_with fail
  refine (codeMatrix_own p q _ (HTB.out.below k1.to_below h0) (by omega)).mono ?_
  rintro e w2 ⟨v2, vs2, rfl, hM2, k2⟩
  rw [HR1.out] at hM2
  rw [HSH.out]
  obtain ⟨A2, n2, c2, rfl⟩ := hM2.isSlice
  have hs2 := k2.size
  have a3 := turn_alloc w2 (.cells #[.slice A2 n2 c2] 52)
  have z3 := World.size_alloc w2 (.cells #[.slice A2 n2 c2] 52)
  have HM2 := Lib.hid (hM2.keep a3 (by omega))
  have HO2 := Lib.hid ((HO1.out.keep k2 (by omega)).keep a3 (by omega))
  have K13 := Lib.hid (turn_trans (turn_trans k1 k2 (by omega)) a3 (by omega))
  have hz3 : w.heap.size + 1 ≤ (w2.alloc (.cells #[.slice A2 n2 c2] 52)).heap.size := by omega
  have hz4 : w2.heap.size + 1 ≤ (w2.alloc (.cells #[.slice A2 n2 c2] 52)).heap.size := by omega
  clear hM2 z3
  go_wp2_with fail
  generalize (w2.alloc (.cells #[.slice A2 n2 c2] 52)) = w3 at *
  refine (shardsBy_any _ _ _ _ _).mono ?_
  rintro e w' ⟨rfl, rfl⟩
  go_wp2_with fail
  go_ret2
  have b1 := (Boxed.new w3 52 (.slice A2 n2 c2)).alloc (.cells #[.slice A1 n1 c1] 35)
  have b2 := Boxed.new (w3.alloc (.cells #[.slice A2 n2 c2] 52)) 35 (.slice A1 n1 c1)
  rw [World.size_alloc] at b2
  have kk : TurnIn 0 0 w3 ((w3.alloc (.cells #[.slice A2 n2 c2] 52)).alloc (.cells #[.slice A1 n1 c1] 35)) := turn_trans (turn_alloc _ _) (turn_alloc _ _) (by omega)
  refine ⟨_, rfl, w3.heap.size, w3.heap.size + 1, _, _, _, _, _, _, vs2, rfl, b1, b2, by omega, by omega, ?_, ?_, turn_trans K13.out kk (by omega)⟩
  · exact (HM2.out.keep kk (by omega)).wider (by omega) (by simp; omega) (Nat.le_refl _)
  · have o := HO2.out.keep kk (by omega)
    exact ⟨o.1, Nat.le_refl _, fun g hg => by have := o.2.2 g hg; simp; omega⟩

end Go.Proofs.YtlkoafnlklhaeabDoor

/- RebuildShard: its mathematics; the model's. -/
namespace G294
open Go Go.RowKit
def rebOk (l : List Sh) (k m no : Int) : Bool := decOk l k m && decide (0 ≤ no ∧ no ≤ k + m - 1)
def rebR (l : List Sh) (k m no : Int) : Sh := if rebOk l k m no = true then (no, comb k.toNat (lenH l) (codF k.toNat no.toNat) (decR l k m)) else (0, [])
theorem rebR_no {l : List Sh} {k m no : Int} (h : rebOk l k m no = false) : rebR l k m no = (0, []) := if_neg (by rw [h]; simp)
theorem rebR_yes {l : List Sh} {k : Nat} {m no : Int} (h : rebOk l k m no = true) : rebR l k m no = (no, comb k (lenH l) (codF k no.toNat) (decR l k m)) := by unfold rebR; rw [if_pos h]; simp
/-- a shard and a bool are returned -/
def RetShOk (w : World) (x : Sh) (ok : Bool) (e : Ending) (w' : World) : Prop := e = .returned (.tuple #[.agg #[.int .i64 x.1, .string (str x.2)], .bool ok]) ∧ TurnIn 0 0 w w'
theorem str_nil' : str [] = ByteArray.mk #[] := rfl
end G294
namespace Go.Proofs.YtlkoafnlklhaeabDoor
open Go.RowKit Go.Shelf G294

set_option maxRecDepth 100000 in
set_option maxHeartbeats 2000000 in
theorem sRebuildShard_own (v : Value) (l : List Sh) (k m no : Int) (w : World) (hv : SeenH w v l) :
    Calls Tryd.prog 7 #[v, .int .i64 k, .int .i64 m, .int .i64 no] w (RetShOk w (rebR l k m no) (rebOk l k m no)) := by
  have HV := Lib.hid hv
  obtain ⟨A, cp, rfl⟩ := hv.len
  clear hv
  have a1 := turn_alloc w (.cells #[.int .i64 0, .string ⟨#[]⟩] 27)
  have z1 := World.size_alloc w (.cells #[.int .i64 0, .string ⟨#[]⟩] 27)
  have c0 : (w.alloc (.cells #[.int .i64 0, .string ⟨#[]⟩] 27)).cell? ⟨w.heap.size, 0, none⟩ = some (.int .i64 0) := by simp
  have c1 : (w.alloc (.cells #[.int .i64 0, .string ⟨#[]⟩] 27)).cell? ⟨w.heap.size, 1, none⟩ = some (.string ⟨#[]⟩) := by simp
  have f0 : (w.alloc (.cells #[.int .i64 0, .string ⟨#[]⟩] 27)).frozen? ⟨w.heap.size, 0, none⟩ = false := by simp
  have f1 : (w.alloc (.cells #[.int .i64 0, .string ⟨#[]⟩] 27)).frozen? ⟨w.heap.size, 1, none⟩ = false := by simp
  by_cases hd : decOk l k m = true
  · have HD := Lib.hid hd
    have hbs := shapeOk_b (decOk_shape hd)
    have h40 := shards_40 (decOk_shards hd)
    obtain ⟨p, rfl⟩ := Int.eq_ofNat_of_zero_le (show 0 ≤ k by omega)
    obtain ⟨q, rfl⟩ := Int.eq_ofNat_of_zero_le (show 0 ≤ m by omega)
    have HDL := Lib.hid (decR_length hd)
    have HDR := Lib.hid (decR_row hd)
    clear hd
    by_cases hin : decide (0 ≤ no ∧ no ≤ (p : Int) + q - 1) = true
    · have HI : Hid (inB no 0 ((p : Int) + q - 1) = true) := hin
      have hb : 0 ≤ no ∧ no ≤ (p : Int) + q - 1 := by simpa using hin
      have hok : rebOk l p q no = true := by unfold rebOk; rw [HD.out, hin]; rfl
      have HO := Lib.hid hok
      have HR := Lib.hid (rebR_yes hok)
      clear hin hok
      obtain ⟨t, rfl⟩ := Int.eq_ofNat_of_zero_le hb.1
      go_enter Tryd.func7, Tryd.ntmps7
      go_wp2_with fail
      generalize (w.alloc (.cells #[.int .i64 0, .string ⟨#[]⟩] 27)) = wa at *
      refine (sDecodeShards_own _ l p q _ (HV.out.below a1.to_below)).mono ?_
      rintro e w1 ⟨v1, rfl, o1, k1⟩
      obtain ⟨A1, n1, c1', rfl⟩ := o1.isSlice
      rw [HD.out]
      have hs1 := k1.size
      go_wp2_with fail
      refine (l1In_any _ _ _ _).mono ?_
      rintro e w' ⟨rfl, rfl⟩
      rw [HI.out]
      have HO1 := Lib.hid o1
      clear o1
      go_wp2_with fail
      refine (l3Matrix_own p q _ (by omega) (by omega) (by omega) (by omega)).mono ?_
      rintro e w2 ⟨v2, vs2, rfl, hM2, k2⟩
      obtain ⟨A2, n2, c2, rfl⟩ := hM2.isSlice
      have hs2 := k2.size
      have HM2 := Lib.hid hM2
      have HO2 := Lib.hid (HO1.out.keep k2 (by omega))
      clear hM2
      go_wp2_with fail
      refine (l3Rows_own (p + q) p (lenH l) (codF p) (decR l p q) _ _ _ HM2.out.seen HO2.out.seen HDL.out (by omega) (by omega) (by omega) HDR.out (by omega)).mono ?_
      rintro e w3 ⟨v3, rfl, o3, k3⟩
      have hs3 := k3.size
      have kk := turn_trans (turn_trans k1 k2 (by omega)) k3 (by omega)
      have d0 := cell_turn kk c0 (by omega)
      have d1 := cell_turn kk c1 (by omega)
      have e0 := frozen_turn kk f0 (by omega)
      have e1 := frozen_turn kk f1 (by omega)
      have htl : t < (rowsT (p + q) p (lenH l) (codF p) (decR l p q)).length := by rw [rowsT_length]; omega
      obtain ⟨A3, c3, hv3, _, hcm3, hx3⟩ := o3.seen
      rw [strs_length, rowsT_length] at hv3
      obtain ⟨b3, off3, rfl, hb3, hc3⟩ := hx3 (by rw [strs_length]; omega)
      have hct := hc3 t _ (strs_get _ t htl)
      have hrow : (rowsT (p + q) p (lenH l) (codF p) (decR l p q))[t] = comb p (lenH l) (codF p t) (decR l p q) := by
        simp [rowsT, mkM, comb]
      rw [hrow] at hct
      subst hv3
      unfold maxLen at hcm3
      have ht0 : (0 : Int) ≤ (t : Int) := by omega
      have ht1 : (t : Int) < ((p + q : Nat) : Int) := by omega
      have KF := Lib.hid (turn_trans a1 kk (by omega))
      clear hx3 hc3 hrow htl o3 kk k1 k2 k3
      generalize htx : comb p (lenH l) (codF p t) (decR l p q) = tx at *
      have HTX := Lib.hid htx
      clear htx
      go_wp2_with fail
      refine bodyPost_ret (v := .tuple #[.agg #[.int .i64 t, .string (str tx)], .bool true]) (by simp [results, Tryd.results7, go_sem, d0, d1]) rfl ?_
      refine ⟨by rw [HR.out, HO.out, ← HTX.out, Int.toNat_natCast], TurnIn.of_below ?_⟩
      exact ((KF.out.to_below.setCell (p := ⟨w.heap.size, 0, none⟩) (Nat.le_refl _) _).setCell (p := ⟨w.heap.size, 1, none⟩) (Nat.le_refl _) _)
    · have hin' : decide (0 ≤ no ∧ no ≤ (p : Int) + q - 1) = false := by simpa using hin
      have HI : Hid (inB no 0 ((p : Int) + q - 1) = false) := hin'
      have hok : rebOk l p q no = false := by unfold rebOk; rw [hin']; simp
      have HO := Lib.hid hok
      have HR := Lib.hid (rebR_no hok)
      clear hin hin' hok
      go_enter Tryd.func7, Tryd.ntmps7
      go_wp2_with fail
      generalize (w.alloc (.cells #[.int .i64 0, .string ⟨#[]⟩] 27)) = wa at *
      refine (sDecodeShards_own _ l p q _ (HV.out.below a1.to_below)).mono ?_
      rintro e w1 ⟨v1, rfl, o1, k1⟩
      obtain ⟨A1, n1, c1', rfl⟩ := o1.isSlice
      rw [HD.out]
      clear o1
      go_wp2_with fail
      refine (l1In_any _ _ _ _).mono ?_
      rintro e w' ⟨rfl, rfl⟩
      rw [HI.out]
      have d0 := cell_turn k1 c0 (by omega)
      have d1 := cell_turn k1 c1 (by omega)
      have e0 := frozen_turn k1 f0 (by omega)
      have e1 := frozen_turn k1 f1 (by omega)
      have KF := Lib.hid (turn_trans a1 k1 (by omega))
      clear k1
      go_wp2_with fail
      refine bodyPost_ret (v := .tuple #[.agg #[.int .i64 0, .string ⟨#[]⟩], .bool false]) (by simp [results, Tryd.results7, go_sem, d0, d1]) rfl ?_
      refine ⟨by rw [HR.out, HO.out]; rfl, TurnIn.of_below ?_⟩
      exact ((KF.out.to_below.setCell (p := ⟨w.heap.size, 0, none⟩) (Nat.le_refl _) _).setCell (p := ⟨w.heap.size, 1, none⟩) (Nat.le_refl _) _)
  · have hd' : decOk l k m = false := by simpa using hd
    have HD := Lib.hid hd'
    have hok : rebOk l k m no = false := by unfold rebOk; rw [hd']; simp
    have HO := Lib.hid hok
    have HR := Lib.hid (rebR_no hok)
    clear hd hd' hok
    go_enter Tryd.func7, Tryd.ntmps7
    go_wp2_with fail
    generalize (w.alloc (.cells #[.int .i64 0, .string ⟨#[]⟩] 27)) = wa at *
    refine (sDecodeShards_own _ l k m _ (HV.out.below a1.to_below)).mono ?_
    rintro e w1 ⟨v1, rfl, o1, k1⟩
    obtain ⟨A1, n1, c1', rfl⟩ := o1.isSlice
    rw [HD.out]
    clear o1
    have d0 := cell_turn k1 c0 (by omega)
    have d1 := cell_turn k1 c1 (by omega)
    have e0 := frozen_turn k1 f0 (by omega)
    have e1 := frozen_turn k1 f1 (by omega)
    have KF := Lib.hid (turn_trans a1 k1 (by omega))
    clear k1
    go_wp2_with fail
    refine bodyPost_ret (v := .tuple #[.agg #[.int .i64 0, .string ⟨#[]⟩], .bool false]) (by simp [results, Tryd.results7, go_sem, d0, d1]) rfl ?_
    refine ⟨by rw [HR.out, HO.out]; rfl, TurnIn.of_below ?_⟩
    exact ((KF.out.to_below.setCell (p := ⟨w.heap.size, 0, none⟩) (Nat.le_refl _) _).setCell (p := ⟨w.heap.size, 1, none⟩) (Nat.le_refl _) _)

end Go.Proofs.YtlkoafnlklhaeabDoor

/- CheckShards: its mathematics. -/
namespace G294
open Go Go.RowKit
theorem alloc_pair0' (w : World) (x y : Value) (T : TypeId) : (w.alloc (.cells #[x, y] T)).cell? ⟨w.heap.size, 0, none⟩ = some x := by simp
theorem alloc_pair1' (w : World) (x y : Value) (T : TypeId) : (w.alloc (.cells #[x, y] T)).cell? ⟨w.heap.size, 1, none⟩ = some y := by simp
/-- one round of the comparison: the next to be met, or the end -/
def stp (l : List Sh) (t : Nat) (x : Sh) : Option Nat := if t = l.length then none else if x = l.getD t (0, []) then some (t + 1) else if x.1 = (l.getD t (0, [])).1 then none else some t
def runC (l : List Sh) (pre : List Sh) : Option Nat := pre.foldl (fun o x => o.bind fun t => stp l t x) (some 0)
theorem runC_snoc (l pre : List Sh) (x : Sh) : runC l (pre ++ [x]) = (runC l pre).bind fun t => stp l t x := by simp [runC]
/-- every shard is the one that f makes -/
def matchB (l : List Sh) (f : Nat → List UInt8) : Bool := l.all fun s => decide (s.2 = f s.1.toNat)
theorem matchB_iff (l : List Sh) (f : Nat → List UInt8) : matchB l f = true ↔ ∀ (i : Nat) (s : Sh), l[i]? = some s → s.2 = f s.1.toNat := by
  simp only [matchB, List.all_eq_true, decide_eq_true_eq]
  constructor
  · intro h i s hs; exact h s (List.mem_of_getElem? hs)
  · intro h s hs
    obtain ⟨i, hi⟩ := List.mem_iff_getElem?.1 hs
    exact h i s hi
def chkR (l : List Sh) (k m : Int) : Bool := decOk l k m && matchB l fun j => comb k.toNat (lenH l) (codF k.toNat j) (decR l k m)
theorem chkR_no {l : List Sh} {k m : Int} (h : decOk l k m = false) : chkR l k m = false := by unfold chkR; rw [h]; rfl
theorem chkR_yes {l : List Sh} {k : Nat} {m : Int} (h : decOk l k m = true) : chkR l k m = matchB l fun j => comb k (lenH l) (codF k j) (decR l k m) := by unfold chkR; rw [h]; simp
/-- strictly increasing -/
theorem shards_lt {l : List Sh} {n : Int} (h : shardsOk l n = true) : ∀ (d i : Nat) (s s' : Sh), l[i]? = some s → l[i + d + 1]? = some s' → s.1 < s'.1
  | 0, i, s, s', hs, hs' => by
    have h1 := ((shardsOk_iff l n).1 h (i + 1) s' hs').1.1
    rw [lastNo_succ hs] at h1
    omega
  | d + 1, i, s, s', hs, hs' => by
    have hi : i + d + 1 < l.length := by have := (List.getElem?_eq_some_iff.1 hs').1; omega
    have h1 := shards_lt h d i s l[i + d + 1] hs (List.getElem?_eq_getElem hi)
    have h2 := ((shardsOk_iff l n).1 h (i + (d + 1) + 1) s' hs').1.1
    rw [show i + (d + 1) + 1 = (i + d + 1) + 1 by omega, lastNo_succ (List.getElem?_eq_getElem hi)] at h2
    omega
theorem shards_lt' {l : List Sh} {n : Int} (h : shardsOk l n = true) {i j : Nat} {s s' : Sh} (hij : i < j) (hs : l[i]? = some s) (hs' : l[j]? = some s') : s.1 < s'.1 :=
  shards_lt h (j - i - 1) i s s' hs (by rw [show i + (j - i - 1) + 1 = j by omega]; exact hs')
section
variable {l : List Sh} {n : Int} {f : Nat → List UInt8}
def mk (f : Nat → List UInt8) (j : Nat) : List Sh := (List.range j).map fun (i : Nat) => (((i : Nat) : Int), f i)
theorem mk_succ (f : Nat → List UInt8) (j : Nat) : mk f (j + 1) = mk f j ++ [((j : Int), f j)] := by simp [mk, List.range_succ]
theorem runC_inv (h : shardsOk l n = true) : ∀ (j t : Nat), runC l (mk f j) = some t → t ≤ l.length ∧ (∀ (i : Nat) (s : Sh), i < t → l[i]? = some s → s.2 = f s.1.toNat) ∧ ∀ (i : Nat) (s : Sh), t ≤ i → l[i]? = some s → (j : Int) ≤ s.1
  | 0, t, ht => by
    have : t = 0 := by simpa [runC, mk] using ht.symm
    subst this
    exact ⟨Nat.zero_le _, fun i s hi => by omega, fun i s _ hs => by have := shards_ge h i s hs; omega⟩
  | j + 1, t, ht => by
    rw [mk_succ, runC_snoc] at ht
    cases hr : runC l (mk f j) with
    | none => rw [hr] at ht; cases ht
    | some t0 =>
      rw [hr] at ht
      obtain ⟨a1, a2, a3⟩ := runC_inv h j t0 hr
      simp only [Option.bind_some, stp] at ht
      split at ht
      · cases ht
      · rename_i hne
        have hlt : t0 < l.length := by omega
        have hg : l.getD t0 (0, []) = l[t0] := by simp [List.getD, hlt]
        have hs0 : l[t0]? = some l[t0] := List.getElem?_eq_getElem hlt
        have hge := a3 t0 _ (Nat.le_refl _) hs0
        rw [hg] at ht
        split at ht
        · rename_i hx
          cases ht
          refine ⟨by omega, fun i s hi hs => ?_, fun i s hi hs => ?_⟩
          · by_cases e : i < t0
            · exact a2 i s e hs
            · obtain rfl : i = t0 := by omega
              rw [hs0] at hs
              cases hs
              rw [← hx]; simp
          · have := shards_lt' h (show t0 < i by omega) hs0 hs
            rw [← hx] at this
            simp at this
            omega
        · split at ht
          · cases ht
          · rename_i hx hx1
            cases ht
            refine ⟨a1, a2, fun i s hi hs => ?_⟩
            have h1 : (j : Int) < l[t].1 := by
              rcases Int.lt_or_eq_of_le hge with h | h
              · exact h
              · exact absurd h hx1
            by_cases e : i = t
            · subst e; rw [hs0] at hs; cases hs; omega
            · have := shards_lt' h (show t < i by omega) hs0 hs
              omega
theorem runC_done {r t : Nat} (h : shardsOk l (r : Int) = true) (ht : runC l (mk f r) = some t) : decide (t = l.length) = matchB l f := by
  obtain ⟨a1, a2, a3⟩ := runC_inv h r t ht
  have e : t = l.length := by
    rcases Nat.lt_or_ge t l.length with hlt | hge
    · have h1 := a3 t l[t] (Nat.le_refl _) (List.getElem?_eq_getElem hlt)
      have h2 := ((shardsOk_iff l (r : Int)).1 h t l[t] (List.getElem?_eq_getElem hlt)).1.2
      omega
    · omega
  have h2 : matchB l f = true := (matchB_iff l f).2 fun i s hs => a2 i s (by have := (List.getElem?_eq_some_iff.1 hs).1; omega) hs
  rw [h2]; simpa using e
theorem runC_stop {j t : Nat} (h : shardsOk l n = true) (ht : runC l (mk f j) = some t) (hs : stp l t ((j : Int), f j) = none) : decide (t = l.length) = matchB l f := by
  obtain ⟨a1, a2, a3⟩ := runC_inv h j t ht
  by_cases e : t = l.length
  · have h2 : matchB l f = true := (matchB_iff l f).2 fun i s hs => a2 i s (by have := (List.getElem?_eq_some_iff.1 hs).1; omega) hs
    rw [h2]; simpa using e
  · have hlt : t < l.length := by omega
    have hg : l.getD t (0, []) = l[t] := by simp [List.getD, hlt]
    simp only [stp, if_neg e, hg] at hs
    split at hs
    · cases hs
    · split at hs
      · rename_i hx hx1
        have h2 : matchB l f = false := by
          rw [← Bool.not_eq_true, matchB_iff]
          intro hall
          have := hall t l[t] (List.getElem?_eq_getElem hlt)
          apply hx
          rw [← hx1] at this
          simp at this hx1
          exact Prod.ext hx1 this.symm
        rw [h2]; simpa using e
      · cases hs
end
end G294

/- Any k shards determine the data, and they are found right. -/
namespace G294
/-- an increasing list of numbers below n -/
def risesB (is : List Nat) (n : Nat) : Prop := (∀ i ∈ is, i < n) ∧ is.Pairwise (· < ·)
/-- the shards with these numbers -/
def pickS (k n : Nat) (T : List (List UInt8)) (is : List Nat) : List Sh := is.map fun (i : Nat) => (((i : Nat) : Int), comb k n (codF k i) T)
@[simp] theorem pickS_length (k n : Nat) (T : List (List UInt8)) (is : List Nat) : (pickS k n T is).length = is.length := by simp [pickS]
theorem comb_len (c n : Nat) (f : Nat → UInt8) (T : List (List UInt8)) : (comb c n f T).length = n := by simp [comb]
theorem pickS_getD {k n : Nat} {T : List (List UInt8)} {is : List Nat} {i : Nat} (h : i < is.length) : (pickS k n T is).getD i (0, []) = (((is[i] : Nat) : Int), comb k n (codF k is[i]) T) := by simp [pickS, List.getD, h]
theorem rises_nodup {is : List Nat} {n : Nat} (h : risesB is n) : is.Nodup := h.2.imp fun h e => by omega
theorem code_fullF {k m : Nat} {F : Ents} (is : List Nat) (h : risesB is (k + m)) (hl : k ≤ is.length) (hk : k + m ≤ 256) (hF : ∀ i j (hi : i < is.length), i < k → j < k → F i j = codF k is[i] j) : (est F k k).2 = k := by
  refine rank_full (Nat.le_refl _) fun v hv => ?_
  refine code_ker (m := m) (is.take k) ((rises_nodup h).sublist (List.take_sublist _ _)) (by simp; omega) (fun x hx => h.1 x (List.mem_of_mem_take hx)) hk v (fun x hx => ?_)
  obtain ⟨i, hi, rfl⟩ := List.getElem_of_mem hx
  have hi2 : i < k ∧ i < is.length := by simp only [List.length_take] at hi; omega
  have := hv i (by omega)
  rw [← this]
  exact sumK_congr fun j hj => by rw [hF i j hi2.2 hi2.1 hj, List.getElem_take]
section
variable {k m n : Nat} {T : List (List UInt8)} {is : List Nat}
theorem pick_used {i j : Nat} (hi : i < is.length) (hik : i < k) (hj : j < k) : usedF k (pickS k n T is) i j = codF k is[i] j := by
  unfold usedF
  rw [ent_mkM _ _ _ _ _ hik hj]
  simp only [usedG, pickS_getD hi]; simp
theorem pick_usedOk (h : risesB is (k + m)) (hl : k ≤ is.length) (hk : k + m ≤ 256) : usedOk k (pickS k n T is) = true := by
  simp only [usedOk, decide_eq_true_eq]
  exact code_fullF is h hl hk fun i j hi hik hj => pick_used hi hik hj
theorem pick_txt (hl : k ≤ is.length) {j p : Nat} (hj : j < k) (hp : p < n) : ent (txtK k (pickS k n T is)) j p = sumK k fun t => gmul (codF k (is.getD j 0) t) (ent T t p) := by
  have hj' : j < is.length := by omega
  have e1 : (txtK k (pickS k n T is)).getD j [] = comb k n (codF k (is.getD j 0)) T := by
    simp [txtK, pickS, List.getD, hj', hj]
  show ((txtK k (pickS k n T is)).getD j []).getD p 0 = _
  rw [e1]
  unfold comb
  rw [mkRow_getD _ _ _ hp]
  rfl
/-- decoding gives the data back -/
theorem pick_decX (h : risesB is (k + m)) (hl : k ≤ is.length) (hk : k + m ≤ 256) (hT : T.length = k) (hn : ∀ j, j < k → (T.getD j []).length = n) : decX k n (pickS k n T is) = T := by
  unfold decX rowsT
  rw [eq_mkM hT hn]
  refine mkM_congr fun i p hi hp => ?_
  have hfull : (est (usedF k (pickS k n (mkM k n (ent T)) is)) k k).2 = k := code_fullF is h hl hk fun i j hi hik hj => pick_used hi hik hj
  unfold combF
  have e1 : ∀ j, j < k → gmul (bst (usedF k (pickS k n (mkM k n (ent T)) is)) idF k k i j) (ent (txtK k (pickS k n (mkM k n (ent T)) is)) j p) = sumK k fun t => gmul (gmul (bst (usedF k (pickS k n (mkM k n (ent T)) is)) idF k k i j) (usedF k (pickS k n (mkM k n (ent T)) is) j t)) (ent (mkM k n (ent T)) t p) := fun j hj => by
    rw [pick_txt hl hj hp, ← sumK_mul]
    refine sumK_congr fun t ht => ?_
    rw [pick_used (show j < is.length by omega) hj ht, gmul_assoc]
    congr 2
    simp [List.getD, show j < is.length by omega]
  rw [sumK_congr e1, sumK_swap]
  have e2 : ∀ t, t < k → (sumK k fun j => gmul (gmul (bst (usedF k (pickS k n (mkM k n (ent T)) is)) idF k k i j) (usedF k (pickS k n (mkM k n (ent T)) is) j t)) (ent (mkM k n (ent T)) t p)) = gmul (idF i t) (ent (mkM k n (ent T)) t p) := fun t ht => by
    rw [sumK_mulr, inv_left hfull hi ht]
  rw [sumK_congr e2, sumK_one (k := i) _ hi (fun t ht hne => by simp only [idF]; rw [if_neg (fun e => hne e.symm)]; exact zero_gmul _)]
  simp only [idF, if_true]
  rw [one_gmul, ent_mkM _ _ _ _ _ hi hp]
theorem pick_shardsOk (h : risesB is (k + m)) (hn : n ≤ 40) : shardsOk (pickS k n T is) ((k + m : Nat) : Int) = true := by
  rw [shardsOk_iff]
  intro i s hi
  have hlt : i < is.length := by have := (List.getElem?_eq_some_iff.1 hi).1; simpa using this
  have hs : s = (((is[i] : Nat) : Int), comb k n (codF k is[i]) T) := by
    have e := pickS_getD (k := k) (n := n) (T := T) hlt
    rw [List.getD, hi] at e
    simpa using e
  subst hs
  have h1 := h.1 is[i] (List.getElem_mem hlt)
  have h0 : 0 < is.length := by omega
  refine ⟨⟨?_, by simp; omega⟩, ?_, ?_⟩
  · cases i with
    | zero => simp [lastNo]; omega
    | succ i =>
      have hi' : i < is.length := by omega
      simp only [lastNo]
      rw [pickS_getD hi']
      have := (List.pairwise_iff_getElem.1 h.2) i (i + 1) hi' hlt (by omega)
      simp; omega
  · rw [pickS_getD h0]; simp only [comb_len]
  · simp only [comb_len]; exact hn
theorem pick_lenH (hl : k ≤ is.length) (hk1 : 1 ≤ k) : lenH (pickS k n T is) = n := by
  unfold lenH
  rw [pickS_getD (by omega), comb_len]
/-- k shards of a code or more: decoding tells the data, and the shards are found right -/
theorem any_few (hs : shapeOk k m = true) (h : risesB is (k + m)) (hl : k ≤ is.length) (hT : T.length = k) (hn : ∀ j, j < k → (T.getD j []).length = n) (hn40 : n ≤ 40) :
    decOk (pickS k n T is) k m = true ∧ decR (pickS k n T is) k m = T ∧ chkR (pickS k n T is) k m = true := by
  have hb := shapeOk_b hs
  have hpre : preOk (pickS k n T is) k m = true := by
    unfold preOk
    rw [hs]
    have e : ((k : Int) + (m : Int)) = ((k + m : Nat) : Int) := by omega
    rw [e, pick_shardsOk h hn40]
    simp; omega
  have hu : usedOk k (pickS k n T is) = true := pick_usedOk h hl (by omega)
  have hd : decOk (pickS k n T is) k m = true := by unfold decOk; rw [hpre, Int.toNat_natCast, hu]; rfl
  have hr : decR (pickS k n T is) k m = T := by
    unfold decR
    rw [if_pos hpre, Int.toNat_natCast, pick_lenH hl (by omega)]
    unfold decY
    rw [if_pos hu, pick_decX h hl (by omega) hT hn]
  refine ⟨hd, hr, ?_⟩
  unfold chkR
  rw [hd, hr, Bool.true_and, Int.toNat_natCast, pick_lenH hl (by omega)]
  unfold matchB
  rw [List.all_eq_true]
  intro s hs'
  obtain ⟨i, hi, rfl⟩ := List.mem_map.1 hs'
  simp
end
/-- what someOf answers: the numbers taken so far -/
def takes (n least : Nat) (b : Nat → Bool) : Nat → List Nat
  | 0 => []
  | t + 1 => if n - t ≤ least - (takes n least b t).length ∨ b t = true then takes n least b t ++ [t] else takes n least b t
theorem takes_inv {n least : Nat} (hl : least ≤ n) (b : Nat → Bool) : ∀ t, t ≤ n → risesB (takes n least b t) t ∧ least ≤ (takes n least b t).length + (n - t) ∧ (takes n least b t).length ≤ t
  | 0, _ => ⟨⟨by simp [takes], by simp [takes]⟩, by simp [takes]; omega, by simp [takes]⟩
  | t + 1, ht => by
    obtain ⟨⟨h1, h2⟩, h3, h4⟩ := takes_inv hl b t (by omega)
    unfold takes
    split
    · refine ⟨⟨fun i hi => ?_, ?_⟩, by simp; omega, by simp; omega⟩
      · rcases List.mem_append.1 hi with h | h
        · have := h1 i h; omega
        · simp at h; omega
      · rw [List.pairwise_append]
        exact ⟨h2, by simp, fun a ha c hc => by simp at hc; have := h1 a ha; omega⟩
    · rename_i hc
      exact ⟨⟨fun i hi => by have := h1 i hi; omega, h2⟩, by omega, by omega⟩
end G294
